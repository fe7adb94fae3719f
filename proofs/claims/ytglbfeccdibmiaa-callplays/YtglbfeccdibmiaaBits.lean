/- Numbers to the base 128 by bits: plain arithmetic. -/
import Derived.WalkKit
import Derived.Handy
namespace Go.Proofs.Ytglbfeccdibmiaa
open Go.RowKit
set_option linter.unusedSimpArgs false
set_option linter.unusedVariables false

theorem pow128 (k : Nat) : (128 : Nat) ^ k = 2 ^ (7 * k) := by
  rw [Nat.pow_mul]

theorem wraps_i64 (n : Int) (h₀ : 0 ≤ n) (h₁ : n < 2 ^ 63) : IntKind.i64.wrap n = n := by rw [IntKind.wrap_i64]; omega

theorem and127 (c : Nat) (hc : c < 256) : bits .and .u8 (c : Int) 127 = ((c % 128 : Nat) : Int) := by
  have h := bits_mask .u8 8 (by decide) wraps_u8 7 (by decide) (c : Int) (by omega) (by omega)
  have e : (2 : Int) ^ 7 - 1 = 127 := by decide
  rw [e] at h
  rw [h]; simp

theorem and127i (n : Nat) (hn : n < 9223372036854775808) : bits .and .i64 (n : Int) 127 = ((n % 128 : Nat) : Int) := by
  have h := bits_mask .i64 63 (by decide) wraps_i64 7 (by decide) (n : Int) (by omega) (by omega)
  have e : (2 : Int) ^ 7 - 1 = 127 := by decide
  rw [e] at h
  rw [h]; simp

theorem or128 (c : Nat) (hc : c < 128) : bits .or .u8 (c : Int) 128 = ((128 + c : Nat) : Int) := by
  have h := u8_or_nat c 128 (by omega) (by omega)
  have e : c ||| 128 = 128 + c := by
    rw [Nat.or_comm]; exact nat_join 7 128 c (by decide) hc
  rw [e] at h
  exact h

theorem small128 (c k : Nat) (hk : k ≤ 7) (hc : c < 128) : c * 128 ^ k < 72057594037927936 := by
  have h1 : (128 : Nat) ^ k ≤ 128 ^ 7 := Nat.pow_le_pow_right (by decide) hk
  have h2 : c * 128 ^ k ≤ 127 * 128 ^ 7 := Nat.mul_le_mul (by omega) h1
  have e : (127 : Nat) * 128 ^ 7 < 72057594037927936 := by decide
  omega

theorem or7 (m c k : Nat) (hk : k ≤ 7) (hm : m < 128 ^ k) (hc : c < 256) :
    bits .or .i64 (m : Int) (wrap64 (wrap64 (bits .and .u8 (c : Int) 127) * 2 ^ (7 * k))) = ((m + c % 128 * 128 ^ k : Nat) : Int) := by
  have hs := small128 (c % 128) k hk (by omega)
  have hm7 : m < 72057594037927936 := by
    have h1 : (128 : Nat) ^ k ≤ 128 ^ 7 := Nat.pow_le_pow_right (by decide) hk
    have e : (128 : Nat) ^ 7 < 72057594037927936 := by decide
    omega
  rw [and127 c hc]
  have e1 : wrap64 ((c % 128 : Nat) : Int) = ((c % 128 : Nat) : Int) := by unfold wrap64; omega
  rw [e1]
  have e2 : ((c % 128 : Nat) : Int) * 2 ^ (7 * k) = ((c % 128 * 128 ^ k : Nat) : Int) := by
    rw [pow128]; simp
  rw [e2]
  have e3 : wrap64 ((c % 128 * 128 ^ k : Nat) : Int) = ((c % 128 * 128 ^ k : Nat) : Int) := by unfold wrap64; omega
  rw [e3, (bits_nat .i64 63 (by decide) wraps_i64 m _ (by omega) (by omega)).2, Nat.or_comm]
  have hmod : (c % 128 * 128 ^ k) % 2 ^ (7 * k) = 0 := by rw [pow128]; exact Nat.mul_mod_left _ _
  rw [nat_join (7 * k) _ m hmod (by rw [← pow128]; exact hm)]
  congr 1; omega

theorem lt128 (m c k : Nat) (hm : m < 128 ^ k) : m + c % 128 * 128 ^ k < 128 ^ (k + 1) := by
  have h : c % 128 ≤ 127 := by omega
  have h2 : c % 128 * 128 ^ k ≤ 127 * 128 ^ k := Nat.mul_le_mul_right _ h
  rw [Nat.pow_succ]; omega
end Go.Proofs.Ytglbfeccdibmiaa
