/- Rank, Less and Alike. -/
import Derived.Test.YtoblekdjncikaaaFl1
namespace Go.Proofs.Ytoblekdjncikaaa
open Go.RowKit
set_option linter.unusedSimpArgs false
set_option linter.unusedVariables false

theorem alike_calls (a b : Nat) (w : World) : Calls Try.prog 10 #[.float .f64 a, .float .f64 b] w fun e w' => e = .returned (.bool (decide (a = b))) ∧ w' = w := by
  have h1 := run_f64bits a
  have h2 := run_f64bits b
  have h3 : ((a : Int) == (b : Int)) = decide (a = b) := by rw [Bool.eq_iff_iff]; simp; omega
  go_enter Try.func10, Try.ntmps10
  go_wp2
  go_ret
  exact ⟨rfl, rfl⟩

def rankR (x : Nat) : Nat := if fnan x then 18446744073709551615 else if fneg x then 18446744073709551615 - x else 9223372036854775808 + x
theorem sign_bits {x : Nat} (hx : x < 18446744073709551616) : (bits .and .u64 (x : Int) 9223372036854775808 != 0) = fneg x := by
  have h := u64_and_nat x 9223372036854775808 hx (by decide)
  rw [show ((9223372036854775808 : Nat) : Int) = 9223372036854775808 from rfl] at h
  rw [h, show (9223372036854775808 : Nat) = 2 ^ 63 from rfl, nat_bit]
  unfold fneg
  rw [show (2 : Nat) ^ 63 = 9223372036854775808 from rfl]
  have : x / 9223372036854775808 % 2 = 0 ∨ x / 9223372036854775808 % 2 = 1 := by omega
  rcases this with h | h <;> rw [h] <;> decide
theorem or_bits {x : Nat} (hx : x < 9223372036854775808) : bits .or .u64 (x : Int) 9223372036854775808 = ((9223372036854775808 + x : Nat) : Int) := by
  have h := u64_or_nat x 9223372036854775808 (by omega) (by decide)
  rw [show ((9223372036854775808 : Nat) : Int) = 9223372036854775808 from rfl] at h
  rw [h, Nat.or_comm, nat_join 63 _ _ (by decide) hx]
theorem not_bits {x : Nat} (hx : x < 18446744073709551616) : bits .xor .u64 (IntKind.max .u64) (x : Int) = ((18446744073709551615 - x : Nat) : Int) := by
  have h := u64_xor_nat 18446744073709551615 x (by decide) hx
  rw [show IntKind.max .u64 = ((18446744073709551615 : Nat) : Int) from rfl, h]
  have h2 : (BitVec.allOnes 64 ^^^ BitVec.ofNat 64 x).toNat = 18446744073709551615 - x := by
    rw [BitVec.allOnes_xor, BitVec.toNat_not, BitVec.toNat_ofNat, Nat.mod_eq_of_lt hx]
  rw [BitVec.toNat_xor, BitVec.toNat_allOnes, BitVec.toNat_ofNat, Nat.mod_eq_of_lt hx] at h2
  rw [show (18446744073709551615 : Nat) = 2 ^ 64 - 1 from rfl] at h2 ⊢
  rw [h2]
theorem rank_calls (x : Nat) (w : World) (hx : x < 18446744073709551616) : Calls Try.prog 27 #[.float .f64 x] w fun e w' => e = .returned (.int .u64 (rankR x)) ∧ w' = w := by
  have h1 := run_f64bits x
  have h2 := sign_bits hx
  cases hn : fnan x
  · cases hs : fneg x
    · rw [hs] at h2
      have h3 := or_bits (x := x) (by unfold fneg at hs; simp at hs; omega)
      go_enter Try.func27, Try.ntmps27
      go_wp2_with fail
      refine (isNaN_calls x _).mono ?_
      rintro e w1 ⟨rfl, rfl⟩
      rw [hn]
      go_wp2
      go_ret
      exact ⟨by simp [rankR, hn, hs], rfl⟩
    · rw [hs] at h2
      go_enter Try.func27, Try.ntmps27
      go_wp2_with fail
      refine (isNaN_calls x _).mono ?_
      rintro e w1 ⟨rfl, rfl⟩
      rw [hn]
      go_wp2
      go_ret
      exact ⟨by simp [rankR, hn, hs, not_bits hx], rfl⟩
  · go_enter Try.func27, Try.ntmps27
    go_wp2_with fail
    refine (isNaN_calls x _).mono ?_
    rintro e w1 ⟨rfl, rfl⟩
    rw [hn]
    go_wp2
    go_ret
    exact ⟨by simp [rankR, hn], rfl⟩
def lessR (a b : Nat) : Bool := decide (rankR a < rankR b)
theorem less_calls (a b : Nat) (w : World) (ha : a < 18446744073709551616) (hb : b < 18446744073709551616) : Calls Try.prog 19 #[.float .f64 a, .float .f64 b] w fun e w' => e = .returned (.bool (lessR a b)) ∧ w' = w := by
  have h3 : decide ((rankR a : Int) < (rankR b : Int)) = lessR a b := by unfold lessR; rw [Bool.eq_iff_iff]; simp
  go_enter Try.func19, Try.ntmps19
  go_wp2_with fail
  refine (rank_calls a _ ha).mono ?_
  rintro e w1 ⟨rfl, rfl⟩
  go_wp2_with fail
  refine (rank_calls b _ hb).mono ?_
  rintro e w1 ⟨rfl, rfl⟩
  go_wp2
  go_ret
  exact ⟨rfl, rfl⟩
end Go.Proofs.Ytoblekdjncikaaa
