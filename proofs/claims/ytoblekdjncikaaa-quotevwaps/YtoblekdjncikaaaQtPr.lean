/- Price, of the program and of the document; what ticks and prices have to do with each other. -/
import Derived.Test.YtoblekdjncikaaaQtTk
namespace Go.Proofs.Ytoblekdjncikaaa
open Go.RowKit
set_option linter.unusedSimpArgs false
set_option linter.unusedVariables false

/-- The rung of n / 2^k. -/
def prc (n k : Nat) : Nat := if n = 0 then 0 else frungOf n - k * 4503599627370496
theorem prc_zero (n : Nat) : prc n 0 = frungOf n := by unfold prc; by_cases h : n = 0 <;> simp [h]; rfl
theorem fval_prc {n k : Nat} (h : n ≤ 1099511627776) (hk : k ≤ 20) : fval (prc n k) * 2 ^ k = fval (frungOf n) := by
  obtain ⟨K, hK⟩ := fK_is
  unfold prc
  by_cases h0 : n = 0
  · rw [if_pos h0, h0, show frungOf 0 = 0 from rfl, fval_zero, Nat.zero_mul]
  · rw [if_neg h0]
    unfold frungOf
    rw [if_neg h0]
    have hl : n.log2 < 41 := (Nat.log2_lt h0).2 (by omega)
    have h1 := Nat.log2_self_le h0
    have h2 : n < 2 ^ (n.log2 + 1) := Nat.lt_log2_self
    generalize hL : n.log2 = L at *
    have e : 2 ^ L * 2 ^ (52 - L) = 4503599627370496 := by rw [← Nat.pow_add, show L + (52 - L) = 52 by omega]
    have h3 : 4503599627370496 ≤ n * 2 ^ (52 - L) := by rw [← e]; exact Nat.mul_le_mul_right _ h1
    have h4 : n * 2 ^ (52 - L) < 2 * 4503599627370496 := by
      rw [← e, ← Nat.mul_assoc, Nat.mul_comm 2, ← Nat.pow_succ]; exact Nat.mul_lt_mul_of_pos_right h2 (Nat.two_pow_pos _)
    generalize n * 2 ^ (52 - L) = M at *
    rw [show (1022 + L) * 4503599627370496 + M - k * 4503599627370496 = (1022 + L - k + 1) * 4503599627370496 + (M - 4503599627370496) by omega, fval_at _ _ (by omega)]
    rw [show (1022 + L) * 4503599627370496 + M = (1022 + L + 1) * 4503599627370496 + (M - 4503599627370496) by omega, fval_at _ _ (by omega), Nat.mul_assoc, ← Nat.pow_add, show 1022 + L - k + k = 1022 + L by omega]
theorem prc_lt {n k : Nat} (h : n ≤ 1099511627776) : prc n k < 9218868437227405312 := by
  have := frungOf_lt (n := n) (by omega)
  unfold prc; split <;> omega
theorem small_rung {x : Nat} (h : x < 9223372036854775808) : frung x = x ∧ fneg x = false := ⟨by unfold frung; omega, by unfold fneg; rw [Nat.div_eq_of_lt h]; rfl⟩
theorem fword_false (r : Nat) : fword false r = r := rfl
theorem prc_step {n k : Nat} (h : n ≤ 1099511627776) (hk : k < 20) : Ieee.double.div (prc n k) (ftwo 1) = some (prc n (k + 1)) := by
  have hl := prc_lt (k := k) h
  have hl' : prc n k < 9223372036854775808 := by omega
  obtain ⟨hr, hs⟩ := small_rung hl'
  rw [div_two (r := prc n (k + 1)) (by decide) (by rw [hr]; exact hl) ?_, hs, fword_false]
  rw [hr]
  have e1 := fval_prc (n := n) (k := k) h (by omega)
  have e2 := fval_prc (n := n) (k := k + 1) h (by omega)
  rw [← e2, Nat.pow_succ, Nat.mul_comm (2 ^ k) 2, ← Nat.mul_assoc] at e1
  exact Nat.eq_of_mul_eq_mul_right (Nat.two_pow_pos k) (by rw [Nat.pow_one]; exact e1)
theorem prc_once {n k : Nat} (h : n ≤ 1099511627776) (hk : k ≤ 20) : Ieee.double.div (frungOf n) (ftwo k) = some (prc n k) := by
  have hl := frungOf_lt (n := n) (by omega)
  have hl' : frungOf n < 9223372036854775808 := by omega
  obtain ⟨hr, hs⟩ := small_rung hl'
  rw [div_two (r := prc n k) (by omega) (by rw [hr]; exact hl) ?_, hs, fword_false]
  rw [hr, fval_prc h hk]

def priceR (n k : Int) : Nat × Int := if 0 ≤ k ∧ k ≤ 20 ∧ 0 ≤ n ∧ n ≤ 1099511627776 then (prc n.toNat k.toNat, 0) else (0, 1)

theorem price_calls (n k : Int) (w : World) :
    Calls Try.prog 18 #[.int .i64 n, .int .i64 k] w fun e w' => e = .returned (.tuple #[.float .f64 (priceR n k).1, .int .i64 (priceR n k).2]) ∧ w' = w := by
  have hnot : ∀ (x : Bool) (w : World), (Op.unary .not (.bool x)).run Try.prog w = .ok (.bool (!x)) w := fun _ _ => rfl
  by_cases hk : 0 ≤ k ∧ k ≤ 20
  · have hkd : decide (0 ≤ k ∧ k ≤ 20) = true := by simpa using hk
    by_cases h0 : n < 0
    · have hR : priceR n k = (0, 1) := by unfold priceR; rw [if_neg (by omega)]
      rw [hR]
      go_enter Try.func18, Try.ntmps18
      go_wp2_with fail
      refine (isScale_calls k _).mono ?_
      rintro e w1 ⟨rfl, rfl⟩
      rw [hkd]
      go_wp2
      go_ret2
      exact ⟨rfl, rfl⟩
    by_cases h1 : 1099511627776 < n
    · have hR : priceR n k = (0, 1) := by unfold priceR; rw [if_neg (by omega)]
      rw [hR]
      go_enter Try.func18, Try.ntmps18
      go_wp2_with fail
      refine (isScale_calls k _).mono ?_
      rintro e w1 ⟨rfl, rfl⟩
      rw [hkd]
      go_wp2
      go_ret2
      exact ⟨rfl, rfl⟩
    have hR : priceR n k = (prc n.toNat k.toNat, 0) := by unfold priceR; rw [if_pos (by omega)]
    rw [hR]
    obtain ⟨m, rfl⟩ := Int.eq_ofNat_of_zero_le (show 0 ≤ n by omega)
    obtain ⟨j, rfl⟩ := Int.eq_ofNat_of_zero_le (show 0 ≤ k by omega)
    simp only [Int.toNat_natCast]
    have hf := floatOfInt_nat (n := m) (by omega)
    have hq := prc_once (n := m) (k := j) (by omega) (by omega)
    generalize prc m j = r at *
    generalize frungOf m = q at *
    have hop : ∀ t w, (binOp .quo t (.float .f64 q) (.float .f64 (ftwo j))).run Try.prog w = .ok (.float .f64 r) w := fun t w => run_float_arith w .quo t .f64 q _ r hq
    clear hR
    go_enter Try.func18, Try.ntmps18
    go_wp2_with fail
    refine (isScale_calls j _).mono ?_
    rintro e w1 ⟨rfl, rfl⟩
    rw [hkd]
    go_wp2_with fail
    refine (perUnit_calls j _ (by omega)).mono ?_
    rintro e w1 ⟨rfl, rfl⟩
    go_wp2
    go_ret2
    exact ⟨rfl, rfl⟩
  · have hkd : decide (0 ≤ k ∧ k ≤ 20) = false := by simp only [decide_eq_false_iff_not]; exact hk
    have hR : priceR n k = (0, 1) := by unfold priceR; rw [if_neg (by omega)]
    rw [hR]
    go_enter Try.func18, Try.ntmps18
    go_wp2_with fail
    refine (isScale_calls k _).mono ?_
    rintro e w1 ⟨rfl, rfl⟩
    rw [hkd]
    go_wp2
    go_ret2
    exact ⟨rfl, rfl⟩

end Go.Proofs.Ytoblekdjncikaaa
