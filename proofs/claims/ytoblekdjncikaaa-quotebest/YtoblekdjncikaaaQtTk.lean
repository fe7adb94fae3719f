/- Ticks and Price, of the program and of the document, for every price and scale. -/
import Derived.Test.YtoblekdjncikaaaFl1
namespace Go.Proofs.Ytoblekdjncikaaa
open Go.RowKit
set_option linter.unusedSimpArgs false
set_option linter.unusedVariables false

/-- What a float that stands for so many ticks comes to. -/
def tkR (y : Nat) : Int × Int :=
  if flt 4787326403894837248 y then (0, 54)
  else if feq (floatOfInt .f64 (fsgn (fneg y) (fval (frung y) / 2 ^ 1074))) y then (fsgn (fneg y) (fval (frung y) / 2 ^ 1074), 0) else (0, 53)
def ticksR (x : Nat) (k : Int) : Int × Int :=
  if k < 0 ∨ 20 < k then (0, 1)
  else if fnan x then (0, 50)
  else if frung x = 9218868437227405312 then (0, 51)
  else if flt x 0 then (0, 52)
  else tkR (fword (fneg x) (min (fdbls k.toNat (frung x)) 9218868437227405312))

theorem flt_le {c x y : Nat} (hc : fnan c = false) (hy : fnan y = false) (h : flt c x = true) (hl : srung x ≤ srung y) : flt c y = true := by
  unfold flt at *; simp [hc, hy] at h ⊢; omega

/-- A float that is not too great is cut to a number that fits. -/
theorem toInt_fits {y : Nat} (hn : frung y ≤ 9218868437227405312) (h0 : srung y ≥ 0) (h : flt 4787326403894837248 y = false) : floatToIntVal .f64 y .i64 = some (fsgn (fneg y) (fval (frung y) / 2 ^ 1074)) ∧ frung y < 9218868437227405312 ∧ 0 ≤ fsgn (fneg y) (fval (frung y) / 2 ^ 1074) ∧ fsgn (fneg y) (fval (frung y) / 2 ^ 1074) ≤ 1099511627776 := by
  obtain ⟨K, hK⟩ := fK_is
  have hc1 : fnan 4787326403894837248 = false := by decide
  have hc2 : srung 4787326403894837248 = 4787326403894837248 := by decide
  have hyn : fnan y = false := by unfold fnan; simp; omega
  have hle : srung y ≤ 4787326403894837248 := by
    unfold flt at h; rw [hc1, hyn, hc2] at h; simp at h; omega
  have hr : frung y ≤ 4787326403894837248 := by unfold srung fsgn at hle h0; cases hs : fneg y <;> simp [hs] at hle h0 <;> omega
  have hv : fval (frung y) ≤ fval 4787326403894837248 := by
    rcases Nat.lt_or_ge (frung y) 4787326403894837248 with h1 | h1
    · exact Nat.le_of_lt (fval_mono h1)
    · rw [show frung y = 4787326403894837248 by omega]; exact Nat.le_refl _
  rw [show 4787326403894837248 = ftwo 40 by decide, fval_ftwo hK] at hv
  have hd : fval (frung y) / 2 ^ K ≤ 1099511627776 := by
    rw [show (1099511627776 : Nat) = 2 ^ 40 by decide]
    exact (Nat.div_le_iff_le_mul_add_pred (Nat.two_pow_pos K)).2 (by rw [Nat.mul_comm (2 ^ K)]; exact Nat.le_trans hv (Nat.le_add_right _ _))
  have ht := toInt_zero (x := y) hK (by omega)
  rw [← hK]
  have hneg : 0 ≤ fsgn (fneg y) (fval (frung y) / 2 ^ K) ∧ fsgn (fneg y) (fval (frung y) / 2 ^ K) ≤ 1099511627776 := by
    unfold srung fsgn at h0
    unfold fsgn
    generalize hz : fval (frung y) / 2 ^ K = z at *
    cases hs : fneg y
    · simp; omega
    · simp [hs] at h0
      have : frung y = 0 := by omega
      rw [this, fval_zero, Nat.zero_div] at hz
      subst hz; simp
  refine ⟨?_, by omega, hneg.1, hneg.2⟩
  unfold floatToIntVal
  rw [show FloatKind.decode .f64 y = Ieee.double.read y from rfl, ht]
  simp only
  rw [if_pos]
  have hm : IntKind.min .i64 = -9223372036854775808 := rfl
  have hM : IntKind.max .i64 = 9223372036854775807 := rfl
  rw [hm, hM]; omega

theorem fword_srung {s : Bool} {r : Nat} (h : r < 9223372036854775808) : srung (fword s r) = fsgn s r := by unfold srung; rw [fword_rung s h, fword_neg s h]

/-- How quote.Ticks ends, behind its product. -/
theorem ticks_calls (x : Nat) (k : Int) (w : World) (hx : x < 18446744073709551616) :
    Calls Try.prog 17 #[.float .f64 x, .int .i64 k] w fun e w' => e = .returned (.tuple #[.int .i64 (ticksR x k).1, .int .i64 (ticksR x k).2]) ∧ w' = w := by
  have hnot : ∀ (x : Bool) (w : World), (Op.unary .not (.bool x)).run Try.prog w = .ok (.bool (!x)) w := fun _ _ => rfl
  by_cases hk : 0 ≤ k ∧ k ≤ 20
  · have hkd : decide (0 ≤ k ∧ k ≤ 20) = true := by simpa using hk
    by_cases hr : refuseR x = 0
    · have hn : fnan x = false := by unfold refuseR at hr; cases h : fnan x <;> simp [h] at hr ⊢
      have hi : frung x < 9218868437227405312 := by
        unfold refuseR at hr; rw [hn] at hr; simp at hr
        unfold fnan at hn; simp at hn; omega
      by_cases h0 : flt x 0 = true
      · have hR : ticksR x k = (0, 52) := by unfold ticksR; rw [if_neg (by omega), hn, if_neg (by simp), if_neg (by omega), if_pos h0]
        rw [hR]
        go_enter Try.func17, Try.ntmps17
        go_wp2_with fail
        refine (isScale_calls k _).mono ?_
        rintro e w1 ⟨rfl, rfl⟩
        rw [hkd]
        go_wp2_with fail
        refine (refuse_calls x _ hx).mono ?_
        rintro e w1 ⟨rfl, rfl⟩
        rw [hr]
        go_wp2
        go_ret2
        exact ⟨rfl, rfl⟩
      · have h0' : flt x 0 = false := by simpa using h0
        obtain ⟨n, rfl⟩ := Int.eq_ofNat_of_zero_le hk.1
        have hR : ticksR x n = tkR (fword (fneg x) (min (fdbls n (frung x)) 9218868437227405312)) := by
          unfold ticksR; rw [if_neg (by omega), hn, if_neg (by simp), if_neg (by omega), if_neg h0, Int.toNat_natCast]
        have hmul := mul_two (x := x) (k := n) (by omega) (Nat.le_of_lt hi)
        have hsg : srung (fword (fneg x) (min (fdbls n (frung x)) 9218868437227405312)) ≥ 0 := by
          rw [fword_srung (by omega)]
          have : ¬ srung x < 0 := by
            unfold flt at h0'; rw [hn, show fnan 0 = false by decide, show srung 0 = 0 by decide] at h0'; simpa using h0'
          unfold srung fsgn at this
          unfold fsgn
          cases hs : fneg x
          · simp
          · simp [hs] at this ⊢
            have e0 : frung x = 0 := by omega
            have : fval (fdbls n (frung x)) = 0 := by rw [fval_dbls, e0, fval_zero, Nat.zero_mul]
            rw [fval_eq_zero] at this; omega
        have hle : frung (fword (fneg x) (min (fdbls n (frung x)) 9218868437227405312)) ≤ 9218868437227405312 := by rw [fword_rung _ (by omega)]; omega
        rw [hR]
        generalize fword (fneg x) (min (fdbls n (frung x)) 9218868437227405312) = y at *
        have hop : ∀ t w, (binOp .mul t (.float .f64 x) (.float .f64 (ftwo n))).run Try.prog w = .ok (.float .f64 y) w := fun t w => run_float_arith w .mul t .f64 x _ y hmul
        clear hR hmul
        by_cases hb : flt 4787326403894837248 y = true
        · have hT : tkR y = (0, 54) := by unfold tkR; rw [if_pos hb]
          rw [hT]
          go_enter Try.func17, Try.ntmps17
          go_wp2_with fail
          refine (isScale_calls n _).mono ?_
          rintro e w1 ⟨rfl, rfl⟩
          rw [hkd]
          go_wp2_with fail
          refine (refuse_calls x _ hx).mono ?_
          rintro e w1 ⟨rfl, rfl⟩
          rw [hr]
          go_wp2_with fail
          refine (perUnit_calls n _ (by omega)).mono ?_
          rintro e w1 ⟨rfl, rfl⟩
          go_wp2
          go_ret2
          exact ⟨rfl, rfl⟩
        · have hb' : flt 4787326403894837248 y = false := by simpa using hb
          obtain ⟨hf, -, -, -⟩ := toInt_fits hle hsg hb'
          have hT : tkR y = if feq (floatOfInt .f64 (fsgn (fneg y) (fval (frung y) / 2 ^ 1074))) y then (fsgn (fneg y) (fval (frung y) / 2 ^ 1074), 0) else (0, 53) := by unfold tkR; rw [if_neg hb]
          rw [hT]
          generalize fsgn (fneg y) (fval (frung y) / 2 ^ 1074) = m at *
          have hc : ∀ w, (convert 24 3 (.float .f64 y)).run Try.prog w = .ok (.int .i64 m) w := fun w => run_convert_float_int w 24 3 .f64 .i64 y m (by rw [Try.underlying24]; rfl) Try.underlying3 hf
          clear hT hf
          cases hq : feq (floatOfInt .f64 m) y
          all_goals
            simp only [Bool.false_eq_true, if_false, if_true]
            go_enter Try.func17, Try.ntmps17
            go_wp2_with fail
            refine (isScale_calls n _).mono ?_
            rintro e w1 ⟨rfl, rfl⟩
            rw [hkd]
            go_wp2_with fail
            refine (refuse_calls x _ hx).mono ?_
            rintro e w1 ⟨rfl, rfl⟩
            rw [hr]
            go_wp2_with fail
            refine (perUnit_calls n _ (by omega)).mono ?_
            rintro e w1 ⟨rfl, rfl⟩
            go_wp2
            go_ret2
            exact ⟨rfl, rfl⟩
    · have hb : (refuseR x != 0) = true := by simpa using hr
      have hR : ticksR x k = (0, refuseR x) := by
        unfold ticksR; rw [if_neg (by omega)]; unfold refuseR at hr ⊢
        cases h : fnan x
        · simp [h] at hr ⊢; rw [if_pos hr, if_pos hr]
        · simp
      rw [hR]
      generalize hrr : refuseR x = rr at *
      have HR : Hid _ := hrr
      clear hrr hR
      go_enter Try.func17, Try.ntmps17
      go_wp2_with fail
      refine (isScale_calls k _).mono ?_
      rintro e w1 ⟨rfl, rfl⟩
      rw [hkd]
      go_wp2_with fail
      refine (refuse_calls x _ hx).mono ?_
      rintro e w1 ⟨rfl, rfl⟩
      rw [HR.out]
      go_wp2
      go_ret2
      exact ⟨rfl, rfl⟩
  · have hkd : decide (0 ≤ k ∧ k ≤ 20) = false := by simp only [decide_eq_false_iff_not]; exact hk
    have hR : ticksR x k = (0, 1) := by unfold ticksR; rw [if_pos (by omega)]
    rw [hR]
    go_enter Try.func17, Try.ntmps17
    go_wp2_with fail
    refine (isScale_calls k _).mono ?_
    rintro e w1 ⟨rfl, rfl⟩
    rw [hkd]
    go_wp2
    go_ret2
    exact ⟨rfl, rfl⟩
end Go.Proofs.Ytoblekdjncikaaa
