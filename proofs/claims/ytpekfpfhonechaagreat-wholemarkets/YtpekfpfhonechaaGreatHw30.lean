/- Floats in the walk: comparisons by signed rungs, results that no function of the operands names, and the small functions of layer 5. -/
import Derived.Test.YtpekfpfhonechaaGreatHw29
import Derived.Test.YtpekfpfhonechaaGreatChecked
import Derived.WalkLawsBesides
import Derived.Laws.BitsAllLaws
import Derived.Laws.DeepNot64
namespace Go.Proofs.YtpekfpfhonechaaGreat.Quo
open Go.RowKit
set_option linter.unusedSimpArgs false
set_option linter.unusedVariables false

def flt (x y : Nat) : Bool := !fnan x && !fnan y && decide (srung x < srung y)
def feq (x y : Nat) : Bool := !fnan x && !fnan y && decide (srung x = srung y)
theorem order_lss (x y : Nat) : (FloatKind.f64.format.order x y == some .lt) = flt x y := by
  show (Ieee.double.order x y == some .lt) = _
  rw [order_eq]; unfold flt
  cases fnan x <;> cases fnan y <;> simp [← cmp_lt]
theorem order_gtr (x y : Nat) : (FloatKind.f64.format.order x y == some .gt) = flt y x := by
  show (Ieee.double.order x y == some .gt) = _
  rw [order_eq]; unfold flt
  cases fnan x <;> cases fnan y <;> simp [← cmp_gt]
theorem order_eql (x y : Nat) : (FloatKind.f64.format.order x y == some .eq) = feq x y := by
  show (Ieee.double.order x y == some .eq) = _
  rw [order_eq]; unfold feq
  cases fnan x <;> cases fnan y <;> simp [← cmp_same]
@[go_sem high] theorem binOp_f64_lss (t : TypeId) (a b : Nat) : binOp .lss t (.float .f64 a) (.float .f64 b) = pure (.bool (flt a b)) := by rw [binOp_float_cmp_lss, order_lss]
@[go_sem high] theorem binOp_f64_gtr (t : TypeId) (a b : Nat) : binOp .gtr t (.float .f64 a) (.float .f64 b) = pure (.bool (flt b a)) := by rw [binOp_float_cmp_gtr, order_gtr]
@[go_sem high] theorem binOp_f64_eql (t : TypeId) (a b : Nat) : binOp .eql t (.float .f64 a) (.float .f64 b) = pure (.bool (feq a b)) := by rw [binOp_float_cmp_eql, order_eql]
@[go_sem high] theorem binOp_f64_neq (t : TypeId) (a b : Nat) : binOp .neq t (.float .f64 a) (.float .f64 b) = pure (.bool (!feq a b)) := by
  rw [binOp_float_cmp_neq, ← order_eql]; rfl
@[go_sem high] theorem binOp_f64_leq (t : TypeId) (a b : Nat) : binOp .leq t (.float .f64 a) (.float .f64 b) = pure (.bool (flt a b || feq a b)) := by rw [binOp_float_cmp_leq, order_lss, order_eql]
@[go_sem high] theorem binOp_f64_geq (t : TypeId) (a b : Nat) : binOp .geq t (.float .f64 a) (.float .f64 b) = pure (.bool (flt b a || feq a b)) := by rw [binOp_float_cmp_geq, order_gtr, order_eql]
theorem feq_self (x : Nat) : feq x x = !fnan x := by unfold feq; simp
theorem feq_self' (x : Nat) : (!feq x x) = fnan x := by unfold feq; simp

theorem run_f64bits (b : Nat) (w : World) : (callFunc 43 #[.float .f64 b]).run Tryz.prog w = .ok (.value (.int .u64 b)) w := by kernel_rfl
theorem run_f64from (n : Int) (w : World) : (callFunc 89 #[.int .u64 n]).run Tryz.prog w = .ok (.value (.float .f64 n.toNat)) w := by kernel_rfl

theorem isNaN_calls (x : Nat) (w : World) : Calls Tryz.prog 127 #[.float .f64 x] w fun e w' => e = .returned (.bool (fnan x)) ∧ w' = w := by
  have h := feq_self' x
  go_enter Tryz.func127, Tryz.ntmps127
  go_wp2
  go_ret
  exact ⟨rfl, rfl⟩
theorem isScale_calls (k : Int) (w : World) : Calls Tryz.prog 98 #[.int .i64 k] w fun e w' => e = .returned (.bool (decide (0 ≤ k ∧ k ≤ 20))) ∧ w' = w := by
  by_cases h0 : 0 ≤ k <;> by_cases h1 : k ≤ 20
  all_goals
    go_enter Tryz.func98, Tryz.ntmps98
    go_wp2
    go_ret
    exact ⟨by simp [h0, h1], rfl⟩
theorem abs_bits {x : Nat} (hx : x < 18446744073709551616) : (bits .andNot .u64 (x : Int) 9223372036854775808).toNat = frung x := by
  have h := u64_andNot_nat x 9223372036854775808 hx (by decide)
  rw [show ((9223372036854775808 : Nat) : Int) = 9223372036854775808 from rfl] at h
  rw [h, Int.toNat_natCast, show 18446744073709551615 - 9223372036854775808 = 2 ^ 63 - 1 from rfl, Nat.and_two_pow_sub_one_eq_mod]; rfl
theorem abs_calls (x : Nat) (w : World) (hx : x < 18446744073709551616) : Calls Tryz.prog 145 #[.float .f64 x] w fun e w' => e = .returned (.float .f64 (frung x)) ∧ w' = w := by
  have h1 := run_f64bits x
  have h2 := run_f64from
  have h3 := abs_bits hx
  go_enter Tryz.func145, Tryz.ntmps145
  go_wp2
  go_ret
  exact ⟨rfl, rfl⟩
theorem max_lt {x : Nat} : flt 9218868437227405311 (frung x) = (frung x == 9218868437227405312) := by
  have hr := frung_lt x
  have h1 : fnan 9218868437227405311 = false := by decide
  have h2 : srung 9218868437227405311 = 9218868437227405311 := by decide
  have h3 : fneg (frung x) = false := by unfold fneg; rw [Nat.div_eq_of_lt hr]; rfl
  have h4 : frung (frung x) = frung x := by unfold frung; omega
  have h5 : fnan (frung x) = decide (9218868437227405312 < frung x) := by unfold fnan; rw [h4]
  unfold flt
  rw [h1, h2, h5]
  unfold srung; rw [h3, h4]; unfold fsgn
  rw [Bool.eq_iff_iff]; simp; omega
theorem isInf_calls (x : Nat) (w : World) (hx : x < 18446744073709551616) : Calls Tryz.prog 128 #[.float .f64 x, .int .i64 0] w fun e w' => e = .returned (.bool (frung x == 9218868437227405312)) ∧ w' = w := by
  have h3 := @max_lt x
  go_enter Tryz.func128, Tryz.ntmps128
  go_wp2_with fail
  refine (abs_calls x _ hx).mono ?_
  rintro e w1 ⟨rfl, rfl⟩
  go_wp2
  go_ret
  exact ⟨rfl, rfl⟩
def refuseR (x : Nat) : Int := if fnan x then 50 else if frung x = 9218868437227405312 then 51 else 0
theorem refuse_calls (x : Nat) (w : World) (hx : x < 18446744073709551616) : Calls Tryz.prog 99 #[.float .f64 x] w fun e w' => e = .returned (.int .i64 (refuseR x)) ∧ w' = w := by
  go_enter Tryz.func99, Tryz.ntmps99
  go_wp2_with fail
  refine (isNaN_calls x _).mono ?_
  rintro e w1 ⟨rfl, rfl⟩
  cases hn : fnan x
  · go_wp2_with fail
    refine (isInf_calls x _ hx).mono ?_
    rintro e w1 ⟨rfl, rfl⟩
    by_cases hi : frung x = 9218868437227405312
    · have hb : (frung x == 9218868437227405312) = true := by simpa using hi
      go_wp2
      go_ret
      exact ⟨by simp [refuseR, hn, hi], rfl⟩
    · have hb : (frung x == 9218868437227405312) = false := by simpa using hi
      go_wp2
      go_ret
      exact ⟨by simp [refuseR, hn, hi], rfl⟩
  · go_wp2
    go_ret
    exact ⟨by simp [refuseR, hn], rfl⟩

theorem sub_self {x : Nat} (h : frung x < 9218868437227405312) : floatBits .sub .f64 x x = some 0 := by
  show Ieee.double.sub x x = some 0
  unfold Ieee.Format.sub
  rw [read_fin h]
  simp only [Ieee.Datum.opposite, Ieee.Datum.sum, Option.map_some, Int.min_self, Int.sub_self, Int.toNat_zero, signed_eq, Nat.pow_zero, Nat.mul_one]
  have e : fsgn (fneg x) (fmag (frung x)) + fsgn (!fneg x) (fmag (frung x)) = 0 := by unfold fsgn; cases fneg x <;> simp <;> omega
  rw [e]
  cases fneg x <;> rfl
theorem ftwo_eq : ∀ k : Nat, k ≤ 20 → frungOf (2 ^ k) = ftwo k := by decide +kernel
theorem perUnit_calls (k : Nat) (w : World) (hk : k ≤ 20) : Calls Tryz.prog 100 #[.int .i64 k] w fun e w' => e = .returned (.float .f64 (ftwo k)) ∧ w' = w := by
  have hp : 2 ^ k ≤ 2 ^ 20 := Nat.pow_le_pow_right (by decide) hk
  have hw : IntKind.u64.wrap (2 ^ k) = ((2 ^ k : Nat) : Int) := by
    rw [IntKind.wrap_u64, show (2 : Int) ^ k = ((2 ^ k : Nat) : Int) from by simp]
    generalize 2 ^ k = z at *
    omega
  have h1 : floatOfInt .f64 (IntKind.u64.wrap (2 ^ k)) = ftwo k := by
    rw [hw, floatOfInt_nat, ftwo_eq k hk]
    omega
  clear hw hp
  go_enter Tryz.func100, Tryz.ntmps100
  go_wp2
  go_ret
  exact ⟨rfl, rfl⟩
end Go.Proofs.YtpekfpfhonechaaGreat.Quo

namespace Go.Proofs.YtpekfpfhonechaaGreat.Quo
open Go.RowKit
set_option linter.unusedSimpArgs false
set_option linter.unusedVariables false

/-- What a float that stands for so many ticks comes to. -/
def tkR (y : Nat) : Int × Int :=
  if flt 4787326403894837248 y then (0, 54)
  else if feq (floatOfInt .f64 (fsgn (fneg y) (fval (frung y) / 2 ^ 1074))) y then (fsgn (fneg y) (fval (frung y) / 2 ^ 1074), 0) else (0, 53)
def ticksR (x : Nat) (k : Int) : Int × Int :=
  if k < 0 ∨ 20 < k then (0, 1)
  else if fnan x then (0, 50)
  else if frung x = 9218868437227405312 then (0, 51)
  else if flt x 0 then (0, 52)
  else tkR (fword (fneg x) (min (fdbls k.toNat (frung x)) 9218868437227405312))

/-- A float that is not too great is cut to a number that fits. -/
theorem toInt_fits {y : Nat} (hn : frung y ≤ 9218868437227405312) (h0 : srung y ≥ 0) (h : flt 4787326403894837248 y = false) : floatToIntVal .f64 y .i64 = some (fsgn (fneg y) (fval (frung y) / 2 ^ 1074)) ∧ frung y < 9218868437227405312 ∧ 0 ≤ fsgn (fneg y) (fval (frung y) / 2 ^ 1074) ∧ fsgn (fneg y) (fval (frung y) / 2 ^ 1074) ≤ 1099511627776 := by
  obtain ⟨K, hK⟩ := fK_is
  have hc1 : fnan 4787326403894837248 = false := by decide
  have hc2 : srung 4787326403894837248 = 4787326403894837248 := by decide
  have hyn : fnan y = false := by unfold fnan; simp; omega
  have hle : srung y ≤ 4787326403894837248 := by
    unfold flt at h; rw [hc1, hyn, hc2] at h; simp at h; omega
  have hr : frung y ≤ 4787326403894837248 := by unfold srung fsgn at hle h0; cases hs : fneg y <;> simp [hs] at hle h0 <;> omega
  have hv : fval (frung y) ≤ fval 4787326403894837248 := by
    rcases Nat.lt_or_ge (frung y) 4787326403894837248 with h1 | h1
    · exact Nat.le_of_lt (fval_mono h1)
    · rw [show frung y = 4787326403894837248 by omega]; exact Nat.le_refl _
  rw [show 4787326403894837248 = ftwo 40 by decide, fval_ftwo hK] at hv
  have hd : fval (frung y) / 2 ^ K ≤ 1099511627776 := by
    rw [show (1099511627776 : Nat) = 2 ^ 40 by decide]
    exact (Nat.div_le_iff_le_mul_add_pred (Nat.two_pow_pos K)).2 (by rw [Nat.mul_comm (2 ^ K)]; exact Nat.le_trans hv (Nat.le_add_right _ _))
  have ht := toInt_zero (x := y) hK (by omega)
  rw [← hK]
  have hneg : 0 ≤ fsgn (fneg y) (fval (frung y) / 2 ^ K) ∧ fsgn (fneg y) (fval (frung y) / 2 ^ K) ≤ 1099511627776 := by
    unfold srung fsgn at h0
    unfold fsgn
    generalize hz : fval (frung y) / 2 ^ K = z at *
    cases hs : fneg y
    · simp; omega
    · simp [hs] at h0
      have : frung y = 0 := by omega
      rw [this, fval_zero, Nat.zero_div] at hz
      subst hz; simp
  refine ⟨?_, by omega, hneg.1, hneg.2⟩
  unfold floatToIntVal
  rw [show FloatKind.decode .f64 y = Ieee.double.read y from rfl, ht]
  simp only
  rw [if_pos]
  have hm : IntKind.min .i64 = -9223372036854775808 := rfl
  have hM : IntKind.max .i64 = 9223372036854775807 := rfl
  rw [hm, hM]; omega

theorem fword_srung {s : Bool} {r : Nat} (h : r < 9223372036854775808) : srung (fword s r) = fsgn s r := by unfold srung; rw [fword_rung s h, fword_neg s h]

/-- How quote.Ticks ends, behind its product. -/
theorem ticks_calls (x : Nat) (k : Int) (w : World) (hx : x < 18446744073709551616) :
    Calls Tryz.prog 74 #[.float .f64 x, .int .i64 k] w fun e w' => e = .returned (.tuple #[.int .i64 (ticksR x k).1, .int .i64 (ticksR x k).2]) ∧ w' = w := by
  have hnot : ∀ (x : Bool) (w : World), (Op.unary .not (.bool x)).run Tryz.prog w = .ok (.bool (!x)) w := fun _ _ => rfl
  by_cases hk : 0 ≤ k ∧ k ≤ 20
  · have hkd : decide (0 ≤ k ∧ k ≤ 20) = true := by simpa using hk
    by_cases hr : refuseR x = 0
    · have hn : fnan x = false := by unfold refuseR at hr; cases h : fnan x <;> simp [h] at hr ⊢
      have hi : frung x < 9218868437227405312 := by
        unfold refuseR at hr; rw [hn] at hr; simp at hr
        unfold fnan at hn; simp at hn; omega
      by_cases h0 : flt x 0 = true
      · have hR : ticksR x k = (0, 52) := by unfold ticksR; rw [if_neg (by omega), hn, if_neg (by simp), if_neg (by omega), if_pos h0]
        rw [hR]
        go_enter Tryz.func74, Tryz.ntmps74
        go_wp2_with fail
        refine (isScale_calls k _).mono ?_
        rintro e w1 ⟨rfl, rfl⟩
        rw [hkd]
        go_wp2_with fail
        refine (refuse_calls x _ hx).mono ?_
        rintro e w1 ⟨rfl, rfl⟩
        rw [hr]
        go_wp2
        go_ret2
        exact ⟨rfl, rfl⟩
      · have h0' : flt x 0 = false := by simpa using h0
        obtain ⟨n, rfl⟩ := Int.eq_ofNat_of_zero_le hk.1
        have hR : ticksR x n = tkR (fword (fneg x) (min (fdbls n (frung x)) 9218868437227405312)) := by
          unfold ticksR; rw [if_neg (by omega), hn, if_neg (by simp), if_neg (by omega), if_neg h0, Int.toNat_natCast]
        have hmul := mul_two (x := x) (k := n) (by omega) (Nat.le_of_lt hi)
        have hsg : srung (fword (fneg x) (min (fdbls n (frung x)) 9218868437227405312)) ≥ 0 := by
          rw [fword_srung (by omega)]
          have : ¬ srung x < 0 := by
            unfold flt at h0'; rw [hn, show fnan 0 = false by decide, show srung 0 = 0 by decide] at h0'; simpa using h0'
          unfold srung fsgn at this
          unfold fsgn
          cases hs : fneg x
          · simp
          · simp [hs] at this ⊢
            have e0 : frung x = 0 := by omega
            have : fval (fdbls n (frung x)) = 0 := by rw [fval_dbls, e0, fval_zero, Nat.zero_mul]
            rw [fval_eq_zero] at this; omega
        have hle : frung (fword (fneg x) (min (fdbls n (frung x)) 9218868437227405312)) ≤ 9218868437227405312 := by rw [fword_rung _ (by omega)]; omega
        rw [hR]
        generalize fword (fneg x) (min (fdbls n (frung x)) 9218868437227405312) = y at *
        have hop : ∀ t w, (binOp .mul t (.float .f64 x) (.float .f64 (ftwo n))).run Tryz.prog w = .ok (.float .f64 y) w := fun t w => run_float_arith w .mul t .f64 x _ y hmul
        clear hR hmul
        by_cases hb : flt 4787326403894837248 y = true
        · have hT : tkR y = (0, 54) := by unfold tkR; rw [if_pos hb]
          rw [hT]
          go_enter Tryz.func74, Tryz.ntmps74
          go_wp2_with fail
          refine (isScale_calls n _).mono ?_
          rintro e w1 ⟨rfl, rfl⟩
          rw [hkd]
          go_wp2_with fail
          refine (refuse_calls x _ hx).mono ?_
          rintro e w1 ⟨rfl, rfl⟩
          rw [hr]
          go_wp2_with fail
          refine (perUnit_calls n _ (by omega)).mono ?_
          rintro e w1 ⟨rfl, rfl⟩
          go_wp2
          go_ret2
          exact ⟨rfl, rfl⟩
        · have hb' : flt 4787326403894837248 y = false := by simpa using hb
          obtain ⟨hf, -, -, -⟩ := toInt_fits hle hsg hb'
          have hT : tkR y = if feq (floatOfInt .f64 (fsgn (fneg y) (fval (frung y) / 2 ^ 1074))) y then (fsgn (fneg y) (fval (frung y) / 2 ^ 1074), 0) else (0, 53) := by unfold tkR; rw [if_neg hb]
          rw [hT]
          generalize fsgn (fneg y) (fval (frung y) / 2 ^ 1074) = m at *
          have hc : ∀ w, (convert 37 3 (.float .f64 y)).run Tryz.prog w = .ok (.int .i64 m) w := fun w => run_convert_float_int w 37 3 .f64 .i64 y m (by rw [Tryz.underlying37]; rfl) Tryz.underlying3 hf
          clear hT hf
          cases hq : feq (floatOfInt .f64 m) y
          all_goals
            simp only [Bool.false_eq_true, if_false, if_true]
            go_enter Tryz.func74, Tryz.ntmps74
            go_wp2_with fail
            refine (isScale_calls n _).mono ?_
            rintro e w1 ⟨rfl, rfl⟩
            rw [hkd]
            go_wp2_with fail
            refine (refuse_calls x _ hx).mono ?_
            rintro e w1 ⟨rfl, rfl⟩
            rw [hr]
            go_wp2_with fail
            refine (perUnit_calls n _ (by omega)).mono ?_
            rintro e w1 ⟨rfl, rfl⟩
            go_wp2
            go_ret2
            exact ⟨rfl, rfl⟩
    · have hb : (refuseR x != 0) = true := by simpa using hr
      have hR : ticksR x k = (0, refuseR x) := by
        unfold ticksR; rw [if_neg (by omega)]; unfold refuseR at hr ⊢
        cases h : fnan x
        · simp [h] at hr ⊢; rw [if_pos hr, if_pos hr]
        · simp
      rw [hR]
      generalize hrr : refuseR x = rr at *
      have HR : Hid _ := hrr
      clear hrr hR
      go_enter Tryz.func74, Tryz.ntmps74
      go_wp2_with fail
      refine (isScale_calls k _).mono ?_
      rintro e w1 ⟨rfl, rfl⟩
      rw [hkd]
      go_wp2_with fail
      refine (refuse_calls x _ hx).mono ?_
      rintro e w1 ⟨rfl, rfl⟩
      rw [HR.out]
      go_wp2
      go_ret2
      exact ⟨rfl, rfl⟩
  · have hkd : decide (0 ≤ k ∧ k ≤ 20) = false := by simp only [decide_eq_false_iff_not]; exact hk
    have hR : ticksR x k = (0, 1) := by unfold ticksR; rw [if_pos (by omega)]
    rw [hR]
    go_enter Tryz.func74, Tryz.ntmps74
    go_wp2_with fail
    refine (isScale_calls k _).mono ?_
    rintro e w1 ⟨rfl, rfl⟩
    rw [hkd]
    go_wp2
    go_ret2
    exact ⟨rfl, rfl⟩
end Go.Proofs.YtpekfpfhonechaaGreat.Quo

namespace Go.Proofs.YtpekfpfhonechaaGreat.Quo
open Go.RowKit
set_option linter.unusedSimpArgs false
set_option linter.unusedVariables false

theorem ticks_bd {x : Nat} {k : Int} (h : (ticksR x k).2 = 0) : 0 ≤ (ticksR x k).1 ∧ (ticksR x k).1 ≤ 1099511627776 := by
  unfold ticksR at h ⊢
  by_cases h1 : k < 0 ∨ 20 < k
  · rw [if_pos h1] at h; cases h
  rw [if_neg h1] at h ⊢
  by_cases h2 : fnan x = true
  · rw [if_pos h2] at h; cases h
  rw [if_neg h2] at h ⊢
  by_cases h3 : frung x = 9218868437227405312
  · rw [if_pos h3] at h; cases h
  rw [if_neg h3] at h ⊢
  by_cases h4 : flt x 0 = true
  · rw [if_pos h4] at h; cases h
  rw [if_neg h4] at h ⊢
  have hn : fnan x = false := by simpa using h2
  have h0' : flt x 0 = false := by simpa using h4
  have hsg : srung (fword (fneg x) (min (fdbls k.toNat (frung x)) 9218868437227405312)) ≥ 0 := by
    rw [fword_srung (by omega)]
    have : ¬ srung x < 0 := by
      unfold flt at h0'; rw [hn, show fnan 0 = false by decide, show srung 0 = 0 by decide] at h0'; simpa using h0'
    unfold srung fsgn at this
    unfold fsgn
    cases hs : fneg x
    · simp
    · simp [hs] at this ⊢
      have e0 : frung x = 0 := by omega
      have : fval (fdbls k.toNat (frung x)) = 0 := by rw [fval_dbls, e0, fval_zero, Nat.zero_mul]
      rw [fval_eq_zero] at this; omega
  have hle : frung (fword (fneg x) (min (fdbls k.toNat (frung x)) 9218868437227405312)) ≤ 9218868437227405312 := by rw [fword_rung _ (by omega)]; omega
  generalize fword (fneg x) (min (fdbls k.toNat (frung x)) 9218868437227405312) = y at *
  unfold tkR at h ⊢
  by_cases h5 : flt 4787326403894837248 y = true
  · rw [if_pos h5] at h; cases h
  rw [if_neg h5] at h ⊢
  have hf := toInt_fits hle hsg (by simpa using h5)
  split at h
  · next h6 => rw [if_pos h6]; exact ⟨hf.2.2.1, hf.2.2.2⟩
  · cases h
end Go.Proofs.YtpekfpfhonechaaGreat.Quo
