/- Floats in the walk: comparisons by signed rungs, results that no function of the operands names, and the small functions of layer 5. -/
import Derived.Test.YtoblekdjncikaaaFlA
import Derived.Test.YtoblekdjncikaaaChecked
import Derived.WalkLawsBesides
import Derived.Laws.BitsAllLaws
import Derived.Laws.DeepNot64
namespace Go.Proofs.Ytoblekdjncikaaa
open Go.RowKit
set_option linter.unusedSimpArgs false
set_option linter.unusedVariables false

def flt (x y : Nat) : Bool := !fnan x && !fnan y && decide (srung x < srung y)
def feq (x y : Nat) : Bool := !fnan x && !fnan y && decide (srung x = srung y)
theorem order_lss (x y : Nat) : (FloatKind.f64.format.order x y == some .lt) = flt x y := by
  show (Ieee.double.order x y == some .lt) = _
  rw [order_eq]; unfold flt
  cases fnan x <;> cases fnan y <;> simp [← cmp_lt]
theorem order_gtr (x y : Nat) : (FloatKind.f64.format.order x y == some .gt) = flt y x := by
  show (Ieee.double.order x y == some .gt) = _
  rw [order_eq]; unfold flt
  cases fnan x <;> cases fnan y <;> simp [← cmp_gt]
theorem order_eql (x y : Nat) : (FloatKind.f64.format.order x y == some .eq) = feq x y := by
  show (Ieee.double.order x y == some .eq) = _
  rw [order_eq]; unfold feq
  cases fnan x <;> cases fnan y <;> simp [← cmp_same]
@[go_sem high] theorem binOp_f64_lss (t : TypeId) (a b : Nat) : binOp .lss t (.float .f64 a) (.float .f64 b) = pure (.bool (flt a b)) := by rw [binOp_float_cmp_lss, order_lss]
@[go_sem high] theorem binOp_f64_gtr (t : TypeId) (a b : Nat) : binOp .gtr t (.float .f64 a) (.float .f64 b) = pure (.bool (flt b a)) := by rw [binOp_float_cmp_gtr, order_gtr]
@[go_sem high] theorem binOp_f64_eql (t : TypeId) (a b : Nat) : binOp .eql t (.float .f64 a) (.float .f64 b) = pure (.bool (feq a b)) := by rw [binOp_float_cmp_eql, order_eql]
@[go_sem high] theorem binOp_f64_neq (t : TypeId) (a b : Nat) : binOp .neq t (.float .f64 a) (.float .f64 b) = pure (.bool (!feq a b)) := by
  rw [binOp_float_cmp_neq, ← order_eql]; rfl
@[go_sem high] theorem binOp_f64_leq (t : TypeId) (a b : Nat) : binOp .leq t (.float .f64 a) (.float .f64 b) = pure (.bool (flt a b || feq a b)) := by rw [binOp_float_cmp_leq, order_lss, order_eql]
@[go_sem high] theorem binOp_f64_geq (t : TypeId) (a b : Nat) : binOp .geq t (.float .f64 a) (.float .f64 b) = pure (.bool (flt b a || feq a b)) := by rw [binOp_float_cmp_geq, order_gtr, order_eql]
theorem feq_self (x : Nat) : feq x x = !fnan x := by unfold feq; simp
theorem feq_self' (x : Nat) : (!feq x x) = fnan x := by unfold feq; simp

/-- Some number that is none. -/
def pickNan (w : World) (x y : Nat) : Nat := Question.cut (.nanBits .f64 x y) (w.tape w.drawn (.nanBits .f64 x y))
theorem pickNan_nan (w : World) (x y : Nat) : fnan (pickNan w x y) = true := by
  unfold pickNan fnan frung Question.cut
  simp only [decide_eq_true_eq]
  have h1 : (w.tape w.drawn (.nanBits .f64 x y) / 2) % (2 ^ 52 - 1) < 2 ^ 52 - 1 := Nat.mod_lt _ (by decide)
  have h2 : w.tape w.drawn (.nanBits .f64 x y) % 2 < 2 := Nat.mod_lt _ (by decide)
  generalize (w.tape w.drawn (.nanBits .f64 x y) / 2) % (2 ^ 52 - 1) = a at *
  generalize w.tape w.drawn (.nanBits .f64 x y) % 2 = b at *
  omega
theorem run_float_none {P : Program} (w : World) (op : BinOp) (t : TypeId) (x y : Nat) (ho : op = .add ∨ op = .sub ∨ op = .mul ∨ op = .quo) (h : floatBits op .f64 x y = none) : (binOp op t (.float .f64 x) (.float .f64 y)).run P w = .ok (.float .f64 (pickNan w x y)) w.drew := by
  rcases ho with rfl | rfl | rfl | rfl <;> (unfold floatBits at h; simp only at h; simp [binOp, Op.floatArith, h, pickNan, Question.forced])

theorem run_f64bits (b : Nat) (w : World) : (callFunc 23 #[.float .f64 b]).run Try.prog w = .ok (.value (.int .u64 b)) w := by kernel_rfl
theorem run_f64from (n : Int) (w : World) : (callFunc 39 #[.int .u64 n]).run Try.prog w = .ok (.value (.float .f64 n.toNat)) w := by kernel_rfl

theorem isNaN_calls (x : Nat) (w : World) : Calls Try.prog 30 #[.float .f64 x] w fun e w' => e = .returned (.bool (fnan x)) ∧ w' = w := by
  have h := feq_self' x
  go_enter Try.func30, Try.ntmps30
  go_wp2
  go_ret
  exact ⟨rfl, rfl⟩
theorem none_calls (x : Nat) (w : World) : Calls Try.prog 31 #[.float .f64 x] w fun e w' => e = .returned (.bool (fnan x)) ∧ w' = w := by
  have h := feq_self' x
  go_enter Try.func31, Try.ntmps31
  go_wp2
  go_ret
  exact ⟨rfl, rfl⟩
theorem isScale_calls (k : Int) (w : World) : Calls Try.prog 36 #[.int .i64 k] w fun e w' => e = .returned (.bool (decide (0 ≤ k ∧ k ≤ 20))) ∧ w' = w := by
  by_cases h0 : 0 ≤ k <;> by_cases h1 : k ≤ 20
  all_goals
    go_enter Try.func36, Try.ntmps36
    go_wp2
    go_ret
    exact ⟨by simp [h0, h1], rfl⟩
theorem abs_bits {x : Nat} (hx : x < 18446744073709551616) : (bits .andNot .u64 (x : Int) 9223372036854775808).toNat = frung x := by
  have h := u64_andNot_nat x 9223372036854775808 hx (by decide)
  rw [show ((9223372036854775808 : Nat) : Int) = 9223372036854775808 from rfl] at h
  rw [h, Int.toNat_natCast, show 18446744073709551615 - 9223372036854775808 = 2 ^ 63 - 1 from rfl, Nat.and_two_pow_sub_one_eq_mod]; rfl
theorem abs_calls (x : Nat) (w : World) (hx : x < 18446744073709551616) : Calls Try.prog 54 #[.float .f64 x] w fun e w' => e = .returned (.float .f64 (frung x)) ∧ w' = w := by
  have h1 := run_f64bits x
  have h2 := run_f64from
  have h3 := abs_bits hx
  go_enter Try.func54, Try.ntmps54
  go_wp2
  go_ret
  exact ⟨rfl, rfl⟩
theorem max_lt {x : Nat} : flt 9218868437227405311 (frung x) = (frung x == 9218868437227405312) := by
  have hr := frung_lt x
  have h1 : fnan 9218868437227405311 = false := by decide
  have h2 : srung 9218868437227405311 = 9218868437227405311 := by decide
  have h3 : fneg (frung x) = false := by unfold fneg; rw [Nat.div_eq_of_lt hr]; rfl
  have h4 : frung (frung x) = frung x := by unfold frung; omega
  have h5 : fnan (frung x) = decide (9218868437227405312 < frung x) := by unfold fnan; rw [h4]
  unfold flt
  rw [h1, h2, h5]
  unfold srung; rw [h3, h4]; unfold fsgn
  rw [Bool.eq_iff_iff]; simp; omega
theorem isInf_calls (x : Nat) (w : World) (hx : x < 18446744073709551616) : Calls Try.prog 43 #[.float .f64 x, .int .i64 0] w fun e w' => e = .returned (.bool (frung x == 9218868437227405312)) ∧ w' = w := by
  have h3 := @max_lt x
  go_enter Try.func43, Try.ntmps43
  go_wp2_with fail
  refine (abs_calls x _ hx).mono ?_
  rintro e w1 ⟨rfl, rfl⟩
  go_wp2
  go_ret
  exact ⟨rfl, rfl⟩
def refuseR (x : Nat) : Int := if fnan x then 50 else if frung x = 9218868437227405312 then 51 else 0
theorem refuse_calls (x : Nat) (w : World) (hx : x < 18446744073709551616) : Calls Try.prog 37 #[.float .f64 x] w fun e w' => e = .returned (.int .i64 (refuseR x)) ∧ w' = w := by
  go_enter Try.func37, Try.ntmps37
  go_wp2_with fail
  refine (isNaN_calls x _).mono ?_
  rintro e w1 ⟨rfl, rfl⟩
  cases hn : fnan x
  · go_wp2_with fail
    refine (isInf_calls x _ hx).mono ?_
    rintro e w1 ⟨rfl, rfl⟩
    by_cases hi : frung x = 9218868437227405312
    · have hb : (frung x == 9218868437227405312) = true := by simpa using hi
      go_wp2
      go_ret
      exact ⟨by simp [refuseR, hn, hi], rfl⟩
    · have hb : (frung x == 9218868437227405312) = false := by simpa using hi
      go_wp2
      go_ret
      exact ⟨by simp [refuseR, hn, hi], rfl⟩
  · go_wp2
    go_ret
    exact ⟨by simp [refuseR, hn], rfl⟩

theorem sub_self {x : Nat} (h : frung x < 9218868437227405312) : floatBits .sub .f64 x x = some 0 := by
  show Ieee.double.sub x x = some 0
  unfold Ieee.Format.sub
  rw [read_fin h]
  simp only [Ieee.Datum.opposite, Ieee.Datum.sum, Option.map_some, Int.min_self, Int.sub_self, Int.toNat_zero, signed_eq, Nat.pow_zero, Nat.mul_one]
  have e : fsgn (fneg x) (fmag (frung x)) + fsgn (!fneg x) (fmag (frung x)) = 0 := by unfold fsgn; cases fneg x <;> simp <;> omega
  rw [e]
  cases fneg x <;> rfl
theorem sub_inf {x : Nat} (h : frung x = 9218868437227405312) : floatBits .sub .f64 x x = none := by
  show Ieee.double.sub x x = none
  unfold Ieee.Format.sub
  rw [read_inf h]
  cases fneg x <;> rfl
theorem sub_nan {x y : Nat} (h : fnan x = true) : floatBits .sub .f64 x y = none := by
  show Ieee.double.sub x y = none
  unfold Ieee.Format.sub
  rw [read_nan (by simpa [fnan] using h)]; rfl

theorem ftwo_eq : ∀ k : Nat, k ≤ 20 → frungOf (2 ^ k) = ftwo k := by decide +kernel
theorem perUnit_calls (k : Nat) (w : World) (hk : k ≤ 20) : Calls Try.prog 38 #[.int .i64 k] w fun e w' => e = .returned (.float .f64 (ftwo k)) ∧ w' = w := by
  have hp : 2 ^ k ≤ 2 ^ 20 := Nat.pow_le_pow_right (by decide) hk
  have hw : IntKind.u64.wrap (2 ^ k) = ((2 ^ k : Nat) : Int) := by
    rw [IntKind.wrap_u64, show (2 : Int) ^ k = ((2 ^ k : Nat) : Int) from by simp]
    generalize 2 ^ k = z at *
    omega
  have h1 : floatOfInt .f64 (IntKind.u64.wrap (2 ^ k)) = ftwo k := by
    rw [hw, floatOfInt_nat, ftwo_eq k hk]
    omega
  clear hw hp
  go_enter Try.func38, Try.ntmps38
  go_wp2
  go_ret
  exact ⟨rfl, rfl⟩
end Go.Proofs.Ytoblekdjncikaaa
