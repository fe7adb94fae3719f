/- Mid and Spread, of the program and of the document; each that is no number as the one. -/
import Derived.Test.YtoblekdjncikaaaQtAw
namespace Go.Proofs.Ytoblekdjncikaaa
open Go.RowKit
set_option linter.unusedSimpArgs false
set_option linter.unusedVariables false

def toldR (x : Nat) : Nat := if fnan x then 9221120237041090561 else x
theorem toldR_lt {x : Nat} (h : x < 18446744073709551616) : toldR x < 18446744073709551616 := by unfold toldR; split <;> omega
theorem nan_calls (w : World) : Calls Try.prog 32 #[] w fun e w' => e = .returned (.float .f64 9221120237041090561) ∧ w' = w := by
  have h := run_f64from 9221120237041090561
  go_enter Try.func32, Try.ntmps32
  go_wp2
  go_ret
  exact ⟨rfl, rfl⟩
theorem refNaN_calls (w : World) : Calls Try.prog 34 #[] w fun e w' => e = .returned (.float .f64 9221120237041090561) ∧ w' = w := by
  have h := run_f64from 9221120237041090561
  go_enter Try.func34, Try.ntmps34
  go_wp2
  go_ret
  exact ⟨rfl, rfl⟩
theorem told_calls (x : Nat) (w : World) : Calls Try.prog 21 #[.float .f64 x] w fun e w' => e = .returned (.float .f64 (toldR x)) ∧ w' = w := by
  go_enter Try.func21, Try.ntmps21
  go_wp2_with fail
  refine (isNaN_calls x _).mono ?_
  rintro e w1 ⟨rfl, rfl⟩
  cases hn : fnan x
  · go_wp2
    go_ret
    exact ⟨by simp [toldR, hn], rfl⟩
  · go_wp2_with fail
    refine (nan_calls _).mono ?_
    rintro e w1 ⟨rfl, rfl⟩
    go_wp2
    go_ret
    exact ⟨by simp [toldR, hn], rfl⟩
theorem one_calls (x : Nat) (w : World) : Calls Try.prog 22 #[.float .f64 x] w fun e w' => e = .returned (.float .f64 (toldR x)) ∧ w' = w := by
  go_enter Try.func22, Try.ntmps22
  go_wp2_with fail
  refine (none_calls x _).mono ?_
  rintro e w1 ⟨rfl, rfl⟩
  cases hn : fnan x
  · go_wp2
    go_ret
    exact ⟨by simp [toldR, hn], rfl⟩
  · go_wp2_with fail
    refine (refNaN_calls _).mono ?_
    rintro e w1 ⟨rfl, rfl⟩
    go_wp2
    go_ret
    exact ⟨by simp [toldR, hn], rfl⟩

/-- What an operation's result is told as. -/
def opR (o : Option Nat) : Nat := match o with | some z => toldR z | none => 9221120237041090561
theorem toldR_nan {x : Nat} (h : fnan x = true) : toldR x = 9221120237041090561 := by unfold toldR; rw [h]; rfl

theorem half_ex {a : Nat} (h : fnan a = false) : ∃ x, Ieee.double.div a 4611686018427387904 = some x := by
  have ha : frung a ≤ 9218868437227405312 := by unfold fnan at h; simp at h; omega
  unfold Ieee.Format.div
  rw [show (4611686018427387904 : Nat) = ftwo 1 from rfl, ftwo_read (by decide)]
  rcases Nat.lt_or_ge (frung a) 9218868437227405312 with h1 | h1
  · rw [read_fin h1]
    simp only [Ieee.Datum.quotient]
    rw [if_neg (by decide)]
    exact ⟨_, rfl⟩
  · rw [read_inf (by omega)]
    exact ⟨_, rfl⟩
def halfR (a : Nat) : Nat := (Ieee.double.div a 4611686018427387904).getD 0
theorem halfR_eq {a : Nat} (h : fnan a = false) : Ieee.double.div a 4611686018427387904 = some (halfR a) := by
  obtain ⟨x, hx⟩ := half_ex h
  unfold halfR; rw [hx]; rfl
def midR (a b : Nat) : Nat := if fnan a then toldR b else if fnan b then a else opR (Ieee.double.add (halfR a) (halfR b))

theorem mid_calls (a b : Nat) (w : World) : Calls Try.prog 33 #[.float .f64 a, .float .f64 b] w fun e w' => e = .returned (.float .f64 (midR a b)) ∧ Below w.heap.size w w' := by
  cases ha : fnan a
  rotate_left
  · go_enter Try.func33, Try.ntmps33
    go_wp2_with fail
    refine (isNaN_calls a _).mono ?_
    rintro e w1 ⟨rfl, rfl⟩
    rw [ha]
    go_wp2_with fail
    refine (told_calls b _).mono ?_
    rintro e w1 ⟨rfl, rfl⟩
    go_wp2
    go_ret
    exact ⟨by simp [midR, ha], Below.refl _ _⟩
  cases hb : fnan b
  rotate_left
  · go_enter Try.func33, Try.ntmps33
    go_wp2_with fail
    refine (isNaN_calls a _).mono ?_
    rintro e w1 ⟨rfl, rfl⟩
    rw [ha]
    go_wp2_with fail
    refine (isNaN_calls b _).mono ?_
    rintro e w1 ⟨rfl, rfl⟩
    rw [hb]
    go_wp2
    go_ret
    exact ⟨by simp [midR, ha, hb], Below.refl _ _⟩
  have hA := halfR_eq ha
  have hB := halfR_eq hb
  have hR : midR a b = opR (Ieee.double.add (halfR a) (halfR b)) := by unfold midR; rw [ha, hb]; simp
  rw [hR]
  generalize halfR a = x at *
  generalize halfR b = y at *
  have h1 : ∀ t w, (binOp .quo t (.float .f64 a) (.float .f64 4611686018427387904)).run Try.prog w = .ok (.float .f64 x) w := fun t w => run_float_arith w .quo t .f64 a _ x hA
  have h2 : ∀ t w, (binOp .quo t (.float .f64 b) (.float .f64 4611686018427387904)).run Try.prog w = .ok (.float .f64 y) w := fun t w => run_float_arith w .quo t .f64 b _ y hB
  have cv : ∀ z w, (convert 24 24 (.float .f64 z)).run Try.prog w = .ok (.float .f64 z) w := fun z w => run_convert_float_float w 24 24 .f64 .f64 z z (by rw [Try.underlying24]; rfl) Try.underlying24 (by simp [floatToFloatBits])
  clear hR hA hB
  cases hs : Ieee.double.add x y with
  | some z =>
    have h3 : ∀ t w, (binOp .add t (.float .f64 x) (.float .f64 y)).run Try.prog w = .ok (.float .f64 z) w := fun t w => run_float_arith w .add t .f64 x y z hs
    clear hs
    go_enter Try.func33, Try.ntmps33
    go_wp2_with fail
    refine (isNaN_calls a _).mono ?_
    rintro e w1 ⟨rfl, rfl⟩
    rw [ha]
    go_wp2_with fail
    refine (isNaN_calls b _).mono ?_
    rintro e w1 ⟨rfl, rfl⟩
    rw [hb]
    go_wp2_with fail
    refine (told_calls z _).mono ?_
    rintro e w1 ⟨rfl, rfl⟩
    go_wp2
    go_ret
    exact ⟨rfl, Below.refl _ _⟩
  | none =>
    have h3 : ∀ t w, (binOp .add t (.float .f64 x) (.float .f64 y)).run Try.prog w = .ok (.float .f64 (pickNan w x y)) w.drew := fun t w => run_float_none w .add t x y (by simp) hs
    clear hs
    go_enter Try.func33, Try.ntmps33
    go_wp2_with fail
    refine (isNaN_calls a _).mono ?_
    rintro e w1 ⟨rfl, rfl⟩
    rw [ha]
    go_wp2_with fail
    refine (isNaN_calls b _).mono ?_
    rintro e w1 ⟨rfl, rfl⟩
    rw [hb]
    go_wp2_with fail
    refine (told_calls _ _).mono ?_
    rintro e w2 ⟨rfl, rfl⟩
    rw [toldR_nan (pickNan_nan _ _ _)]
    go_wp2
    go_ret
    exact ⟨rfl, (Below.refl _ _).drew⟩

theorem refMid_calls (a b : Nat) (w : World) : Calls Try.prog 35 #[.float .f64 a, .float .f64 b] w fun e w' => e = .returned (.float .f64 (midR a b)) ∧ Below w.heap.size w w' := by
  cases ha : fnan a
  rotate_left
  · go_enter Try.func35, Try.ntmps35
    go_wp2_with fail
    refine (none_calls a _).mono ?_
    rintro e w1 ⟨rfl, rfl⟩
    rw [ha]
    go_wp2_with fail
    refine (one_calls b _).mono ?_
    rintro e w1 ⟨rfl, rfl⟩
    go_wp2
    go_ret
    exact ⟨by simp [midR, ha], Below.refl _ _⟩
  cases hb : fnan b
  rotate_left
  · go_enter Try.func35, Try.ntmps35
    go_wp2_with fail
    refine (none_calls a _).mono ?_
    rintro e w1 ⟨rfl, rfl⟩
    rw [ha]
    go_wp2_with fail
    refine (none_calls b _).mono ?_
    rintro e w1 ⟨rfl, rfl⟩
    rw [hb]
    go_wp2
    go_ret
    exact ⟨by simp [midR, ha, hb], Below.refl _ _⟩
  have hA := halfR_eq ha
  have hB := halfR_eq hb
  have hR : midR a b = opR (Ieee.double.add (halfR a) (halfR b)) := by unfold midR; rw [ha, hb]; simp
  rw [hR]
  generalize halfR a = x at *
  generalize halfR b = y at *
  have h1 : ∀ t w, (binOp .quo t (.float .f64 a) (.float .f64 4611686018427387904)).run Try.prog w = .ok (.float .f64 x) w := fun t w => run_float_arith w .quo t .f64 a _ x hA
  have h2 : ∀ t w, (binOp .quo t (.float .f64 b) (.float .f64 4611686018427387904)).run Try.prog w = .ok (.float .f64 y) w := fun t w => run_float_arith w .quo t .f64 b _ y hB
  clear hR hA hB
  cases hs : Ieee.double.add x y with
  | some z =>
    have h3 : ∀ t w, (binOp .add t (.float .f64 x) (.float .f64 y)).run Try.prog w = .ok (.float .f64 z) w := fun t w => run_float_arith w .add t .f64 x y z hs
    clear hs
    go_enter Try.func35, Try.ntmps35
    go_wp2_with fail
    refine (none_calls a _).mono ?_
    rintro e w1 ⟨rfl, rfl⟩
    rw [ha]
    go_wp2_with fail
    refine (none_calls b _).mono ?_
    rintro e w1 ⟨rfl, rfl⟩
    rw [hb]
    go_wp2_with fail
    refine (one_calls z _).mono ?_
    rintro e w1 ⟨rfl, rfl⟩
    go_wp2
    go_ret
    exact ⟨rfl, Below.refl _ _⟩
  | none =>
    have h3 : ∀ t w, (binOp .add t (.float .f64 x) (.float .f64 y)).run Try.prog w = .ok (.float .f64 (pickNan w x y)) w.drew := fun t w => run_float_none w .add t x y (by simp) hs
    clear hs
    go_enter Try.func35, Try.ntmps35
    go_wp2_with fail
    refine (none_calls a _).mono ?_
    rintro e w1 ⟨rfl, rfl⟩
    rw [ha]
    go_wp2_with fail
    refine (none_calls b _).mono ?_
    rintro e w1 ⟨rfl, rfl⟩
    rw [hb]
    go_wp2_with fail
    refine (one_calls _ _).mono ?_
    rintro e w2 ⟨rfl, rfl⟩
    rw [toldR_nan (pickNan_nan _ _ _)]
    go_wp2
    go_ret
    exact ⟨rfl, (Below.refl _ _).drew⟩

end Go.Proofs.Ytoblekdjncikaaa
