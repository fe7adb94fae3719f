/- QuoteMids for every bid and ask: what it answers. -/
import Derived.Test.YtjcnnfpbodhbgaaQtMd
namespace Go.Proofs.Ytjcnnfpbodhbgaa
open Go.RowKit
set_option linter.unusedSimpArgs false
set_option linter.unusedVariables false

theorem quoteMids_calls (a b : Nat) (w : World) :
    Calls Try.prog 3 #[.float .f64 a, .float .f64 b] w fun e w' => e = .returned (.bool true) ∧ Below w.heap.size w w' := by
  have H1 : Hid _ := fun wx => mid_calls a b wx
  have H2 : Hid _ := fun wx => refMid_calls a b wx
  have H3 : Hid _ := fun wx => spread_calls a b wx
  generalize midR a b = m at *
  cases hs : Ieee.double.sub b a with
  | some z =>
    rw [hs] at H3
    have h3 : ∀ t w, (binOp .sub t (.float .f64 b) (.float .f64 a)).run Try.prog w = .ok (.float .f64 z) w := fun t w => run_float_arith w .sub t .f64 b a z hs
    clear hs
    go_enter Try.func3, Try.ntmps3
    go_wp2_with fail
    refine (H1.out _).mono ?_
    rintro e w1 ⟨rfl, b1⟩
    go_wp2_with fail
    refine (H2.out _).mono ?_
    rintro e w2 ⟨rfl, b2⟩
    go_wp2_with fail
    refine (alike_calls m m _).mono ?_
    rintro e w3 ⟨rfl, rfl⟩
    go_wp2_with fail
    refine (H3.out _).mono ?_
    rintro e w4 ⟨rfl, b4⟩
    go_wp2_with fail
    refine (one_calls z _).mono ?_
    rintro e w5 ⟨rfl, rfl⟩
    go_wp2_with fail
    refine (alike_calls _ _ _).mono ?_
    rintro e w6 ⟨rfl, rfl⟩
    rw [show decide (opR (some z) = toldR z) = true from decide_eq_true rfl]
    go_wp2_with fail
    refine (awake_calls _).mono ?_
    rintro e w7 ⟨rfl, rfl⟩
    go_wp2
    go_ret
    have hB := b1.trans (b2.mono b1.size)
    exact ⟨rfl, hB.trans (b4.mono hB.size)⟩
  | none =>
    rw [hs] at H3
    have h3 : ∀ t w, (binOp .sub t (.float .f64 b) (.float .f64 a)).run Try.prog w = .ok (.float .f64 (pickNan w b a)) w.drew := fun t w => run_float_none w .sub t b a (by simp) hs
    clear hs
    go_enter Try.func3, Try.ntmps3
    go_wp2_with fail
    refine (H1.out _).mono ?_
    rintro e w1 ⟨rfl, b1⟩
    go_wp2_with fail
    refine (H2.out _).mono ?_
    rintro e w2 ⟨rfl, b2⟩
    go_wp2_with fail
    refine (alike_calls m m _).mono ?_
    rintro e w3 ⟨rfl, rfl⟩
    go_wp2_with fail
    refine (H3.out _).mono ?_
    rintro e w4 ⟨rfl, b4⟩
    go_wp2_with fail
    refine (one_calls _ _).mono ?_
    rintro e w5 ⟨rfl, rfl⟩
    rw [toldR_nan (pickNan_nan _ _ _)]
    go_wp2_with fail
    refine (alike_calls _ _ _).mono ?_
    rintro e w6 ⟨rfl, rfl⟩
    rw [show decide (opR none = 9221120237041090561) = true from decide_eq_true rfl]
    go_wp2_with fail
    refine (awake_calls _).mono ?_
    rintro e w7 ⟨rfl, rfl⟩
    go_wp2
    go_ret
    have hB := b1.trans (b2.mono b1.size)
    exact ⟨rfl, (hB.trans (b4.mono hB.size)).drew⟩
end Go.Proofs.Ytjcnnfpbodhbgaa
