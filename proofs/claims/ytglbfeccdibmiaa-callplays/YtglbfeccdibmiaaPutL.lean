/- PutInt and PutText. -/
import Derived.Test.YtglbfeccdibmiaaLayL
namespace Go.Proofs.Ytglbfeccdibmiaa
open Go.RowKit
set_option linter.unusedVariables false
set_option linter.unusedSimpArgs false

theorem withinP_calls (n m : Int) (w : World) :
    Calls Try.prog 71 #[.int .i64 n, .int .i64 m] w fun e w' => e = .returned (.bool (decide (0 ≤ n ∧ n ≤ m))) ∧ w' = w := by
  by_cases h0 : 0 ≤ n
  · go_enter Try.func71, Try.ntmps71
    go_wp2
    go_ret
    exact ⟨by simp [h0], rfl⟩
  · have h1 : decide (0 ≤ n) = false := by simpa using h0
    go_enter Try.func71, Try.ntmps71
    go_wp2
    go_ret
    exact ⟨by simp, rfl⟩

theorem isNumber_calls (n : Int) (w : World) :
    Calls Try.prog 60 #[.int .i64 n] w fun e w' => e = .returned (.bool (decide (0 ≤ n ∧ n ≤ 9007199254740992))) ∧ w' = w := by
  go_enter Try.func60, Try.ntmps60
  go_wp2_with fail
  refine (withinP_calls n 9007199254740992 w).mono ?_
  rintro e w1 ⟨rfl, rfl⟩
  go_wp2
  go_ret
  exact ⟨by simp, rfl⟩

theorem putInt_bad (n : Int) (w : World) (h : n < 0 ∨ 9007199254740992 < n) :
    Calls Try.prog 42 #[.int .i64 n] w fun e w' => e = .returned (.tuple #[.string ⟨#[]⟩, .int .i64 1]) ∧ w' = w := by
  have hnot : ∀ (x : Bool) (w : World), (Op.unary .not (.bool x)).run Try.prog w = .ok (.bool (!x)) w := fun _ _ => rfl
  have hi := isNumber_calls n w
  have e : decide (0 ≤ n ∧ n ≤ 9007199254740992) = false := by simp only [decide_eq_false_iff_not]; omega
  rw [e] at hi
  go_enter Try.func42, Try.ntmps42
  go_wp2_with fail
  refine hi.mono ?_
  rintro e w1 ⟨rfl, rfl⟩
  go_wp2
  go_ret2
  exact ⟨rfl, rfl⟩

theorem putInt_ok (n : Nat) (w : World) (h : n ≤ 9007199254740992) :
    Calls Try.prog 42 #[.int .i64 n] w fun e w' => e = .returned (.tuple #[.string ⟨(enc n).toArray⟩, .int .i64 0]) ∧ Below w.heap.size w w' := by
  have hnot : ∀ (x : Bool) (w : World), (Op.unary .not (.bool x)).run Try.prog w = .ok (.bool (!x)) w := fun _ _ => rfl
  have hi := isNumber_calls n w
  have e : decide (0 ≤ (n : Int) ∧ (n : Int) ≤ 9007199254740992) = true := by simp only [decide_eq_true_eq]; omega
  rw [e] at hi
  have hl := layInt_calls w.heap.size (.slice none 0 0) 0 [] n w (by omega) (World.ownsRow_nil _ _ _ _) (by omega) (Nat.le_refl _)
  go_enter Try.func42, Try.ntmps42
  go_wp2_with fail
  refine hi.mono ?_
  rintro e w1 ⟨rfl, rfl⟩
  go_wp2_with fail
  refine hl.mono ?_
  rintro e w2 ⟨v, rfl, ho, hb, _⟩
  rw [List.nil_append] at ho
  have hcv := own_convert ho
  go_wp2
  go_ret2
  exact ⟨rfl, hb⟩

end Go.Proofs.Ytglbfeccdibmiaa
