/- PutInt and PutText. -/
import Derived.Test.YtlnlagmobgkblaaGreatLay
namespace Go.Proofs.YtlnlagmobgkblaaGreat
open Go.RowKit
set_option linter.unusedVariables false
set_option linter.unusedSimpArgs false

theorem isNumber_calls (n : Int) (w : World) :
    Calls Tryz.prog 69 #[.int .i64 n] w fun e w' => e = .returned (.bool (decide (0 ≤ n ∧ n ≤ 9007199254740992))) ∧ w' = w := by
  go_enter Tryz.func69, Tryz.ntmps69
  go_wp2_with fail
  refine (within_calls n 9007199254740992 w).mono ?_
  rintro e w1 ⟨rfl, rfl⟩
  go_wp2
  go_ret
  exact ⟨by simp, rfl⟩

theorem putInt_bad (n : Int) (w : World) (h : n < 0 ∨ 9007199254740992 < n) :
    Calls Tryz.prog 57 #[.int .i64 n] w fun e w' => e = .returned (.tuple #[.string ⟨#[]⟩, .int .i64 1]) ∧ w' = w := by
  have hnot : ∀ (x : Bool) (w : World), (Op.unary .not (.bool x)).run Tryz.prog w = .ok (.bool (!x)) w := fun _ _ => rfl
  have hi := isNumber_calls n w
  have e : decide (0 ≤ n ∧ n ≤ 9007199254740992) = false := by simp only [decide_eq_false_iff_not]; omega
  rw [e] at hi
  go_enter Tryz.func57, Tryz.ntmps57
  go_wp2_with fail
  refine hi.mono ?_
  rintro e w1 ⟨rfl, rfl⟩
  go_wp2
  go_ret2
  exact ⟨rfl, rfl⟩

theorem putInt_ok (n : Nat) (w : World) (h : n ≤ 9007199254740992) :
    Calls Tryz.prog 57 #[.int .i64 n] w fun e w' => e = .returned (.tuple #[.string ⟨(enc n).toArray⟩, .int .i64 0]) ∧ Below w.heap.size w w' := by
  have hnot : ∀ (x : Bool) (w : World), (Op.unary .not (.bool x)).run Tryz.prog w = .ok (.bool (!x)) w := fun _ _ => rfl
  have hi := isNumber_calls n w
  have e : decide (0 ≤ (n : Int) ∧ (n : Int) ≤ 9007199254740992) = true := by simp only [decide_eq_true_eq]; omega
  rw [e] at hi
  have hl := layInt_calls w.heap.size (.slice none 0 0) 0 [] n w (by omega) (World.ownsRow_nil _ _ _ _) (by omega) (Nat.le_refl _)
  go_enter Tryz.func57, Tryz.ntmps57
  go_wp2_with fail
  refine hi.mono ?_
  rintro e w1 ⟨rfl, rfl⟩
  go_wp2_with fail
  refine hl.mono ?_
  rintro e w2 ⟨v, rfl, ho, hb, _⟩
  rw [List.nil_append] at ho
  have hcv := own_convert ho
  go_wp2
  go_ret2
  exact ⟨rfl, hb⟩

theorem putText_bad (t : ByteArray) (w : World) (h : 1048576 < t.size) :
    Calls Tryz.prog 66 #[.string t] w fun e w' => e = .returned (.tuple #[.string ⟨#[]⟩, .int .i64 4]) ∧ w' = w := by
  have hd : decide ((1048576 : Int) < t.size) = true := by simp only [decide_eq_true_eq]; omega
  go_enter Tryz.func66, Tryz.ntmps66
  go_wp2
  go_ret2
  exact ⟨rfl, rfl⟩

theorem putText_ok (t : ByteArray) (w : World) (h : t.size ≤ 1048576) :
    Calls Tryz.prog 66 #[.string t] w fun e w' => e = .returned (.tuple #[.string ⟨(enc t.size ++ t.data.toList).toArray⟩, .int .i64 0]) ∧ Below w.heap.size w w' := by
  have hd : decide ((1048576 : Int) < t.size) = false := by simp only [decide_eq_false_iff_not]; omega
  have hl := layText_calls w.heap.size (.slice none 0 0) 0 [] t w (by omega) (World.ownsRow_nil _ _ _ _) (by omega) (Nat.le_refl _)
  go_enter Tryz.func66, Tryz.ntmps66
  go_wp2_with fail
  refine hl.mono ?_
  rintro e w2 ⟨v, rfl, ho, hb, _⟩
  rw [List.nil_append] at ho
  have hcv := own_convert ho
  go_wp2
  go_ret2
  exact ⟨rfl, hb⟩
end Go.Proofs.YtlnlagmobgkblaaGreat
