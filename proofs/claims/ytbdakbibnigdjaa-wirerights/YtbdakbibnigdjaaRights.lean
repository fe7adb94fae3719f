/- WireRights for every body: what it answers. -/
import Derived.Test.YtbdakbibnigdjaaRefX
import Derived.Deep.RegionWith
namespace Go.Proofs.Ytbdakbibnigdjaa
open Go.RowKit
set_option linter.unusedVariables false
set_option linter.unusedSimpArgs false

set_option maxHeartbeats 4000000 in
theorem rights_calls (b : Bd) (lv : Value) (w : World) (h1 : b.digest.size ≤ maxLen) (h2 : b.text.size ≤ maxLen) (h3 : b.list.length < 9223372036854775807) (hl : Sgs w lv b.list) :
    Calls Try.prog 5 #[b.val lv] w fun e w' => e = .returned (.bool true) ∧ Below w.heap.size w w' := by
  obtain ⟨p, c, rfl⟩ := hl.len
  have hr := fun wx (hb : Below w.heap.size w wx) => right_calls b (.slice p b.list.length c) wx h1 h2 h3 (hl.below hb)
  have hq := fun wx (hb : Below w.heap.size w wx) => rightRef_calls b (.slice p b.list.length c) wx h1 h2 h3 (hl.below hb)
  have HR : Hid _ := hr
  have HQ : Hid _ := hq
  have hnew := bdAt_new w b (.slice p b.list.length c) 37
  have hnd := hnew.below (Below.drew (Below.refl _ _))
  clear hr hq hl
  generalize right b = R at *
  have heq : (R == R) = true := by simp
  unfold Bd.val
  go_enter Try.func5, Try.ntmps5
  go_wp2
  go_region_with (first
    | (go_at_call 18; refine (HR.out _ ?_).mono ?_; go_grown; rintro e w1 ⟨rfl, b1⟩; obtain ⟨a0, a1, a2, a3, a4, a5, a6, a7, a8⟩ := hnd.below b1; have B1 : Below w.heap.size w w1 := Below.trans (by go_grown) (b1.mono (by simp)))
    | (go_at_call 19; refine (HQ.out _ (by assumption)).mono ?_; rintro e w2 ⟨rfl, b2⟩)
    | (go_at_call 12; refine (awake_calls _).mono ?_; rintro e w3 ⟨rfl, b3⟩))
  all_goals go_wp2
  all_goals go_ret
  all_goals
    have hB2 := B1.trans (b2.mono B1.size)
    exact ⟨rfl, hB2.trans (b3.mono hB2.size)⟩
end Go.Proofs.Ytbdakbibnigdjaa
