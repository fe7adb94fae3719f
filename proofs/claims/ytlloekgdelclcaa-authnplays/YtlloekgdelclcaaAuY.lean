/- What is signed, step by step, as plain lists. -/
import Derived.Test.YtlloekgdelclcaaAuX
namespace Go.Proofs.Ytlloekgdelclcaa
open Go.RowKit
set_option linter.unusedSimpArgs false
set_option linter.unusedVariables false

theorem signS_len (S : List (Int × ByteArray)) (w : Int) (t : ByteArray) : (signS S w t).length ≤ S.length + 1 := by
  unfold signS; split
  · exact note_len _ _
  · omega
theorem isIn_note {α : Type} [DecidableEq α] (S : List α) (a q : α) : isIn (note S a) q = (decide (a = q) || isIn S q) := by
  by_cases h : q ∈ note S a
  · rw [(isIn_iff _ _).2 h]
    rcases (mem_note S a q).1 h with h1 | h1
    · rw [(isIn_iff _ _).2 h1]; simp
    · simp [h1]
  · rw [(isIn_false _ _).2 h]
    have h2 : q ∉ S := fun h3 => h ((mem_note S a q).2 (Or.inl h3))
    have h3 : ¬ a = q := fun h3 => h ((mem_note S a q).2 (Or.inr h3.symm))
    rw [(isIn_false _ _).2 h2]; simp [h3]
theorem iss_step (S : List (Int × ByteArray)) (w : Int) (t : ByteArray) (who : Int) (text : ByteArray) :
    issB (signS S w t) who text = ((isSg w && decide (w = who) && decide (t = text)) || issB S who text) := by
  unfold issB signS
  cases hw : isSg w
  · simp
  · rw [if_pos rfl, isIn_note]
    by_cases h1 : w = who
    · subst h1
      by_cases h2 : t = text
      · simp [h2, hw]
      · simp [h2, hw]
    · simp [h1]
theorem chk_same (S : List (Int × ByteArray)) (w : Int) (t : ByteArray) (who : Int) (text : ByteArray) (hw : isSg w = true) (hm : (w, t) ∈ S) (hS : S.length < 1000000) :
    chkB S who text (sgnB (num S (w, t))) = (decide (w = who) && decide (t = text)) := by
  unfold chkB chk
  by_cases h : w = who ∧ t = text
  · obtain ⟨rfl, rfl⟩ := h
    rw [hw, (isIn_iff _ _).2 hm]; simp
  · have hr : (decide (w = who) && decide (t = text)) = false := by
      by_cases h1 : w = who
      · have h2 : ¬ t = text := fun h2 => h ⟨h1, h2⟩
        simp [h2]
      · simp [h1]
    rw [hr]
    cases hi : isIn S (who, text)
    · simp
    · have hq := (isIn_iff _ _).1 hi
      have : ¬ sgnB (num S (w, t)) = sgnB (num S (who, text)) := fun e => by
        have n1 := num_le S (w, t)
        have n2 := num_le S (who, text)
        have := num_inj hm hq (sgnB_inj (by omega) (by omega) e)
        injection this with a1 a2
        exact h ⟨a1, a2⟩
      simp [this]
theorem signR_two (S : List (Int × ByteArray)) (w : Int) (t : ByteArray) : ∃ (sv : ByteArray) (ev : Int), ev = (if isSg w = true then 0 else 1) ∧ signR S w t = #[.string sv, .int .i64 ev] := by
  unfold signR
  cases isSg w
  · exact ⟨_, _, rfl, rfl⟩
  · exact ⟨_, _, rfl, rfl⟩
theorem chk_iss (S : List (Int × ByteArray)) (who : Int) (text sig : ByteArray) (h : issB S who text = false) : chkB S who text sig = false := by
  unfold issB at h
  unfold chkB chk
  rw [← Bool.and_assoc, h, Bool.false_and]

end Go.Proofs.Ytlloekgdelclcaa
