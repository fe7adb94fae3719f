/- Batch: the bytes of a batch. -/
import Derived.Test.YtbdakbibnigdjabSgF
import Derived.Test.YtbdakbibnigdjabRefF
namespace Go.Proofs.Ytbdakbibnigdjab
open Go.RowKit
set_option linter.unusedVariables false
set_option linter.unusedSimpArgs false

def batchB (l : List Sg) : List UInt8 := enc l.length ++ sgsB l
def batchR (l : List Sg) : Array Value :=
  if 4 < l.length then #[.string ⟨#[]⟩, .int .i64 2]
  else if l.all sgOk = true then (if 1048576 < (batchB l).length then #[.string ⟨#[]⟩, .int .i64 4] else #[.string ⟨(batchB l).toArray⟩, .int .i64 0])
  else #[.string ⟨#[]⟩, .int .i64 14]

theorem batchB_len (l : List Sg) (h : l.all sgOk = true) (hl : l.length ≤ 64) : (batchB l).length ≤ 67116900 := by
  have h1 := sgsB_take_len l h l.length hl
  rw [List.take_length] at h1
  have h2 := enc_le l.length
  unfold batchB
  rw [List.length_append]
  omega

set_option maxRecDepth 100000 in
set_option maxHeartbeats 1000000 in
theorem batch_calls (v : Value) (l : List Sg) (w : World) (h : Sgs w v l) (hl : l.length < 9223372036854775807) :
    Calls Try.prog 19 #[v] w fun e w' => e = .returned (.tuple (batchR l)) ∧ Below w.heap.size w w' := by
  have hnot : ∀ (x : Bool) (w : World), (Op.unary .not (.bool x)).run Try.prog w = .ok (.bool (!x)) w := fun _ _ => rfl
  have h0 := h
  obtain ⟨p, c, rfl⟩ := h.len
  unfold batchR
  by_cases h4 : 4 < l.length
  · have hd : decide ((4 : Int) < (l.length : Int)) = true := by simp only [decide_eq_true_eq]; omega
    rw [if_pos h4]
    clear h h0
    go_enter Try.func19, Try.ntmps19
    go_wp2
    go_ret2
    exact ⟨rfl, Below.refl _ _⟩
  · have hd : decide ((4 : Int) < (l.length : Int)) = false := by simp only [decide_eq_false_iff_not]; omega
    rw [if_neg h4]
    have hars := areSigned_calls (.slice p l.length c) l w h hl
    cases hall : l.all sgOk with
    | false =>
      rw [hall] at hars
      clear h h0
      go_enter Try.func19, Try.ntmps19
      go_wp2_with fail
      refine hars.mono ?_
      rintro e w1 ⟨rfl, b1⟩
      go_wp2
      go_ret2
      exact ⟨rfl, b1⟩
    | true =>
      have hlen := batchB_len l hall (by omega)
      rw [hall] at hars
      have HS : Hid _ := h0
      clear h h0
      go_enter Try.func19, Try.ntmps19
      go_wp2_with fail
      refine hars.mono ?_
      rintro e w1 ⟨rfl, b1⟩
      go_wp2_with fail
      refine (layList_calls w (.slice none 0 0) 0 [] (.slice p l.length c) l w1 hall (by omega) HS.out b1 (World.ownsRow_nil _ _ _ _) (by omega)).mono ?_
      rintro e w2 ⟨v2, rfl, o2, b2, k2⟩
      rw [List.nil_append, Nat.zero_add] at o2
      change w2.ownsRow w.heap.size 5 1 v2 (batchB l).length (Lib.byteCells (batchB l)) at o2
      go_wp2_with fail
      refine (fit_calls w.heap.size v2 _ w2 o2 (by omega)).mono ?_
      rintro e w3 ⟨rfl, rfl⟩
      have B2 := b1.trans b2
      by_cases hL : 1048576 < (batchB l).length
      · rw [if_pos hL]
        simp only [if_pos hL, if_true]
        go_wp2
        go_ret2
        exact ⟨rfl, B2⟩
      · rw [if_neg hL]
        simp only [if_neg hL, if_true]
        go_wp2
        go_ret2
        exact ⟨rfl, B2⟩
end Go.Proofs.Ytbdakbibnigdjab
