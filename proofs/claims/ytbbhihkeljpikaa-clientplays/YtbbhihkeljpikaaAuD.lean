/- What the methods of a book that numbers answer, and what turns. -/
import Derived.Test.YtbbhihkeljpikaaAuN
namespace Go.Proofs.Ytbbhihkeljpikaa
open Go.RowKit
set_option linter.unusedSimpArgs false
set_option linter.unusedVariables false

variable {b x y : Nat} {T : List ByteArray} {S : List (Int × ByteArray)}

theorem num_of_seek {α : Type} [DecidableEq α] {k : α} {l : List α} {j : Nat} (h : seek k l 0 = some j) : num l k = j + 1 := by unfold num; rw [h]; rfl

set_option maxHeartbeats 1000000 in
set_option maxRecDepth 100000 in
theorem sign_calls (who : Int) (s : ByteArray) (w : World) (h : Nums w b x y T S) (hS : S.length < 1000000) (hs : s.size ≤ 140737488351232) :
    Calls Try.prog 100 #[.pointer (some ⟨b, 0, none⟩), .int .i64 who, .string s] w fun e w' => e = .returned (.tuple #[.string (sgnB (num (note S (who, s)) (who, s))), .int .i64 0]) ∧ Nums w' b x y T (note S (who, s)) ∧ Off2 x y w w' := by
  have c0 : w.cell? ⟨b, 1, none⟩ = some (.map (some y)) := h.blk.cell rfl
  have hl := h.lookY (who, s)
  by_cases hm : (who, s) ∈ S
  · obtain ⟨j, hj, _, hjl⟩ := seek_some (who, s) S 0 hm
    rw [Nat.zero_add] at hj
    rw [note_old hm, num_of_seek hj]
    rw [hj] at hl
    have he := fun wx => signature_calls (j + 1) wx (by omega)
    simp only [Int.natCast_succ] at he
    unfold lookV pairV at hl
    go_enter Try.func100, Try.ntmps100
    go_wp2_with fail
    refine (he _).mono ?_
    rintro e w1 ⟨rfl, hb⟩
    go_wp2
    go_ret2
    exact ⟨rfl, h.below hb, Off2.of_below hb⟩
  · rw [num_new hm]
    rw [seek_none (who, s) S 0 hm] at hl
    unfold lookV pairV at hl
    have hc := fun wx => clone_calls s wx (by omega)
    have he := fun wx => signature_calls (S.length + 1) wx (by omega)
    simp only [Int.natCast_succ] at he
    have HE : Hid _ := he
    have HC : Hid _ := hc
    clear he hc
    have hlen := h.lenY
    go_enter Try.func100, Try.ntmps100
    go_wp2_with fail
    go_region_with (go_at_call 79; refine (HC.out _).mono ?_; rintro e w1 ⟨rfl, hb1⟩; have N1 := h.below ((Below.refl w.heap.size w).drew.trans hb1); obtain ⟨W2, hp, N2, O2⟩ := N1.putYe who s hm; have c1 : World.cell? _ ⟨b, 1, none⟩ = some (.map (some y)) := N1.blk.cell rfl)
    all_goals
      go_wp2_with fail
      refine (HE.out _).mono ?_
      rintro e w3 ⟨rfl, hb3⟩
      go_wp2
      go_ret2
      exact ⟨rfl, N2.below hb3, ((Off2.of_below ((Below.refl w.heap.size w).drew.trans hb1)).trans O2).trans (Off2.of_below hb3)⟩

/-- Is it the signature? -/
def chk (S : List (Int × ByteArray)) (who : Int) (s sig : ByteArray) : Bool := isIn S (who, s) && decide (sig = sgnB (num S (who, s)))

set_option maxHeartbeats 1000000 in
set_option maxRecDepth 100000 in
theorem check_calls (who : Int) (s sig : ByteArray) (w : World) (h : Nums w b x y T S) (hS : S.length < 1000000) :
    Calls Try.prog 98 #[.pointer (some ⟨b, 0, none⟩), .int .i64 who, .string s, .string sig] w fun e w' => e = .returned (.bool (chk S who s sig)) ∧ Below w.heap.size w w' := by
  have c0 : w.cell? ⟨b, 1, none⟩ = some (.map (some y)) := h.blk.cell rfl
  have hl := h.lookY (who, s)
  by_cases hm : (who, s) ∈ S
  · obtain ⟨j, hj, _, hjl⟩ := seek_some (who, s) S 0 hm
    rw [Nat.zero_add] at hj
    obtain ⟨B, hB⟩ : ∃ B, chk S who s sig = B := ⟨_, rfl⟩
    have hB' : (sig.toList == (sgnB (j + 1)).toList) = B := by
      rw [strEq, ← hB]; unfold chk; rw [num_of_seek hj, (isIn_iff _ _).2 hm]; simp
    rw [hB]
    rw [hj] at hl
    have he := fun wx => signature_calls (j + 1) wx (by omega)
    simp only [Int.natCast_succ] at he
    unfold lookV pairV at hl
    clear hB
    go_enter Try.func98, Try.ntmps98
    go_wp2_with fail
    refine (he _).mono ?_
    rintro e w1 ⟨rfl, hb⟩
    go_wp2
    go_ret
    exact ⟨rfl, hb⟩
  · have hB : chk S who s sig = false := by unfold chk; rw [(isIn_false _ _).2 hm]; rfl
    rw [hB]
    rw [seek_none (who, s) S 0 hm] at hl
    unfold lookV pairV at hl
    go_enter Try.func98, Try.ntmps98
    go_wp2
    go_ret
    exact ⟨rfl, Below.refl _ _⟩

end Go.Proofs.Ytbbhihkeljpikaa
