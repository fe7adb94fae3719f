/- Of: an auction out of bytes. -/
import Derived.Test.YtgbcbjfaplogaaaCkOf
import Derived.Deep.RegionHeldLaw
import Derived.Deep.RegionHeld3
import Derived.Deep.DeepCutAuto
import Derived.Deep.CutBlock
namespace Go.Proofs.Ytgbcbjfaplogaaa
open Go.RowKit
set_option linter.unusedSimpArgs false
set_option linter.unusedVariables false
variable {p b : Nat} {a : Au}

/-- A row of which at least six numbers are known. -/
theorem Rwn.block {w : World} {B : Nat} {v : Value} {l : List Int} (h : Rwn w B v l) (hl : 1 ≤ l.length) : ∃ g cap cur, v = .slice (some ⟨g, 0, none⟩) l.length cap ∧ B ≤ g ∧ Blk w g cur 3 ∧ ∀ i, i < l.length → cur[i]? = some (.int .i64 (gAt l i)) := by
  rcases h with ⟨_, rfl⟩ | h
  · exact absurd hl (by simp)
  · exact h
/-- The demands, the first k of them as read. -/
def putK (ms : List Int) (n : Nat) : Nat → List Dm
  | 0 => List.replicate n ⟨0, 0⟩
  | k + 1 => (putK ms n k).set k ⟨gAt ms (6 + 2 * k), gAt ms (6 + 2 * k + 1)⟩
theorem putK_len (ms : List Int) (n : Nat) : ∀ k, (putK ms n k).length = n
  | 0 => by simp [putK]
  | k + 1 => by rw [putK, List.length_set, putK_len]
theorem putK_at (ms : List Int) (n : Nat) : ∀ k i, i < n → k ≤ n → dAt (putK ms n k) i = if i < k then ⟨gAt ms (6 + 2 * i), gAt ms (6 + 2 * i + 1)⟩ else ⟨0, 0⟩
  | 0, i, _, _ => by rw [putK, dAt_rep]; simp
  | k + 1, i, hi, hk => by
    rw [putK, dAt_set _ (by rw [putK_len]; omega)]
    by_cases e : i = k
    · subst e; rw [if_pos rfl, if_pos (by omega)]
    · rw [if_neg e, putK_at ms n k i hi (by omega)]
      by_cases h : i < k
      · rw [if_pos h, if_pos (by omega)]
      · rw [if_neg h, if_neg (by omega)]
theorem putK_all (ms : List Int) (n : Nat) : putK ms n n = dsOf ms n := by
  refine dAt_ext (by rw [putK_len, dsOf_len]) fun i hi => ?_
  rw [putK_len] at hi
  rw [putK_at ms n n i hi (Nat.le_refl _), if_pos hi, dsOf_at ms hi]
theorem dC_two {l : List Dm} {i : Nat} (d : Dm) (hi : i < l.length) : ((dC l).setIfInBounds (i * 2) (.int .i64 d.was)).setIfInBounds (i * 2 + 1) (.int .i64 d.now) = dC (l.set i d) := by
  have e1 := dC_set (l := l) (i := i) (j := 0) (v := .int .i64 d.was) (d := ⟨d.was, nowOf l i⟩) hi (by omega) rfl
  rw [Nat.add_zero] at e1
  rw [e1]
  have e2 := dC_set (l := l.set i ⟨d.was, nowOf l i⟩) (i := i) (j := 1) (v := .int .i64 d.now) (d := d) (by simpa using hi) (by omega) (by rw [dAt_set _ hi, if_pos rfl]; rfl)
  rw [e2, List.set_set]

set_option maxRecDepth 100000 in
set_option maxHeartbeats 1000000 in
/-- What has too few numbers, or another number of them than it says, is no auction. -/
theorem of_short (s : ByteArray) (w : World) (hs : s.size ≤ 140737488351232) (h : nm s = none ∨ ∃ ms, nm s = some ms ∧ (ms.length < 6 ∨ (ms.length : Int) ≠ 6 + 2 * gAt ms 5)) :
    Calls Try.prog 6 #[.string s] w fun e w' => e = .returned (.tuple #[.pointer none, .int .i64 92]) ∧ Below w.heap.size w w' := by
  have HN : Hid _ := numbersOf_calls s w hs
  have HH : Hid _ := h
  clear h
  go_enter Try.func6, Try.ntmps6
  go_wp2_with fail
  refine Calls.mono HN.out ?_
  rintro e w1 ⟨b1, q⟩
  clear HN
  rcases q with ⟨hn, rfl⟩ | ⟨ms, v, hn, rfl, R1⟩
  · go_wp2
    go_ret2
    exact ⟨rfl, b1⟩
  · have hm : ms.length < 6 ∨ (ms.length : Int) ≠ 6 + 2 * gAt ms 5 := by
      rcases HH.out with q | ⟨ms', q, q'⟩
      · rw [hn] at q; cases q
      · rw [hn] at q; cases q; exact q'
    have hcan := nmF_canon 38 _ ms hn
    clear HH hn
    obtain ⟨c, cap, rfl, hc⟩ := R1.rd
    by_cases h6 : ms.length < 6
    · have d6 : decide ((ms.length : Int) < 6) = true := decide_eq_true (by omega)
      go_wp2
      go_ret2
      exact ⟨rfl, b1⟩
    · have d6 : decide ((ms.length : Int) < 6) = false := decide_eq_false (by omega)
      have hne := hm.resolve_left h6
      obtain ⟨g, off, rfl, hg, hx⟩ := hc 5 (by omega)
      have hb5 : 0 ≤ gAt ms 5 ∧ gAt ms 5 ≤ 9007199254740992 := by rw [gAt_eq (by omega)]; exact hcan.2.2 _ (List.getElem_mem _)
      have h38 := hcan.2.1
      have hlt5 : (5 : Int) < ms.length := by omega
      clear hc hm
      generalize gAt ms 5 = y at *
      have hdn : ((ms.length : Int) == 6 + 2 * y) = false := by simpa using hne
      go_wp2
      go_ret2
      exact ⟨rfl, b1⟩
end Go.Proofs.Ytgbcbjfaplogaaa
