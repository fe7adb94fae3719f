/- Records that come in as arguments: opened, cut to two hundred; when they are the same. -/
import Derived.Test.YtakdnkknmjahoaaMkI
import Derived.Test.YtakdnkknmjahoaaRcR
namespace Go.Proofs.Ytakdnkknmjahoaa
open Go.RowKit
set_option linter.unusedSimpArgs false
set_option linter.unusedVariables false
variable {p b x y : Nat} {T : List ByteArray} {S : List (Int × ByteArray)}

/-- Records in a slice that can be cut. -/
def RcsC (w : World) (v : Value) (l : List Rc) : Prop := Rcs w v l ∧ ∃ a cap, v = .slice a l.length cap ∧ l.length ≤ cap ∧ cap ≤ 9223372036854775807
theorem RcsC.below {w w' : World} {v : Value} {l : List Rc} (h : RcsC w v l) (hb : Below w.heap.size w w') : RcsC w' v l := ⟨h.1.below hb, h.2⟩
theorem RcsC.len {w : World} {v : Value} {l : List Rc} (h : RcsC w v l) : l.length ≤ 9223372036854775807 := by
  obtain ⟨_, _, _, _, h1, h2⟩ := h
  omega
set_option maxHeartbeats 1000000 in
set_option maxRecDepth 100000 in
theorem few_calls (v : Value) (l : List Rc) (w : World) (h : RcsC w v l) : Calls Try.prog 6 #[v] w fun e w' => ∃ v', e = .returned v' ∧ RcsC w v' (l.take 200) ∧ w' = w := by
  by_cases hl : 200 < l.length
  · obtain ⟨hr, a, cap, rfl, hc, hm⟩ := h
    have hd : decide ((200 : Int) < (l.length : Int)) = true := decide_eq_true (by omega)
    obtain ⟨g, off, rfl, hx⟩ : ∃ g off, a = some ⟨g, off, none⟩ ∧ ∀ i (h : i < l.length), w.cell? ⟨g, off + i * 2, none⟩ = some (.string l[i].key) ∧ w.cell? ⟨g, off + i * 2 + 1, none⟩ = some (.string l[i].dat) ∧ l[i].key.size ≤ maxLen ∧ l[i].dat.size ≤ maxLen := by
      rcases hr with ⟨_, h0⟩ | ⟨g, off, c, e, hx⟩
      · rw [h0] at hl; simp at hl
      · simp only [Value.slice.injEq] at e
        exact ⟨g, off, e.1, hx⟩
    have HX : Hid _ := hx
    clear hr hx
    go_enter Try.func6, Try.ntmps6
    go_wp2
    go_ret
    have e : (l.take 200).length = 200 := by rw [List.length_take]; omega
    refine ⟨.slice (some ⟨g, off, none⟩) 200 cap, rfl, ⟨Or.inr ⟨g, off, cap, by rw [e], fun i hi => ?_⟩, some ⟨g, off, none⟩, cap, by rw [e], by omega, hm⟩, rfl⟩
    rw [List.getElem_take]
    exact HX.out i (by omega)
  · have hd : decide ((200 : Int) < (l.length : Int)) = false := decide_eq_false (by omega)
    have e : l.take 200 = l := List.take_of_length_le (by omega)
    rw [e]
    have HH : Hid _ := h
    obtain ⟨hr, a, cap, rfl, hc, hm⟩ := h
    clear hr
    go_enter Try.func6, Try.ntmps6
    go_wp2
    go_ret
    exact ⟨_, rfl, HH.out, rfl⟩
end Go.Proofs.Ytakdnkknmjahoaa
