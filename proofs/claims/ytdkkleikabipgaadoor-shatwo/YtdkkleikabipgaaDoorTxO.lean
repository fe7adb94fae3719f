/- A slice of texts that comes in as an argument, opened. -/
import Derived.Test.YtdkkleikabipgaaDoorShT
import Derived.SliceStrings
import Derived.SizedLaws
import Derived.ProofKit
namespace Go.Proofs.YtdkkleikabipgaaDoor
open Go.ChangeShapes Go.WideShapes Go.ChangeAt Go.RowKit
set_option linter.unusedVariables false

theorem cellsStr : Tryd.prog.cellsOf 9 = 1 := by kernel_rfl
theorem bytesStr : Tryd.prog.bytesOf 9 = 16 := by kernel_rfl
theorem weights_strs {H : Type} {P : Program} {e : TypeId} : ∀ (ss : List ByteArray) (s : ByteArray), s ∈ ss → s.data.toList.length ∈ DataW.weightsAll (H := H) P e (strs ss)
  | [], s, h => by cases h
  | x :: r, s, h => by
    simp only [strs, List.map_cons, DataW.weightsAll, DataW.weights, List.mem_append, List.mem_singleton]
    rcases List.mem_cons.1 h with rfl | h
    · exact Or.inl rfl
    · exact Or.inr (weights_strs r s h)

theorem open_txs {H : Type} {enc : TypeId × Value → H} {w : World} {base : Nat} {spare : Nat → Bool} {held : Bool} {v : Value} {d : DataW H} {p : List MemPlace} (hc : v.cells = #[v]) (h : DataW.Trod enc Tryd.prog w base spare held 27 v d p)
    (hsz : (DataW.weights Tryd.prog 27 d).all (· ≤ reachBytes) = true) (hlt : ∀ x ∈ p, x.block < w.heap.size) :
    ∃ a n cap l, v = .slice a n cap ∧ Txs w a n l ∧ n ≤ 140737488351232 := by
  obtain ⟨fuel, hf⟩ := h
  rw [hc] at hf
  rcases open_strings Tryd.underlying27 Tryd.underlying9 cellsStr hf with ⟨hcs, hx⟩ | ⟨a, len, cap, ss, hcs, _, hl, hm, hz, hx, hcell, hws⟩
  · have hv : v = .slice none 0 0 := by simpa using hcs
    exact ⟨none, 0, 0, [], hv, fun i hi => absurd hi (Nat.not_lt_zero _), by decide⟩
  · have hv : v = .slice (some a) len cap := by simpa using hcs
    simp only [Prod.mk.injEq] at hx
    obtain ⟨rfl, rfl⟩ := hx
    have hlen : len ≤ ss.length := by rw [hz]; split <;> omega
    simp only [DataW.weights, Tryd.underlying27, List.all_cons, List.all_append, Bool.and_eq_true, decide_eq_true_eq, bytesStr] at hsz
    obtain ⟨h1, h2, h3⟩ := hsz
    have h1' : ss.length * 16 ≤ 140737488351232 := by
      simp only [strs, List.length_map, List.length_take, List.length_drop, reachBytes] at h1
      omega
    refine ⟨some a, len, cap, ss, hv, fun i hi => ?_, by omega⟩
    obtain ⟨g, o, spot⟩ := a
    have hspot : spot = none := by simpa [Addr.add] using World.cell?_spot (hcell 0 (by omega))
    subst hspot
    have hg : g < w.heap.size := hlt (.cell g o) (MemPlace.mem_row.2 ⟨0, by omega, by simp⟩)
    refine ⟨g, o, rfl, hg, ?_, ?_⟩
    · have := hcell i (by omega)
      rwa [add_plain] at this
    · have hmem : ss.getD i .empty ∈ ss.take len := by
        rw [List.getD_eq_getElem?_getD, List.getElem?_eq_getElem (by omega)]
        exact List.mem_take_iff_getElem.2 ⟨i, by omega, rfl⟩
      have := of_decide_eq_true (List.all_eq_true.1 h2 _ (weights_strs _ _ hmem))
      rw [show (ss.getD i ByteArray.empty).data.toList.length = (ss.getD i ByteArray.empty).size from by rw [Lib.size_eq]] at this
      exact Nat.le_trans this (by unfold reachBytes; decide)
end Go.Proofs.YtdkkleikabipgaaDoor
