/- What is refused changes nothing. -/
import Derived.Test.YtipjlonnllcfbabVlWd
namespace Go.Proofs.Ytipjlonnllcfbab
open Go.Shelf Go.RowKit Go.Lib Go.Sort
open Go.ChangeMaps (setBlock)
set_option linter.unusedSimpArgs false
set_option linter.unusedVariables false

theorem runs_ok (l : List Ac) : ∀ (L : Lv), LInv L → Fl L → (runs L l).n = L.n := by
  induction l with
  | nil => intro L _ _; rfl
  | cons a l ih =>
    intro L hi hf
    have := act_ok hi hf a
    show (runs (L.act a).1 l).n = L.n
    rw [ih _ this.1 this.2.1]
    exact this.2.2
theorem keptV_len {w : World} {base : Nat} {v : Value} {l : List Slot} (h : KeptV w base v l) : ∃ p cap, v = .slice p l.length cap := by
  obtain ⟨ks, h1, h2, _⟩ := h
  obtain ⟨p, cap, e⟩ := own_form h2
  exact ⟨p, cap, by rw [e, ← h1]; simp⟩
theorem prop_empty (L : Lv) (vw q : Int) (b : ByteArray) : L.propose vw q ⟨#[]⟩ b = (L, 1) := by unfold Lv.propose; rw [if_pos rfl]
theorem prop_out {L : Lv} {vw q : Int} {d : ByteArray} (hd : ¬ d = ⟨#[]⟩) (h : L.wi q = false ∨ vw ≠ L.vw) (b : ByteArray) : L.propose vw q d b = (L, 100) := by unfold Lv.propose; rw [if_neg hd, if_pos h]
theorem vote_nobody {L : Lv} {m : Sgn} (h : ¬ (0 ≤ m.1 ∧ m.1 < L.n)) (kd vw q : Int) (d : ByteArray) : L.vote m kd vw q d = (L, 1) := by unfold Lv.vote; rw [if_pos (Or.inl h)]
theorem vote_out {L : Lv} {m : Sgn} (h : 0 ≤ m.1 ∧ m.1 < L.n) {kd : Int} (hk : kd = 3 ∨ kd = 4) {vw q : Int} (ho : L.wi q = false ∨ vw ≠ L.vw) (d : ByteArray) : L.vote m kd vw q d = (L, 100) := by
  unfold Lv.vote
  rw [if_neg (by rintro (e | e); · exact e h
                 · omega), if_pos ho]
end Go.Proofs.Ytipjlonnllcfbab
