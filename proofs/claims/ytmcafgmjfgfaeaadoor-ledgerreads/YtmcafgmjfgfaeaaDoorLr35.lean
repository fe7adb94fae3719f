/- The document: more, and less, of a part. -/
import Derived.Test.YtmcafgmjfgfaeaaDoorLr34
namespace Go.Proofs.YtmcafgmjfgfaeaaDoor
open Go.RowKit
set_option linter.unusedSimpArgs false
set_option linter.unusedVariables false
variable {g base : Nat} {m l : List Kt}

theorem Rm.row {w : World} {v : Value} (h : Rm w base v m) {k : Nat} {g0 : Int} {u : Value} (Y : Blk w k (rlA g0 u) 29) (cs : Array Value) : Rm (w.setRow k cs) base v m := by
  refine World.ownsRow.kept h (row := some k) ⟨rfl, rfl, rfl, by simp, fun j _ hj => setRow_other w _ j _ (fun e => hj (by rw [e]))⟩ ?_
  obtain ⟨_, ⟨rfl, _⟩ | ⟨q', cap', cur, rfl, _, hh, _⟩⟩ := h
  · exact Or.inl rfl
  · refine Or.inr ?_
    simp only [Value.ownBlock, ne_eq, Option.some.injEq]
    intro e
    unfold Blk at Y
    rw [← e, hh] at Y
    injection Y with Y
    injection Y with _ e2
    revert e2; decide
end Go.Proofs.YtmcafgmjfgfaeaaDoor
