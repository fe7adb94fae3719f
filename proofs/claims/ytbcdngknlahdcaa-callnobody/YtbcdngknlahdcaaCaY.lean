/- An order, handed in. -/
import Derived.Test.YtbcdngknlahdcaaCaX
namespace Go.Proofs.Ytbcdngknlahdcaa
open Go.ChangeShapes Go.WideShapes Go.ChangeAt Go.RowKit
set_option linter.unusedVariables false
section
variable {H : Type} {enc : TypeId × Value → H} {w : World} {base : Nat} {spare : Nat → Bool} {held : Bool}
theorem open_od1 {r : Reach} {b0 : Nat} {v : Value} {d : DataW H} {p : List MemPlace} (hv : Value.okWide Try.prog w r b0 32 v) (h : DataW.Trod enc Try.prog w base spare held 32 v d p) :
    ∃ o : Od, v = .agg (oC o).toArray := by
  obtain ⟨cs, rfl, _⟩ := okWide_struct Try.underlying32 hv
  obtain ⟨fuel, hf⟩ := h
  obtain ⟨o, hcs⟩ := open_od hf
  refine ⟨o, ?_⟩
  rw [← hcs]
  simp [Value.cells]
end
end Go.Proofs.Ytbcdngknlahdcaa
