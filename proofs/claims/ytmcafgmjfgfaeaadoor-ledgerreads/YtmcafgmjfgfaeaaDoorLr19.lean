/- A slice whose elements are read by a given law, that comes in as an argument: opened, with the sizes of what it holds. -/
import Derived.Test.YtmcafgmjfgfaeaaDoorRows
import Derived.ProofKit
import Derived.OpenShut
import Derived.Deep.Slices
import Derived.Deep.Strs
import Derived.SizedLaws
import Derived.Test.YtmcafgmjfgfaeaaDoorLr09
import Derived.Lib.ConvBytes
namespace Go.Proofs.YtmcafgmjfgfaeaaDoor
open Go.ChangeShapes Go.WideShapes Go.ChangeAt Go.RowKit Go.Deep
set_option linter.unusedVariables false
set_option linter.unusedSimpArgs false

/-- A slice's elements in memory: sz cells each, as R says, with B of each. -/
def Elems {α : Type} (sz : Nat) (R : α → List Value) (B : α → Prop) (w : World) (v : Value) (l : List α) : Prop :=
  ((∃ p c, v = .slice p 0 c) ∧ l = []) ∨
  ∃ b off cap, v = .slice (some ⟨b, off, none⟩) l.length cap ∧ b < w.heap.size ∧ l.length ≤ cap ∧ ∀ i (h : i < l.length), (∀ j u, (R l[i])[j]? = some u → w.cell? ⟨b, off + i * sz + j, none⟩ = some u) ∧ B l[i]
theorem Elems.below {α : Type} {sz : Nat} {R : α → List Value} {B : α → Prop} {w w' : World} {v : Value} {l : List α} (h : Elems sz R B w v l) (hb : Below w.heap.size w w') : Elems sz R B w' v l := by
  rcases h with h | ⟨b, off, cap, hv, hl, hlc, hc⟩
  · exact Or.inl h
  · exact Or.inr ⟨b, off, cap, hv, Nat.lt_of_lt_of_le hl hb.size, hlc, fun i hi => ⟨fun j u hu => (hb.cell (p := ⟨b, off + i * sz + j, none⟩) hl).trans ((hc i hi).1 j u hu), (hc i hi).2⟩⟩

/-- The same, with the empty one among them. -/
theorem Elems.any {α : Type} {sz : Nat} {R : α → List Value} {B : α → Prop} {w : World} {v : Value} {l : List α} (h : Elems sz R B w v l) :
    ∃ a cap, v = .slice a l.length cap ∧ ∀ i (h : i < l.length), ∃ g off, a = some ⟨g, off, none⟩ ∧ l.length ≤ cap ∧ g < w.heap.size ∧ (∀ j u, (R l[i])[j]? = some u → w.cell? ⟨g, off + i * sz + j, none⟩ = some u) ∧ B l[i] := by
  rcases h with ⟨⟨a, c, rfl⟩, rfl⟩ | ⟨b, off, cap, rfl, hl, hlc, hc⟩
  · exact ⟨a, c, rfl, fun i hi => absurd hi (Nat.not_lt_zero _)⟩
  · exact ⟨some ⟨b, off, none⟩, cap, rfl, fun i hi => ⟨b, off, rfl, hlc, hl, (hc i hi).1, (hc i hi).2⟩⟩

section
variable {H : Type} {enc : TypeId × Value → H} {w : World} {base : Nat} {spare : Nat → Bool} {held : Bool}

end

theorem prog_laid : laidOutB Tryd.prog = true := by kernel_rfl
end Go.Proofs.YtmcafgmjfgfaeaaDoor

namespace Go.Proofs.YtmcafgmjfgfaeaaDoor
open Go.ChangeShapes Go.WideShapes Go.ChangeAt Go.RowKit Go.Deep
set_option linter.unusedSimpArgs false
set_option linter.unusedVariables false

section
variable {H : Type} {enc : TypeId × Value → H} {w : World} {base : Nat} {spare : Nat → Bool} {held : Bool}
end
end Go.Proofs.YtmcafgmjfgfaeaaDoor
