/- The document's ledger beside the program's: what is free and kept, by parts. No program is named here. -/
import Derived.Test.YtmcafgmjfgfaeaaDoorLr31
namespace Go.Proofs.YtmcafgmjfgfaeaaDoor
open Go.RowKit
set_option linter.unusedSimpArgs false
set_option linter.unusedVariables false

/-- A part's number among what a client has, and among what of it is held. -/
def apf (p : Nat) : Nat := if p = 0 then 0 else p + 1
def hpf (p : Nat) : Nat := if p = 0 then 1 else p + 5
theorem part_of {p : Nat} (h : p ≤ 4) : Part (apf p) (hpf p) := by
  unfold apf hpf
  by_cases h0 : p = 0
  · rw [if_pos h0, if_pos h0]; exact Or.inl ⟨rfl, rfl⟩
  · rw [if_neg h0, if_neg h0]; exact Or.inr ⟨by omega, by omega, by omega⟩
/-- The document's accounts (0 to 4 free, 5 to 9 kept, 10 the stamp) tell what the program's have. -/
structure Sim (m l : List Kt) : Prop where
  len : m.length = l.length
  free : ∀ i, i < l.length → ∀ p, p ≤ 4 → (kAt m i).n p = (kAt l i).n (apf p) - (kAt l i).n (hpf p)
  kept : ∀ i, i < l.length → ∀ p, p ≤ 4 → (kAt m i).n (5 + p) = (kAt l i).n (hpf p)
  stamp : ∀ i, i < l.length → (kAt m i).n 10 = (kAt l i).n 10
  reply : ∀ i, i < l.length → (kAt m i).reply = (kAt l i).reply
variable {m l : List Kt} {g : Nat}
theorem Sim.zero (c : Nat) : Sim (List.replicate c Kt.zero) (List.replicate c Kt.zero) := by
  have e : ∀ i, kAt (List.replicate c Kt.zero) i = Kt.zero := fun i => by
    unfold kAt
    rw [List.getElem?_replicate]
    split <;> rfl
  exact ⟨rfl, fun i _ p _ => by rw [e]; rfl, fun i _ p _ => by rw [e]; rfl, fun _ _ => rfl, fun _ _ => rfl⟩
/-- What can be reckoned with. -/
theorem Sim.nums (S : Sim m l) (H : Inv g l) {i p : Nat} (hi : i < l.length) (hp : p ≤ 4) : 0 ≤ (kAt m i).n p ∧ 0 ≤ (kAt m i).n (5 + p) ∧ (kAt m i).n p + (kAt m i).n (5 + p) = (kAt l i).n (apf p) ∧ (kAt l i).n (apf p) ≤ 1099511627776 := by
  have h1 := S.free i hi p hp
  have h2 := S.kept i hi p hp
  have h3 := H.le (part_of hp) hi
  omega

end Go.Proofs.YtmcafgmjfgfaeaaDoor
