/- How many clients there are stays. No program is named here. -/
import Derived.Test.YtmcafgmjfgfaeaaDoorLr12
namespace Go.Proofs.YtmcafgmjfgfaeaaDoor
open Go.RowKit
set_option linter.unusedSimpArgs false
set_option linter.unusedVariables false
end Go.Proofs.YtmcafgmjfgfaeaaDoor

namespace Go.Proofs.YtmcafgmjfgfaeaaDoor
open Go.RowKit
set_option linter.unusedSimpArgs false
set_option linter.unusedVariables false
variable {g : Nat} {l : List Kt}
def IsA (x : Nat) : Prop := x = 0 ∨ (2 ≤ x ∧ x ≤ 5)
theorem IsA.ne {x a h : Nat} (hx : IsA x) (p : Part a h) : x ≠ h := by
  rcases p with ⟨rfl, rfl⟩ | ⟨_, _, rfl⟩ <;> rcases hx with rfl | ⟨_, _⟩ <;> omega
end Go.Proofs.YtmcafgmjfgfaeaaDoor
