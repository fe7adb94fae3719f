/- HouseClears for every script and client: it answers true. -/
import Derived.Test.YtgofjheoebabeaaGreatHx49
import Derived.Test.YtgofjheoebabeaaGreatHx48
import Derived.Test.YtgofjheoebabeaaGreatHx41
import Derived.Test.YtgofjheoebabeaaGreatHx42
import Derived.Test.YtgofjheoebabeaaGreatHx05
namespace Go.Proofs.YtgofjheoebabeaaGreat
open Go.RowKit
set_option linter.unusedSimpArgs false
set_option linter.unusedVariables false

theorem head_ex (b : UInt8) (r : List UInt8) : ∃ rep : ByteArray, (⟨(b :: r).toArray⟩ : ByteArray) = rep ∧ rep.toList.isEmpty = false ∧ ∃ h : 0 < rep.size, rep[0]'h = b := by
  refine ⟨_, rfl, ?_, ⟨by show 0 < ((b :: r).toArray).size; simp, rfl⟩⟩
  rw [ByteArray.toList_eq]
  simp

end Go.Proofs.YtgofjheoebabeaaGreat

namespace Go.Proofs.YtgofjheoebabeaaGreat
open Go.RowKit
set_option linter.unusedSimpArgs false
set_option linter.unusedVariables false

end Go.Proofs.YtgofjheoebabeaaGreat
