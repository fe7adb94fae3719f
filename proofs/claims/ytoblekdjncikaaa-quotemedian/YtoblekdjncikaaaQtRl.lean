/- What a rank can be. -/
import Derived.Test.YtoblekdjncikaaaQtOr
namespace Go.Proofs.Ytoblekdjncikaaa
open Go.RowKit
set_option linter.unusedSimpArgs false
set_option linter.unusedVariables false

theorem rank_le (x : Nat) (hx : x < 18446744073709551616) : rankR x ≤ 18446744073709551615 := by
  have := frung_lt x
  rw [rank_rung hx]; split
  · omega
  · split <;> omega
theorem rank_nan {x : Nat} (hx : x < 18446744073709551616) : fnan x = decide (rankR x = 18446744073709551615) := by
  have := frung_lt x
  rw [rank_rung hx]
  cases hn : fnan x
  · unfold fnan at hn
    simp at hn
    cases fneg x <;> simp <;> omega
  · simp

end Go.Proofs.Ytoblekdjncikaaa
