/- The walk of VlogWindow. -/
import Derived.Test.YtipjlonnllcfbabVlWn1
import Derived.Test.YtipjlonnllcfbabVlWn2
import Derived.Test.YtipjlonnllcfbabVlWn3
import Derived.Test.YtipjlonnllcfbabVlWn4
import Derived.Test.YtipjlonnllcfbabVlWn5
import Derived.Test.YtipjlonnllcfbabVlWn6
namespace Go.Proofs.Ytipjlonnllcfbab
open Go.Shelf Go.RowKit Go.Lib Go.Sort
open Go.ChangeMaps (setBlock)
set_option linter.unusedSimpArgs false
set_option linter.unusedVariables false
theorem window_calls (v : Value) (l : List Ac) (ak af av aq : Int) (ad at' : ByteArray) (w : World) (hl : Acs w v l) (hz1 : ad.size ≤ 140737488351232) (hz2 : at'.size ≤ 140737488351232) :
    Calls Try.prog 3 #[v, .agg #[.int .i64 ak, .int .i64 af, .int .i64 av, .int .i64 aq, .string ad, .string at']] w fun e w' => e = .returned (.bool true) ∧ Below w.heap.size w w' := by
  obtain ⟨h1, h2⟩ := arn_ok ak 6 (by decide)
  obtain h | h | h | h | h | h : arn ak 6 = 0 ∨ arn ak 6 = 1 ∨ arn ak 6 = 2 ∨ arn ak 6 = 3 ∨ arn ak 6 = 4 ∨ arn ak 6 = 5 := by omega
  · exact win0 v l ak af av aq ad at' w hl hz1 hz2 h
  · exact win1 v l ak af av aq ad at' w hl hz1 hz2 h
  · exact win2 v l ak af av aq ad at' w hl hz1 hz2 h
  · exact win3 v l ak af av aq ad at' w hl hz1 hz2 h
  · exact win4 v l ak af av aq ad at' w hl hz1 hz2 h
  · exact win5 v l ak af av aq ad at' w hl hz1 hz2 h
end Go.Proofs.Ytipjlonnllcfbab
