/- The chapter's example (the same as in ShN, for a seat without ShaNobody: never both in one seat). -/
import Derived.Test.YtdkkleikabipgabDoorShI
import Derived.Test.YtdkkleikabipgabDoorShA
namespace Go.Proofs.YtdkkleikabipgabDoor
open Go.RowKit
set_option linter.unusedSimpArgs false
set_option linter.unusedVariables false

set_option maxRecDepth 100000 in
set_option maxHeartbeats 1000000 in
theorem awake_calls (w : World) (hK : KT w) :
    Calls Tryd.prog 9 #[] w fun e w' => e = .returned (.bool true) ∧ Below w.heap.size w w' := by
  have h := shaSum_calls ⟨#[97, 98, 99]⟩ w hK (by decide)
  have e : (ByteArray.mk #[97, 98, 99]).data.toList = [97, 98, 99] := rfl
  rw [e] at h
  have h1 : (ByteArray.mk (sumL [97, 98, 99]).toArray).size = 32 := rfl
  have h2 : (((ByteArray.mk (sumL [97, 98, 99]).toArray).extract 0 4).toList == [186, 120, 22, 191]) = true := by rw [sumL_abc]; kernel_rfl
  have h3 : (((ByteArray.mk (sumL [97, 98, 99]).toArray).extract 28 32).toList == [242, 0, 21, 173]) = true := by rw [sumL_abc]; kernel_rfl
  have HS : Hid _ := h
  clear h e
  generalize ByteArray.mk (sumL [97, 98, 99]).toArray = t at *
  go_enter Tryd.func9, Tryd.ntmps9
  go_wp2_with fail
  refine Calls.mono HS.out ?_
  rintro e w1 ⟨rfl, hb1⟩
  go_wp2
  go_ret
  exact ⟨rfl, hb1⟩
end Go.Proofs.YtdkkleikabipgabDoor
