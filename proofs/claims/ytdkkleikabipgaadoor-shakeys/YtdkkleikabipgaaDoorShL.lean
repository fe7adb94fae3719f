/- What the rows of layer 2 list: the round words, as the program's text lays them. -/
import Derived.Test.YtdkkleikabipgaaDoorShD
import Derived.Test.YtdkkleikabipgaaDoorRows
import Derived.ProofKit
import Derived.LaidMore
import Derived.OpenShut
import Derived.Stop.Joined
import Derived.Lib.LaidTab
import Derived.Lay
namespace Go.Proofs.YtdkkleikabipgaaDoor
open Go.ChangeShapes Go.WideShapes Go.ChangeAt Go.RowKit

def laidK : List (String × DataW Unit) := [("gavel/sha.roundWords", Rows.laid_gavel_sha_roundWords)]
theorem laid_own : ownKnob Tryd.prog.godebug = none := by kernel_rfl
theorem gK : Tryd.prog.globalNamed "gavel/sha.roundWords" = some 0 := by kernel_rfl
theorem tK : (Tryd.prog.globals[0]?).map (·.type) = some 53 := by kernel_rfl
theorem cellsU32 : Tryd.prog.cellsOf 36 = 1 := by kernel_rfl
theorem cellsK : Tryd.prog.cellsOf 53 = 64 := by kernel_rfl
theorem laidK_tab : (Rows.laid_gavel_sha_roundWords : DataW Unit) = Lib.tabData .u32 (kTab.map fun x : Nat => (x : Int)) := rfl

/-- What the row's condition gives the walks. -/
theorem kt_of_laid {W : World} (h : laidMetH Tryd.prog laidK W) : KT W := by
  rw [MakeChecks.laidMetH_plain _ _ _ (by kernel_rfl)] at h
  have hT : Lib.TabIs Tryd.prog W "gavel/sha.roundWords" .u32 (kTab.map fun x : Nat => (x : Int)) := by
    refine Lib.tabIs_of_head (rest := []) gK tK Tryd.underlying53 Tryd.underlying36 cellsU32 cellsK ?_
    rw [← laidK_tab]; exact h
  refine ⟨fun i hi => ?_⟩
  have := hT.cell gK i (by rw [List.length_map, kTab_length]; exact hi)
  rw [this]
  simp [List.getD_eq_getElem?_getD]
  rw [List.getElem?_eq_getElem (by rw [kTab_length]; exact hi)]
  rfl

/-- A world that meets the condition. -/
theorem laid_met (os : Os) (args : Array Value) : laidMetH Tryd.prog laidK ((World.laidAll Tryd.prog os laidK).forCall (fun _ _ => 0) ⟨#[], args, []⟩).memory := by
  rw [MakeChecks.laidMetH_plain _ _ _ (by kernel_rfl)]
  exact laidMet_laidAll _ (by kernel_rfl) (by kernel_rfl)
end Go.Proofs.YtdkkleikabipgaaDoor
