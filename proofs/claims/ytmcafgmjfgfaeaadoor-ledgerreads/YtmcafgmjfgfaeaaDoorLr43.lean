/- The document's records of a ledger are the program's. -/
import Derived.Test.YtmcafgmjfgfaeaaDoorLr34
import Derived.Test.YtmcafgmjfgfaeaaDoorLr28
import Derived.Test.YtmcafgmjfgfaeaaDoorLr42
import Derived.Test.YtmcafgmjfgfaeaaDoorLr40
import Derived.Deep.RegionHeld
import Derived.Deep.DeepCutAuto
import Derived.Deep.CutBlock
namespace Go.Proofs.YtmcafgmjfgfaeaaDoor
open Go.RowKit
set_option linter.unusedSimpArgs false
set_option linter.unusedVariables false
variable {g base p b : Nat} {m l : List Kt}

theorem two_own (w : World) (a b : Int) (ha : 0 ≤ a ∧ a < 256) (hb : 0 ≤ b ∧ b < 256) : (convert 92 9 (.slice (some ⟨w.heap.size, 0, none⟩) 2 2)).run Tryd.prog (w.alloc (.cells #[.int .u8 a, .int .u8 b] 5)) = .ok (.string ⟨#[UInt8.ofNat a.toNat, UInt8.ofNat b.toNat]⟩) (w.alloc (.cells #[.int .u8 a, .int .u8 b] 5)) := by
  have e : Lib.byteCells [UInt8.ofNat a.toNat, UInt8.ofNat b.toNat] = [.int .u8 a, .int .u8 b] := by
    have h1 : ((UInt8.ofNat a.toNat).toNat : Int) = a := by simp [UInt8.toNat_ofNat']; omega
    have h2 : ((UInt8.ofNat b.toNat).toNat : Int) = b := by simp [UInt8.toNat_ofNat']; omega
    simp [Lib.byteCells]
    omega
  refine own_convert (base := w.heap.size) (n := 2) (l := [UInt8.ofNat a.toNat, UInt8.ofNat b.toNat]) ?_
  rw [e]
  exact ⟨rfl, Or.inr ⟨w.heap.size, 2, #[.int .u8 a, .int .u8 b], rfl, Nat.le_refl _, blk_new _ _ _ _ rfl, by omega, by unfold maxLen; omega, rfl, rfl⟩⟩
set_option maxRecDepth 100000 in
set_option maxHeartbeats 2000000 in
theorem key_ref (i : Nat) (w : World) (h : i < 16) : Calls Tryd.prog 40 #[.int .i64 i] w fun e w' => e = .returned (.string (keyB i)) ∧ Below w.heap.size w w' := by
  have hcv := fun a b => two_own w a b
  have : i = 0 ∨ i = 1 ∨ i = 2 ∨ i = 3 ∨ i = 4 ∨ i = 5 ∨ i = 6 ∨ i = 7 ∨ i = 8 ∨ i = 9 ∨ i = 10 ∨ i = 11 ∨ i = 12 ∨ i = 13 ∨ i = 14 ∨ i = 15 := by omega
  rcases this with rfl | rfl | rfl | rfl | rfl | rfl | rfl | rfl | rfl | rfl | rfl | rfl | rfl | rfl | rfl | rfl
  all_goals
    go_enter Tryd.func40, Tryd.ntmps40
    go_wp2
    go_ret
    exact ⟨rfl, by go_grown⟩

end Go.Proofs.YtmcafgmjfgfaeaaDoor
