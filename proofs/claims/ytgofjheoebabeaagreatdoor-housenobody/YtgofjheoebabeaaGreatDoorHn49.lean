/- A house that there is not: nothing, and nothing taken. -/
import Derived.Test.YtgofjheoebabeaaGreatDoorHn35
import Derived.Test.YtgofjheoebabeaaGreatDoorHn10
import Derived.Test.YtgofjheoebabeaaGreatDoorHn02
import Derived.Test.YtgofjheoebabeaaGreatDoorHn48
import Derived.Test.YtgofjheoebabeaaGreatDoorHn14
import Derived.Test.YtgofjheoebabeaaGreatDoorRows
import Derived.ProofKit
import Derived.LaidMore
import Derived.OpenShut
import Derived.Stop.Joined
import Derived.Lib.LaidTab
import Derived.Lay
namespace Go.Proofs.YtgofjheoebabeaaGreatDoor
open Go.RowKit
set_option linter.unusedSimpArgs false
set_option linter.unusedVariables false

set_option maxRecDepth 100000 in
theorem refuse_hn (w : World) (who stamp : Int) : Calls Tryz.prog 13 #[.pointer none, .int .i64 who, .int .i64 stamp] w fun e w' => e = .returned (.int .i64 1) ∧ w' = w := by
  have hm := made_hsnil w
  go_enter Tryz.func13, Tryz.ntmps13
  go_wp2_with fail
  refine hm.mono ?_
  rintro e w1 ⟨rfl, rfl⟩
  go_wp2
  go_ret
  exact ⟨rfl, rfl⟩
set_option maxRecDepth 100000 in
theorem do_hn (w : World) (who stamp : Int) (op : ByteArray) : Calls Tryz.prog 4 #[.pointer none, .int .i64 who, .int .i64 stamp, .string op] w fun e w' => e = .returned (.tuple #[.string ⟨#[]⟩, .int .i64 1]) ∧ w' = w := by
  have hm := refuse_hn w who stamp
  go_enter Tryz.func4, Tryz.ntmps4
  go_wp2_with fail
  refine hm.mono ?_
  rintro e w1 ⟨rfl, rfl⟩
  go_wp2
  refine bodyPost_ret (by simp [results, Tryz.results4, go_sem]; rfl) rfl ?_
  exact ⟨rfl, rfl⟩
set_option maxRecDepth 100000 in
theorem last_hn (w : World) (z : Int) : Calls Tryz.prog 6 #[.pointer none, .int .i64 z] w fun e w' => e = .returned (.tuple #[.int .i64 0, .string ⟨#[]⟩]) ∧ w' = w := by
  have hm := made_hsnil w
  go_enter Tryz.func6, Tryz.ntmps6
  go_wp2_with fail
  refine hm.mono ?_
  rintro e w1 ⟨rfl, rfl⟩
  go_wp2
  refine bodyPost_ret (by simp [results, Tryz.results6, go_sem]; rfl) rfl ?_
  exact ⟨rfl, rfl⟩
set_option maxRecDepth 100000 in
theorem now_hn (w : World) : Calls Tryz.prog 9 #[.pointer none] w fun e w' => e = .returned (.int .i64 0) ∧ w' = w := by
  have hm := made_hsnil w
  go_enter Tryz.func9, Tryz.ntmps9
  go_wp2_with fail
  refine hm.mono ?_
  rintro e w1 ⟨rfl, rfl⟩
  go_wp2
  go_ret
  exact ⟨rfl, rfl⟩
set_option maxRecDepth 100000 in
theorem market_hn (w : World) (z : Int) : Calls Tryz.prog 10 #[.pointer none, .int .i64 z] w fun e w' => e = .returned (.slice none 0 0) ∧ w' = w := by
  have hm := made_hsnil w
  go_enter Tryz.func10, Tryz.ntmps10
  go_wp2_with fail
  refine hm.mono ?_
  rintro e w1 ⟨rfl, rfl⟩
  go_wp2
  go_ret
  exact ⟨rfl, rfl⟩
set_option maxRecDepth 100000 in
theorem records_hn (w : World) : Calls Tryz.prog 11 #[.pointer none] w fun e w' => e = .returned (.slice none 0 0) ∧ w' = w := by
  have hm := made_hsnil w
  go_enter Tryz.func11, Tryz.ntmps11
  go_wp2_with fail
  refine hm.mono ?_
  rintro e w1 ⟨rfl, rfl⟩
  go_wp2
  go_ret
  exact ⟨rfl, rfl⟩
set_option maxRecDepth 100000 in
theorem auction_hn (w : World) (z : Int) : Calls Tryz.prog 7 #[.pointer none, .int .i64 z] w fun e w' => e = .returned (.tuple #[.string ⟨#[]⟩, .int .i64 0, .bool false]) ∧ w' = w := by
  have hm := made_hsnil w
  go_enter Tryz.func7, Tryz.ntmps7
  go_wp2_with fail
  refine hm.mono ?_
  rintro e w1 ⟨rfl, rfl⟩
  go_wp2
  refine bodyPost_ret (by simp [results, Tryz.results7, go_sem]; rfl) rfl ?_
  exact ⟨rfl, rfl⟩
set_option maxRecDepth 100000 in
set_option maxHeartbeats 1000000 in
theorem account_hn (w : World) (z : Int) : Calls Tryz.prog 5 #[.pointer none, .int .i64 z] w fun e w' => e = .returned (.tuple #[Led.accV Led.Kt.zero, .bool false]) ∧ Below w.heap.size w w' := by
  obtain ⟨W0, hW0, X0, B0, Z0⟩ : ∃ W0, (w.alloc (.cells #[.int .i64 0, .int .i64 0, .int .i64 0, .int .i64 0, .int .i64 0, .int .i64 0, .int .i64 0, .int .i64 0, .int .i64 0, .int .i64 0] 28)) = W0 ∧ Blk W0 w.heap.size (Led.accA Led.Kt.zero) 28 ∧ Below w.heap.size w W0 ∧ W0.heap.size = w.heap.size + 1 := ⟨_, rfl, blk_new _ _ _ _ rfl, by go_grown, by simp⟩
  have hma := made_hsnil W0
  obtain ⟨W1, hW1, X1, B1⟩ : ∃ W1, W0.setRow w.heap.size (Led.accA Led.Kt.zero) = W1 ∧ Blk W1 w.heap.size (Led.accA Led.Kt.zero) 28 ∧ Below w.heap.size w W1 := ⟨_, rfl, X0.setRow _, below_setRow B0 _ _ (Nat.le_refl _)⟩
  go_enter Tryz.func5, Tryz.ntmps5
  go_wp2_with fail
  refine hma.mono ?_
  rintro e w1 ⟨rfl, rfl⟩
  go_wp2_with ((with_reducible refine st_row (ty := 28) (cs' := Led.accA Led.Kt.zero) X0 (Led.accA_info _) (Led.accA_same _ _) (Led.accA_one _) hW1 ?_ ?_ ?_); rfl; rfl)
  try simp only [Exit.inBlock, Exit.then]
  have s0 : W1.cell? ⟨w.heap.size, 0, none⟩ = some (.int .i64 0) := X1.cell rfl
  have s1 : W1.cell? ⟨w.heap.size, 1, none⟩ = some (.int .i64 0) := X1.cell rfl
  have s2 : W1.cell? ⟨w.heap.size, 2, none⟩ = some (.int .i64 0) := X1.cell rfl
  have s3 : W1.cell? ⟨w.heap.size, 3, none⟩ = some (.int .i64 0) := X1.cell rfl
  have s4 : W1.cell? ⟨w.heap.size, 4, none⟩ = some (.int .i64 0) := X1.cell rfl
  have s5 : W1.cell? ⟨w.heap.size, 5, none⟩ = some (.int .i64 0) := X1.cell rfl
  have s6 : W1.cell? ⟨w.heap.size, 6, none⟩ = some (.int .i64 0) := X1.cell rfl
  have s7 : W1.cell? ⟨w.heap.size, 7, none⟩ = some (.int .i64 0) := X1.cell rfl
  have s8 : W1.cell? ⟨w.heap.size, 8, none⟩ = some (.int .i64 0) := X1.cell rfl
  have s9 : W1.cell? ⟨w.heap.size, 9, none⟩ = some (.int .i64 0) := X1.cell rfl
  refine bodyPost_ret (by simp [results, Tryz.results5, go_sem, s0, s1, s2, s3, s4, s5, s6, s7, s8, s9]; rfl) rfl ?_
  exact ⟨rfl, B1⟩
set_option maxRecDepth 100000 in
set_option maxHeartbeats 1000000 in
theorem totals_hn (w : World) : Calls Tryz.prog 8 #[.pointer none] w fun e w' => e = .returned (.tuple #[.int .i64 0, .agg #[.int .i64 0, .int .i64 0, .int .i64 0, .int .i64 0]]) ∧ Below w.heap.size w w' := by
  obtain ⟨W0, hW0, X0, B0, Z0⟩ : ∃ W0, (w.alloc (.cells #[.int .i64 0, .int .i64 0, .int .i64 0, .int .i64 0] 26)) = W0 ∧ Blk W0 w.heap.size (Led.gC fun _ => 0) 26 ∧ Below w.heap.size w W0 ∧ W0.heap.size = w.heap.size + 1 := ⟨_, rfl, blk_new _ _ _ _ rfl, by go_grown, by simp⟩
  have hma := made_hsnil W0
  have r0 : W0.cell? ⟨w.heap.size, 0, none⟩ = some (.int .i64 0) := X0.cell rfl
  have r1 : W0.cell? ⟨w.heap.size, 1, none⟩ = some (.int .i64 0) := X0.cell rfl
  have r2 : W0.cell? ⟨w.heap.size, 2, none⟩ = some (.int .i64 0) := X0.cell rfl
  have r3 : W0.cell? ⟨w.heap.size, 3, none⟩ = some (.int .i64 0) := X0.cell rfl
  have g0 : W0.frozen? ⟨w.heap.size, 0, none⟩ = false := X0.frozen
  have g1 : W0.frozen? ⟨w.heap.size, 1, none⟩ = false := X0.frozen
  have g2 : W0.frozen? ⟨w.heap.size, 2, none⟩ = false := X0.frozen
  have g3 : W0.frozen? ⟨w.heap.size, 3, none⟩ = false := X0.frozen
  obtain ⟨W9, hW9, X9, B9⟩ : ∃ W9, ((((W0.setCell ⟨w.heap.size, 0, none⟩ (.int .i64 0)).setCell ⟨w.heap.size, 1, none⟩ (.int .i64 0)).setCell ⟨w.heap.size, 2, none⟩ (.int .i64 0)).setCell ⟨w.heap.size, 3, none⟩ (.int .i64 0)) = W9 ∧ Blk W9 w.heap.size (Led.gC fun _ => 0) 26 ∧ Below w.heap.size W0 W9 :=
    ⟨_, rfl, (((X0.set 0 _).set 1 _).set 2 _).set 3 _, ((((Below.refl _ _).setCell (p := ⟨w.heap.size, 0, none⟩) (Nat.le_refl _) _).setCell (p := ⟨w.heap.size, 1, none⟩) (Nat.le_refl _) _).setCell (p := ⟨w.heap.size, 2, none⟩) (Nat.le_refl _) _).setCell (p := ⟨w.heap.size, 3, none⟩) (Nat.le_refl _) _⟩
  have s0 : W9.cell? ⟨w.heap.size, 0, none⟩ = some (.int .i64 0) := X9.cell rfl
  have s1 : W9.cell? ⟨w.heap.size, 1, none⟩ = some (.int .i64 0) := X9.cell rfl
  have s2 : W9.cell? ⟨w.heap.size, 2, none⟩ = some (.int .i64 0) := X9.cell rfl
  have s3 : W9.cell? ⟨w.heap.size, 3, none⟩ = some (.int .i64 0) := X9.cell rfl
  go_enter Tryz.func8, Tryz.ntmps8
  go_wp2_with fail
  refine hma.mono ?_
  rintro e w1 ⟨rfl, rfl⟩
  go_wp2
  go_region
  go_wp2
  try simp only [Exit.inBlock, Exit.then]
  refine bodyPost_ret (by simp [results, Tryz.results8, go_sem, s0, s1, s2, s3]; rfl) rfl ?_
  exact ⟨rfl, (B0.trans B9).drew⟩

end Go.Proofs.YtgofjheoebabeaaGreatDoor

namespace Go.Proofs.YtgofjheoebabeaaGreatDoor
open Go.RowKit
set_option linter.unusedSimpArgs false
set_option linter.unusedVariables false

set_option maxRecDepth 100000 in
set_option maxHeartbeats 4000000 in
theorem nobody_hs (who stamp : Int) (op : ByteArray) (w : World) : Calls Tryz.prog 3 #[.int .i64 who, .int .i64 stamp, .string op] w fun e w' => e = .returned (.bool true) ∧ Below w.heap.size w w' := by
  have HA : Hid _ := awake_calls
  have HR : Hid _ := records_hn
  have HMk : Hid _ := market_hn
  have HNo : Hid _ := now_hn
  have HD : Hid _ := fun wx => do_hn wx who stamp op
  have HL : Hid _ := last_hn
  have HAu : Hid _ := auction_hn
  obtain ⟨y0, y1, y2, y3, hy, HT⟩ : ∃ y0 y1 y2 y3 : Int, (0 = y0 ∧ 0 = y1 ∧ 0 = y2 ∧ 0 = y3) ∧ ∀ wx, Calls Tryz.prog 8 #[.pointer none] wx fun e w' => e = .returned (.tuple #[.int .i64 0, .agg #[.int .i64 y0, .int .i64 y1, .int .i64 y2, .int .i64 y3]]) ∧ Below wx.heap.size wx w' := ⟨0, 0, 0, 0, ⟨rfl, rfl, rfl, rfl⟩, totals_hn⟩
  obtain ⟨kz, HAc⟩ : ∃ kz : Led.Kt, ∀ wx z, Calls Tryz.prog 5 #[.pointer none, .int .i64 z] wx fun e w' => e = .returned (.tuple #[Led.accV kz, .bool false]) ∧ Below wx.heap.size wx w' := ⟨Led.Kt.zero, fun wx z => account_hn wx z⟩
  have HAc' : Hid _ := HAc
  have HT' : Hid _ := HT
  have HY : Hid _ := hy
  clear HAc HT hy
  unfold Led.accV Led.accA at HAc'
  go_enter Tryz.func3, Tryz.ntmps3
  go_wp2_with fail
  refine (HD.out _).mono ?_
  rintro e w1 ⟨rfl, hw⟩
  subst w1
  go_wp2_with fail
  refine (HAc'.out _ _).mono ?_
  rintro e w2 ⟨rfl, b2⟩
  obtain ⟨W3, hW3, B3⟩ : ∃ W3, (w2.alloc (.cells #[.int .i64 (kz.n 0), .int .i64 (kz.n 1), .int .i64 (kz.n 2), .int .i64 (kz.n 3), .int .i64 (kz.n 4), .int .i64 (kz.n 5), .int .i64 (kz.n 6), .int .i64 (kz.n 7), .int .i64 (kz.n 8), .int .i64 (kz.n 9)] 28)) = W3 ∧ Below w2.heap.size w2 W3 := ⟨_, rfl, by go_grown⟩
  have z2 := b2.size
  have HB3 : Hid (Below w.heap.size w W3) := b2.trans (B3.mono z2)
  clear b2 B3
  go_wp2_with fail
  refine (HL.out _ _).mono ?_
  rintro e w4 ⟨rfl, hw⟩
  subst w4
  go_wp2_with fail
  refine (HAu.out _ _).mono ?_
  rintro e w5 ⟨rfl, hw⟩
  subst w5
  go_wp2_with fail
  refine (HT'.out _).mono ?_
  rintro e w6 ⟨rfl, b6⟩
  obtain ⟨W7, hW7, X7, B7⟩ : ∃ W7, (w6.alloc (.cells #[.int .i64 y0, .int .i64 y1, .int .i64 y2, .int .i64 y3] 26)) = W7 ∧ Blk W7 w6.heap.size #[.int .i64 y0, .int .i64 y1, .int .i64 y2, .int .i64 y3] 26 ∧ Below w6.heap.size w6 W7 := ⟨_, rfl, blk_new _ _ _ _ rfl, by go_grown⟩
  have z3 := HB3.out.size
  have z6 := b6.size
  have HB7 : Hid (Below w.heap.size w W7) := (HB3.out.trans (b6.mono z3)).trans (B7.mono (by omega))
  have g0 : W7.cell? ⟨w6.heap.size, 0, none⟩ = some (.int .i64 0) := by rw [HY.out.1]; exact X7.cell rfl
  have g1 : W7.cell? ⟨w6.heap.size, 1, none⟩ = some (.int .i64 0) := by rw [HY.out.2.1]; exact X7.cell rfl
  have g2 : W7.cell? ⟨w6.heap.size, 2, none⟩ = some (.int .i64 0) := by rw [HY.out.2.2.1]; exact X7.cell rfl
  have g3 : W7.cell? ⟨w6.heap.size, 3, none⟩ = some (.int .i64 0) := by rw [HY.out.2.2.2]; exact X7.cell rfl
  clear X7 B7 b6
  go_wp2_with fail
  refine (HNo.out _).mono ?_
  rintro e w8 ⟨rfl, hw⟩
  subst w8
  go_wp2_with fail
  refine (HMk.out _ _).mono ?_
  rintro e w9 ⟨rfl, hw⟩
  subst w9
  go_wp2_with fail
  refine (HR.out _).mono ?_
  rintro e w10 ⟨rfl, hw⟩
  subst w10
  go_wp2_with fail
  refine (HA.out _).mono ?_
  rintro e w11 ⟨rfl, b11⟩
  go_wp2
  go_ret
  exact ⟨rfl, HB7.out.trans (b11.mono HB7.out.size)⟩
end Go.Proofs.YtgofjheoebabeaaGreatDoor

namespace Go.Proofs.YtgofjheoebabeaaGreatDoor
open Go.ChangeShapes Go.WideShapes Go.ChangeAt Go.RowKit

def laidK : List (String × DataW Unit) := [("math/bits.deBruijn32tab", Rows.laid_math_bits_deBruijn32tab), ("math/bits.deBruijn64tab", Rows.laid_math_bits_deBruijn64tab), ("internal/strconv.uint64pow10", Rows.laid_internal_strconv_uint64pow10)]
theorem laid_own : ownKnob Tryz.prog.godebug = none := by kernel_rfl
/-- A world that meets the condition. -/
theorem laid_met (os : Os) (args : Array Value) : laidMetH Tryz.prog laidK ((World.laidAll Tryz.prog os laidK).forCall (fun _ _ => 0) ⟨#[], args, []⟩).memory := by
  rw [MakeChecks.laidMetH_plain _ _ _ (by kernel_rfl)]
  exact laidMet_laidAll _ (by kernel_rfl) (by kernel_rfl)
end Go.Proofs.YtgofjheoebabeaaGreatDoor
