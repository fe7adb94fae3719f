/- A ledger that there is not: nothing, and nothing taken. -/
import Derived.Test.YtpbnimjcojeklaaDoorLgQ
import Derived.Test.YtpbnimjcojeklaaDoorLgE
namespace Go.Proofs.YtpbnimjcojeklaaDoor
open Go.RowKit
set_option linter.unusedSimpArgs false
set_option linter.unusedVariables false

theorem made_nil (w : World) : Calls Tryd.prog 16 #[.pointer none] w fun e w' => e = .returned (.bool false) ∧ w' = w := by
  go_enter Tryd.func16, Tryd.ntmps16
  go_wp2
  go_ret
  exact ⟨rfl, rfl⟩
theorem refuse_nil (w : World) (n : Int) (v : Value) : Calls Tryd.prog 38 #[.pointer none, .int .i64 n, v] w fun e w' => e = .returned (.int .i64 1) ∧ w' = w := by
  have hm := made_nil w
  go_enter Tryd.func38, Tryd.ntmps38
  go_wp2_with fail
  refine hm.mono ?_
  rintro e w1 ⟨rfl, rfl⟩
  go_wp2
  go_ret
  exact ⟨rfl, rfl⟩
theorem refuseGood_nil (w : World) (good n : Int) (v : Value) : Calls Tryd.prog 39 #[.pointer none, .int .i64 good, .int .i64 n, v] w fun e w' => e = .returned (.int .i64 1) ∧ w' = w := by
  have hm := refuse_nil w n v
  go_enter Tryd.func39, Tryd.ntmps39
  go_wp2_with fail
  refine hm.mono ?_
  rintro e w1 ⟨rfl, rfl⟩
  go_wp2
  go_ret
  exact ⟨rfl, rfl⟩
theorem pay_nil (w : World) (who n : Int) : Calls Tryd.prog 20 #[.pointer none, .int .i64 who, .int .i64 n] w fun e w' => e = .returned (.int .i64 1) ∧ Below w.heap.size w w' := by
  obtain ⟨W1, hW1, X1, B1, Z1⟩ := nms_one w who
  have hR := refuse_nil W1 n (.slice (some ⟨w.heap.size, 0, none⟩) 1 1)
  go_enter Tryd.func20, Tryd.ntmps20
  go_wp2_with fail
  refine hR.mono ?_
  rintro e w1 ⟨rfl, rfl⟩
  go_wp2
  go_ret
  exact ⟨rfl, B1⟩
theorem take_nil (w : World) (who n : Int) : Calls Tryd.prog 21 #[.pointer none, .int .i64 who, .int .i64 n] w fun e w' => e = .returned (.int .i64 1) ∧ Below w.heap.size w w' := by
  obtain ⟨W1, hW1, X1, B1, Z1⟩ := nms_one w who
  have hR := refuse_nil W1 n (.slice (some ⟨w.heap.size, 0, none⟩) 1 1)
  go_enter Tryd.func21, Tryd.ntmps21
  go_wp2_with fail
  refine hR.mono ?_
  rintro e w1 ⟨rfl, rfl⟩
  go_wp2
  go_ret
  exact ⟨rfl, B1⟩
theorem store_nil (w : World) (who good n : Int) : Calls Tryd.prog 22 #[.pointer none, .int .i64 who, .int .i64 good, .int .i64 n] w fun e w' => e = .returned (.int .i64 1) ∧ Below w.heap.size w w' := by
  obtain ⟨W1, hW1, X1, B1, Z1⟩ := nms_one w who
  have hR := refuseGood_nil W1 good n (.slice (some ⟨w.heap.size, 0, none⟩) 1 1)
  go_enter Tryd.func22, Tryd.ntmps22
  go_wp2_with fail
  refine hR.mono ?_
  rintro e w1 ⟨rfl, rfl⟩
  go_wp2
  go_ret
  exact ⟨rfl, B1⟩
theorem fetch_nil (w : World) (who good n : Int) : Calls Tryd.prog 23 #[.pointer none, .int .i64 who, .int .i64 good, .int .i64 n] w fun e w' => e = .returned (.int .i64 1) ∧ Below w.heap.size w w' := by
  obtain ⟨W1, hW1, X1, B1, Z1⟩ := nms_one w who
  have hR := refuseGood_nil W1 good n (.slice (some ⟨w.heap.size, 0, none⟩) 1 1)
  go_enter Tryd.func23, Tryd.ntmps23
  go_wp2_with fail
  refine hR.mono ?_
  rintro e w1 ⟨rfl, rfl⟩
  go_wp2
  go_ret
  exact ⟨rfl, B1⟩
theorem hold_nil (w : World) (who n : Int) : Calls Tryd.prog 24 #[.pointer none, .int .i64 who, .int .i64 n] w fun e w' => e = .returned (.int .i64 1) ∧ Below w.heap.size w w' := by
  obtain ⟨W1, hW1, X1, B1, Z1⟩ := nms_one w who
  have hR := refuse_nil W1 n (.slice (some ⟨w.heap.size, 0, none⟩) 1 1)
  go_enter Tryd.func24, Tryd.ntmps24
  go_wp2_with fail
  refine hR.mono ?_
  rintro e w1 ⟨rfl, rfl⟩
  go_wp2
  go_ret
  exact ⟨rfl, B1⟩
theorem free_nil (w : World) (who n : Int) : Calls Tryd.prog 25 #[.pointer none, .int .i64 who, .int .i64 n] w fun e w' => e = .returned (.int .i64 1) ∧ Below w.heap.size w w' := by
  obtain ⟨W1, hW1, X1, B1, Z1⟩ := nms_one w who
  have hR := refuse_nil W1 n (.slice (some ⟨w.heap.size, 0, none⟩) 1 1)
  go_enter Tryd.func25, Tryd.ntmps25
  go_wp2_with fail
  refine hR.mono ?_
  rintro e w1 ⟨rfl, rfl⟩
  go_wp2
  go_ret
  exact ⟨rfl, B1⟩
theorem lock_nil (w : World) (who good n : Int) : Calls Tryd.prog 26 #[.pointer none, .int .i64 who, .int .i64 good, .int .i64 n] w fun e w' => e = .returned (.int .i64 1) ∧ Below w.heap.size w w' := by
  obtain ⟨W1, hW1, X1, B1, Z1⟩ := nms_one w who
  have hR := refuseGood_nil W1 good n (.slice (some ⟨w.heap.size, 0, none⟩) 1 1)
  go_enter Tryd.func26, Tryd.ntmps26
  go_wp2_with fail
  refine hR.mono ?_
  rintro e w1 ⟨rfl, rfl⟩
  go_wp2
  go_ret
  exact ⟨rfl, B1⟩
theorem unlock_nil (w : World) (who good n : Int) : Calls Tryd.prog 27 #[.pointer none, .int .i64 who, .int .i64 good, .int .i64 n] w fun e w' => e = .returned (.int .i64 1) ∧ Below w.heap.size w w' := by
  obtain ⟨W1, hW1, X1, B1, Z1⟩ := nms_one w who
  have hR := refuseGood_nil W1 good n (.slice (some ⟨w.heap.size, 0, none⟩) 1 1)
  go_enter Tryd.func27, Tryd.ntmps27
  go_wp2_with fail
  refine hR.mono ?_
  rintro e w1 ⟨rfl, rfl⟩
  go_wp2
  go_ret
  exact ⟨rfl, B1⟩
theorem move_nil (w : World) (frm dst n : Int) : Calls Tryd.prog 28 #[.pointer none, .int .i64 frm, .int .i64 dst, .int .i64 n] w fun e w' => e = .returned (.int .i64 1) ∧ Below w.heap.size w w' := by
  obtain ⟨W1, hW1, X1, B1, Z1⟩ := nms_two w frm dst
  have hR := refuse_nil W1 n (.slice (some ⟨w.heap.size, 0, none⟩) 2 2)
  go_enter Tryd.func28, Tryd.ntmps28
  go_wp2_with fail
  refine hR.mono ?_
  rintro e w1 ⟨rfl, rfl⟩
  go_wp2
  go_ret
  exact ⟨rfl, B1⟩
theorem hand_nil (w : World) (frm dst good n : Int) : Calls Tryd.prog 29 #[.pointer none, .int .i64 frm, .int .i64 dst, .int .i64 good, .int .i64 n] w fun e w' => e = .returned (.int .i64 1) ∧ Below w.heap.size w w' := by
  obtain ⟨W1, hW1, X1, B1, Z1⟩ := nms_two w frm dst
  have hR := refuseGood_nil W1 good n (.slice (some ⟨w.heap.size, 0, none⟩) 2 2)
  go_enter Tryd.func29, Tryd.ntmps29
  go_wp2_with fail
  refine hR.mono ?_
  rintro e w1 ⟨rfl, rfl⟩
  go_wp2
  go_ret
  exact ⟨rfl, B1⟩
theorem mark_nil (w : World) (who n : Int) (t : ByteArray) : Calls Tryd.prog 30 #[.pointer none, .int .i64 who, .int .i64 n, .string t] w fun e w' => e = .returned (.int .i64 1) ∧ Below w.heap.size w w' := by
  have hm := made_nil w
  go_enter Tryd.func30, Tryd.ntmps30
  go_wp2_with fail
  refine hm.mono ?_
  rintro e w1 ⟨rfl, rfl⟩
  go_wp2
  go_ret
  exact ⟨rfl, Below.refl _ _⟩
theorem last_nil (w : World) (who : Int) : Calls Tryd.prog 13 #[.pointer none, .int .i64 who] w fun e w' => e = .returned (.tuple #[.int .i64 0, .string ⟨#[]⟩]) ∧ w' = w := by
  have hm := made_nil w
  go_enter Tryd.func13, Tryd.ntmps13
  go_wp2_with fail
  refine hm.mono ?_
  rintro e w1 ⟨rfl, rfl⟩
  go_wp2
  go_ret2
  exact ⟨rfl, rfl⟩
theorem records_nil (w : World) : Calls Tryd.prog 8 #[.pointer none] w fun e w' => e = .returned (.slice none 0 0) ∧ w' = w := by
  have hm := made_nil w
  go_enter Tryd.func8, Tryd.ntmps8
  go_wp2_with fail
  refine hm.mono ?_
  rintro e w1 ⟨rfl, rfl⟩
  go_wp2
  go_ret
  exact ⟨rfl, rfl⟩
set_option maxRecDepth 100000 in
set_option maxHeartbeats 1000000 in
theorem account_nil (w : World) (z : Int) : Calls Tryd.prog 14 #[.pointer none, .int .i64 z] w fun e w' => e = .returned (.tuple #[accV Kt.zero, .bool false]) ∧ Below w.heap.size w w' := by
  obtain ⟨W0, hW0, X0, B0, Z0⟩ : ∃ W0, (w.alloc (.cells #[.int .i64 0, .int .i64 0, .int .i64 0, .int .i64 0, .int .i64 0, .int .i64 0, .int .i64 0, .int .i64 0, .int .i64 0, .int .i64 0] 43)) = W0 ∧ Blk W0 w.heap.size (accA Kt.zero) 43 ∧ Below w.heap.size w W0 ∧ W0.heap.size = w.heap.size + 1 := ⟨_, rfl, blk_new _ _ _ _ rfl, by go_grown, by simp⟩
  have hma := made_nil W0
  obtain ⟨W1, hW1, X1, B1⟩ : ∃ W1, W0.setRow w.heap.size (accA Kt.zero) = W1 ∧ Blk W1 w.heap.size (accA Kt.zero) 43 ∧ Below w.heap.size w W1 := ⟨_, rfl, X0.setRow _, below_setRow B0 _ _ (Nat.le_refl _)⟩
  go_enter Tryd.func14, Tryd.ntmps14
  go_wp2_with fail
  refine hma.mono ?_
  rintro e w1 ⟨rfl, rfl⟩
  go_wp2_with ((with_reducible refine st_row (ty := 43) (cs' := accA Kt.zero) X0 (accA_info _) (accA_same _ _) (accA_one _) hW1 ?_ ?_ ?_); rfl; rfl)
  try simp only [Exit.inBlock, Exit.then]
  have s0 : W1.cell? ⟨w.heap.size, 0, none⟩ = some (.int .i64 0) := X1.cell rfl
  have s1 : W1.cell? ⟨w.heap.size, 1, none⟩ = some (.int .i64 0) := X1.cell rfl
  have s2 : W1.cell? ⟨w.heap.size, 2, none⟩ = some (.int .i64 0) := X1.cell rfl
  have s3 : W1.cell? ⟨w.heap.size, 3, none⟩ = some (.int .i64 0) := X1.cell rfl
  have s4 : W1.cell? ⟨w.heap.size, 4, none⟩ = some (.int .i64 0) := X1.cell rfl
  have s5 : W1.cell? ⟨w.heap.size, 5, none⟩ = some (.int .i64 0) := X1.cell rfl
  have s6 : W1.cell? ⟨w.heap.size, 6, none⟩ = some (.int .i64 0) := X1.cell rfl
  have s7 : W1.cell? ⟨w.heap.size, 7, none⟩ = some (.int .i64 0) := X1.cell rfl
  have s8 : W1.cell? ⟨w.heap.size, 8, none⟩ = some (.int .i64 0) := X1.cell rfl
  have s9 : W1.cell? ⟨w.heap.size, 9, none⟩ = some (.int .i64 0) := X1.cell rfl
  refine bodyPost_ret (by simp [results, Tryd.results14, go_sem, s0, s1, s2, s3, s4, s5, s6, s7, s8, s9]; rfl) rfl ?_
  exact ⟨rfl, B1⟩
set_option maxRecDepth 100000 in
set_option maxHeartbeats 1000000 in
theorem totals_nil (w : World) : Calls Tryd.prog 12 #[.pointer none] w fun e w' => e = .returned (.tuple #[.int .i64 0, .agg #[.int .i64 0, .int .i64 0, .int .i64 0, .int .i64 0]]) ∧ Below w.heap.size w w' := by
  obtain ⟨W0, hW0, X0, B0, Z0⟩ : ∃ W0, (w.alloc (.cells #[.int .i64 0, .int .i64 0, .int .i64 0, .int .i64 0] 37)) = W0 ∧ Blk W0 w.heap.size (gC fun _ => 0) 37 ∧ Below w.heap.size w W0 ∧ W0.heap.size = w.heap.size + 1 := ⟨_, rfl, blk_new _ _ _ _ rfl, by go_grown, by simp⟩
  have hma := made_nil W0
  have r0 : W0.cell? ⟨w.heap.size, 0, none⟩ = some (.int .i64 0) := X0.cell rfl
  have r1 : W0.cell? ⟨w.heap.size, 1, none⟩ = some (.int .i64 0) := X0.cell rfl
  have r2 : W0.cell? ⟨w.heap.size, 2, none⟩ = some (.int .i64 0) := X0.cell rfl
  have r3 : W0.cell? ⟨w.heap.size, 3, none⟩ = some (.int .i64 0) := X0.cell rfl
  have g0 : W0.frozen? ⟨w.heap.size, 0, none⟩ = false := X0.frozen
  have g1 : W0.frozen? ⟨w.heap.size, 1, none⟩ = false := X0.frozen
  have g2 : W0.frozen? ⟨w.heap.size, 2, none⟩ = false := X0.frozen
  have g3 : W0.frozen? ⟨w.heap.size, 3, none⟩ = false := X0.frozen
  obtain ⟨W9, hW9, X9, B9⟩ : ∃ W9, ((((W0.setCell ⟨w.heap.size, 0, none⟩ (.int .i64 0)).setCell ⟨w.heap.size, 1, none⟩ (.int .i64 0)).setCell ⟨w.heap.size, 2, none⟩ (.int .i64 0)).setCell ⟨w.heap.size, 3, none⟩ (.int .i64 0)) = W9 ∧ Blk W9 w.heap.size (gC fun _ => 0) 37 ∧ Below w.heap.size W0 W9 :=
    ⟨_, rfl, (((X0.set 0 _).set 1 _).set 2 _).set 3 _, ((((Below.refl _ _).setCell (p := ⟨w.heap.size, 0, none⟩) (Nat.le_refl _) _).setCell (p := ⟨w.heap.size, 1, none⟩) (Nat.le_refl _) _).setCell (p := ⟨w.heap.size, 2, none⟩) (Nat.le_refl _) _).setCell (p := ⟨w.heap.size, 3, none⟩) (Nat.le_refl _) _⟩
  have s0 : W9.cell? ⟨w.heap.size, 0, none⟩ = some (.int .i64 0) := X9.cell rfl
  have s1 : W9.cell? ⟨w.heap.size, 1, none⟩ = some (.int .i64 0) := X9.cell rfl
  have s2 : W9.cell? ⟨w.heap.size, 2, none⟩ = some (.int .i64 0) := X9.cell rfl
  have s3 : W9.cell? ⟨w.heap.size, 3, none⟩ = some (.int .i64 0) := X9.cell rfl
  go_enter Tryd.func12, Tryd.ntmps12
  go_wp2_with fail
  refine hma.mono ?_
  rintro e w1 ⟨rfl, rfl⟩
  go_wp2
  go_region
  go_wp2
  try simp only [Exit.inBlock, Exit.then]
  refine bodyPost_ret (by simp [results, Tryd.results12, go_sem, s0, s1, s2, s3]; rfl) rfl ?_
  exact ⟨rfl, (B0.trans B9).drew⟩

set_option maxRecDepth 100000 in
theorem done_nil0 (w : World) (a : Ac) (hk : rest a.kind 11 = 0) :
    Calls Tryd.prog 9 #[.pointer none, a.val] w fun e w' => e = .returned (.int .i64 1) ∧ Below w.heap.size w w' := by
  obtain ⟨W1, hW1, X1, B1⟩ : ∃ W1, (w.alloc (.cells #[.int .i64 a.kind, .int .i64 a.who, .int .i64 a.dst, .int .i64 a.good, .int .i64 a.n, .string a.text] 24)) = W1 ∧ Blk W1 w.heap.size #[.int .i64 a.kind, .int .i64 a.who, .int .i64 a.dst, .int .i64 a.good, .int .i64 a.n, .string a.text] 24 ∧ Below w.heap.size w W1 := ⟨_, rfl, blk_new _ _ _ _ rfl, by go_grown⟩
  have har := around_calls a.kind 11 W1 (by omega) (by omega)
  rw [show ((rest a.kind (11 : Int).toNat : Nat) : Int) = 0 by rw [show (11 : Int).toNat = 11 from rfl, hk]; rfl] at har
  have e0 : W1.cell? ⟨w.heap.size, 0, none⟩ = some (.int .i64 a.kind) := X1.cell rfl
  have e1 : W1.cell? ⟨w.heap.size, 1, none⟩ = some (.int .i64 a.who) := X1.cell rfl
  have e2 : W1.cell? ⟨w.heap.size, 2, none⟩ = some (.int .i64 a.dst) := X1.cell rfl
  have e3 : W1.cell? ⟨w.heap.size, 3, none⟩ = some (.int .i64 a.good) := X1.cell rfl
  have e4 : W1.cell? ⟨w.heap.size, 4, none⟩ = some (.int .i64 a.n) := X1.cell rfl
  have e5 : W1.cell? ⟨w.heap.size, 5, none⟩ = some (.string a.text) := X1.cell rfl
  have hc := pay_nil W1 a.who a.n
  clear hk
  unfold Ac.val
  go_enter Tryd.func9, Tryd.ntmps9
  go_wp2_with fail
  refine har.mono ?_
  rintro e w1 ⟨rfl, rfl⟩
  go_wp2_with fail
  refine hc.mono ?_
  rintro e w2 ⟨rfl, B2⟩
  go_wp2
  go_ret
  exact ⟨rfl, B1.trans (B2.mono B1.size)⟩

set_option maxRecDepth 100000 in
theorem done_nil1 (w : World) (a : Ac) (hk : rest a.kind 11 = 1) :
    Calls Tryd.prog 9 #[.pointer none, a.val] w fun e w' => e = .returned (.int .i64 1) ∧ Below w.heap.size w w' := by
  obtain ⟨W1, hW1, X1, B1⟩ : ∃ W1, (w.alloc (.cells #[.int .i64 a.kind, .int .i64 a.who, .int .i64 a.dst, .int .i64 a.good, .int .i64 a.n, .string a.text] 24)) = W1 ∧ Blk W1 w.heap.size #[.int .i64 a.kind, .int .i64 a.who, .int .i64 a.dst, .int .i64 a.good, .int .i64 a.n, .string a.text] 24 ∧ Below w.heap.size w W1 := ⟨_, rfl, blk_new _ _ _ _ rfl, by go_grown⟩
  have har := around_calls a.kind 11 W1 (by omega) (by omega)
  rw [show ((rest a.kind (11 : Int).toNat : Nat) : Int) = 1 by rw [show (11 : Int).toNat = 11 from rfl, hk]; rfl] at har
  have e0 : W1.cell? ⟨w.heap.size, 0, none⟩ = some (.int .i64 a.kind) := X1.cell rfl
  have e1 : W1.cell? ⟨w.heap.size, 1, none⟩ = some (.int .i64 a.who) := X1.cell rfl
  have e2 : W1.cell? ⟨w.heap.size, 2, none⟩ = some (.int .i64 a.dst) := X1.cell rfl
  have e3 : W1.cell? ⟨w.heap.size, 3, none⟩ = some (.int .i64 a.good) := X1.cell rfl
  have e4 : W1.cell? ⟨w.heap.size, 4, none⟩ = some (.int .i64 a.n) := X1.cell rfl
  have e5 : W1.cell? ⟨w.heap.size, 5, none⟩ = some (.string a.text) := X1.cell rfl
  have hc := take_nil W1 a.who a.n
  clear hk
  unfold Ac.val
  go_enter Tryd.func9, Tryd.ntmps9
  go_wp2_with fail
  refine har.mono ?_
  rintro e w1 ⟨rfl, rfl⟩
  go_wp2_with fail
  refine hc.mono ?_
  rintro e w2 ⟨rfl, B2⟩
  go_wp2
  go_ret
  exact ⟨rfl, B1.trans (B2.mono B1.size)⟩

set_option maxRecDepth 100000 in
theorem done_nil2 (w : World) (a : Ac) (hk : rest a.kind 11 = 2) :
    Calls Tryd.prog 9 #[.pointer none, a.val] w fun e w' => e = .returned (.int .i64 1) ∧ Below w.heap.size w w' := by
  obtain ⟨W1, hW1, X1, B1⟩ : ∃ W1, (w.alloc (.cells #[.int .i64 a.kind, .int .i64 a.who, .int .i64 a.dst, .int .i64 a.good, .int .i64 a.n, .string a.text] 24)) = W1 ∧ Blk W1 w.heap.size #[.int .i64 a.kind, .int .i64 a.who, .int .i64 a.dst, .int .i64 a.good, .int .i64 a.n, .string a.text] 24 ∧ Below w.heap.size w W1 := ⟨_, rfl, blk_new _ _ _ _ rfl, by go_grown⟩
  have har := around_calls a.kind 11 W1 (by omega) (by omega)
  rw [show ((rest a.kind (11 : Int).toNat : Nat) : Int) = 2 by rw [show (11 : Int).toNat = 11 from rfl, hk]; rfl] at har
  have e0 : W1.cell? ⟨w.heap.size, 0, none⟩ = some (.int .i64 a.kind) := X1.cell rfl
  have e1 : W1.cell? ⟨w.heap.size, 1, none⟩ = some (.int .i64 a.who) := X1.cell rfl
  have e2 : W1.cell? ⟨w.heap.size, 2, none⟩ = some (.int .i64 a.dst) := X1.cell rfl
  have e3 : W1.cell? ⟨w.heap.size, 3, none⟩ = some (.int .i64 a.good) := X1.cell rfl
  have e4 : W1.cell? ⟨w.heap.size, 4, none⟩ = some (.int .i64 a.n) := X1.cell rfl
  have e5 : W1.cell? ⟨w.heap.size, 5, none⟩ = some (.string a.text) := X1.cell rfl
  have hc := store_nil W1 a.who a.good a.n
  clear hk
  unfold Ac.val
  go_enter Tryd.func9, Tryd.ntmps9
  go_wp2_with fail
  refine har.mono ?_
  rintro e w1 ⟨rfl, rfl⟩
  go_wp2_with fail
  refine hc.mono ?_
  rintro e w2 ⟨rfl, B2⟩
  go_wp2
  go_ret
  exact ⟨rfl, B1.trans (B2.mono B1.size)⟩

set_option maxRecDepth 100000 in
theorem done_nil3 (w : World) (a : Ac) (hk : rest a.kind 11 = 3) :
    Calls Tryd.prog 9 #[.pointer none, a.val] w fun e w' => e = .returned (.int .i64 1) ∧ Below w.heap.size w w' := by
  obtain ⟨W1, hW1, X1, B1⟩ : ∃ W1, (w.alloc (.cells #[.int .i64 a.kind, .int .i64 a.who, .int .i64 a.dst, .int .i64 a.good, .int .i64 a.n, .string a.text] 24)) = W1 ∧ Blk W1 w.heap.size #[.int .i64 a.kind, .int .i64 a.who, .int .i64 a.dst, .int .i64 a.good, .int .i64 a.n, .string a.text] 24 ∧ Below w.heap.size w W1 := ⟨_, rfl, blk_new _ _ _ _ rfl, by go_grown⟩
  have har := around_calls a.kind 11 W1 (by omega) (by omega)
  rw [show ((rest a.kind (11 : Int).toNat : Nat) : Int) = 3 by rw [show (11 : Int).toNat = 11 from rfl, hk]; rfl] at har
  have e0 : W1.cell? ⟨w.heap.size, 0, none⟩ = some (.int .i64 a.kind) := X1.cell rfl
  have e1 : W1.cell? ⟨w.heap.size, 1, none⟩ = some (.int .i64 a.who) := X1.cell rfl
  have e2 : W1.cell? ⟨w.heap.size, 2, none⟩ = some (.int .i64 a.dst) := X1.cell rfl
  have e3 : W1.cell? ⟨w.heap.size, 3, none⟩ = some (.int .i64 a.good) := X1.cell rfl
  have e4 : W1.cell? ⟨w.heap.size, 4, none⟩ = some (.int .i64 a.n) := X1.cell rfl
  have e5 : W1.cell? ⟨w.heap.size, 5, none⟩ = some (.string a.text) := X1.cell rfl
  have hc := fetch_nil W1 a.who a.good a.n
  clear hk
  unfold Ac.val
  go_enter Tryd.func9, Tryd.ntmps9
  go_wp2_with fail
  refine har.mono ?_
  rintro e w1 ⟨rfl, rfl⟩
  go_wp2_with fail
  refine hc.mono ?_
  rintro e w2 ⟨rfl, B2⟩
  go_wp2
  go_ret
  exact ⟨rfl, B1.trans (B2.mono B1.size)⟩

set_option maxRecDepth 100000 in
theorem done_nil4 (w : World) (a : Ac) (hk : rest a.kind 11 = 4) :
    Calls Tryd.prog 9 #[.pointer none, a.val] w fun e w' => e = .returned (.int .i64 1) ∧ Below w.heap.size w w' := by
  obtain ⟨W1, hW1, X1, B1⟩ : ∃ W1, (w.alloc (.cells #[.int .i64 a.kind, .int .i64 a.who, .int .i64 a.dst, .int .i64 a.good, .int .i64 a.n, .string a.text] 24)) = W1 ∧ Blk W1 w.heap.size #[.int .i64 a.kind, .int .i64 a.who, .int .i64 a.dst, .int .i64 a.good, .int .i64 a.n, .string a.text] 24 ∧ Below w.heap.size w W1 := ⟨_, rfl, blk_new _ _ _ _ rfl, by go_grown⟩
  have har := around_calls a.kind 11 W1 (by omega) (by omega)
  rw [show ((rest a.kind (11 : Int).toNat : Nat) : Int) = 4 by rw [show (11 : Int).toNat = 11 from rfl, hk]; rfl] at har
  have e0 : W1.cell? ⟨w.heap.size, 0, none⟩ = some (.int .i64 a.kind) := X1.cell rfl
  have e1 : W1.cell? ⟨w.heap.size, 1, none⟩ = some (.int .i64 a.who) := X1.cell rfl
  have e2 : W1.cell? ⟨w.heap.size, 2, none⟩ = some (.int .i64 a.dst) := X1.cell rfl
  have e3 : W1.cell? ⟨w.heap.size, 3, none⟩ = some (.int .i64 a.good) := X1.cell rfl
  have e4 : W1.cell? ⟨w.heap.size, 4, none⟩ = some (.int .i64 a.n) := X1.cell rfl
  have e5 : W1.cell? ⟨w.heap.size, 5, none⟩ = some (.string a.text) := X1.cell rfl
  have hc := hold_nil W1 a.who a.n
  clear hk
  unfold Ac.val
  go_enter Tryd.func9, Tryd.ntmps9
  go_wp2_with fail
  refine har.mono ?_
  rintro e w1 ⟨rfl, rfl⟩
  go_wp2_with fail
  refine hc.mono ?_
  rintro e w2 ⟨rfl, B2⟩
  go_wp2
  go_ret
  exact ⟨rfl, B1.trans (B2.mono B1.size)⟩

set_option maxRecDepth 100000 in
theorem done_nil5 (w : World) (a : Ac) (hk : rest a.kind 11 = 5) :
    Calls Tryd.prog 9 #[.pointer none, a.val] w fun e w' => e = .returned (.int .i64 1) ∧ Below w.heap.size w w' := by
  obtain ⟨W1, hW1, X1, B1⟩ : ∃ W1, (w.alloc (.cells #[.int .i64 a.kind, .int .i64 a.who, .int .i64 a.dst, .int .i64 a.good, .int .i64 a.n, .string a.text] 24)) = W1 ∧ Blk W1 w.heap.size #[.int .i64 a.kind, .int .i64 a.who, .int .i64 a.dst, .int .i64 a.good, .int .i64 a.n, .string a.text] 24 ∧ Below w.heap.size w W1 := ⟨_, rfl, blk_new _ _ _ _ rfl, by go_grown⟩
  have har := around_calls a.kind 11 W1 (by omega) (by omega)
  rw [show ((rest a.kind (11 : Int).toNat : Nat) : Int) = 5 by rw [show (11 : Int).toNat = 11 from rfl, hk]; rfl] at har
  have e0 : W1.cell? ⟨w.heap.size, 0, none⟩ = some (.int .i64 a.kind) := X1.cell rfl
  have e1 : W1.cell? ⟨w.heap.size, 1, none⟩ = some (.int .i64 a.who) := X1.cell rfl
  have e2 : W1.cell? ⟨w.heap.size, 2, none⟩ = some (.int .i64 a.dst) := X1.cell rfl
  have e3 : W1.cell? ⟨w.heap.size, 3, none⟩ = some (.int .i64 a.good) := X1.cell rfl
  have e4 : W1.cell? ⟨w.heap.size, 4, none⟩ = some (.int .i64 a.n) := X1.cell rfl
  have e5 : W1.cell? ⟨w.heap.size, 5, none⟩ = some (.string a.text) := X1.cell rfl
  have hc := free_nil W1 a.who a.n
  clear hk
  unfold Ac.val
  go_enter Tryd.func9, Tryd.ntmps9
  go_wp2_with fail
  refine har.mono ?_
  rintro e w1 ⟨rfl, rfl⟩
  go_wp2_with fail
  refine hc.mono ?_
  rintro e w2 ⟨rfl, B2⟩
  go_wp2
  go_ret
  exact ⟨rfl, B1.trans (B2.mono B1.size)⟩

set_option maxRecDepth 100000 in
theorem done_nil6 (w : World) (a : Ac) (hk : rest a.kind 11 = 6) :
    Calls Tryd.prog 9 #[.pointer none, a.val] w fun e w' => e = .returned (.int .i64 1) ∧ Below w.heap.size w w' := by
  obtain ⟨W1, hW1, X1, B1⟩ : ∃ W1, (w.alloc (.cells #[.int .i64 a.kind, .int .i64 a.who, .int .i64 a.dst, .int .i64 a.good, .int .i64 a.n, .string a.text] 24)) = W1 ∧ Blk W1 w.heap.size #[.int .i64 a.kind, .int .i64 a.who, .int .i64 a.dst, .int .i64 a.good, .int .i64 a.n, .string a.text] 24 ∧ Below w.heap.size w W1 := ⟨_, rfl, blk_new _ _ _ _ rfl, by go_grown⟩
  have har := around_calls a.kind 11 W1 (by omega) (by omega)
  rw [show ((rest a.kind (11 : Int).toNat : Nat) : Int) = 6 by rw [show (11 : Int).toNat = 11 from rfl, hk]; rfl] at har
  have e0 : W1.cell? ⟨w.heap.size, 0, none⟩ = some (.int .i64 a.kind) := X1.cell rfl
  have e1 : W1.cell? ⟨w.heap.size, 1, none⟩ = some (.int .i64 a.who) := X1.cell rfl
  have e2 : W1.cell? ⟨w.heap.size, 2, none⟩ = some (.int .i64 a.dst) := X1.cell rfl
  have e3 : W1.cell? ⟨w.heap.size, 3, none⟩ = some (.int .i64 a.good) := X1.cell rfl
  have e4 : W1.cell? ⟨w.heap.size, 4, none⟩ = some (.int .i64 a.n) := X1.cell rfl
  have e5 : W1.cell? ⟨w.heap.size, 5, none⟩ = some (.string a.text) := X1.cell rfl
  have hc := lock_nil W1 a.who a.good a.n
  clear hk
  unfold Ac.val
  go_enter Tryd.func9, Tryd.ntmps9
  go_wp2_with fail
  refine har.mono ?_
  rintro e w1 ⟨rfl, rfl⟩
  go_wp2_with fail
  refine hc.mono ?_
  rintro e w2 ⟨rfl, B2⟩
  go_wp2
  go_ret
  exact ⟨rfl, B1.trans (B2.mono B1.size)⟩

set_option maxRecDepth 100000 in
theorem done_nil7 (w : World) (a : Ac) (hk : rest a.kind 11 = 7) :
    Calls Tryd.prog 9 #[.pointer none, a.val] w fun e w' => e = .returned (.int .i64 1) ∧ Below w.heap.size w w' := by
  obtain ⟨W1, hW1, X1, B1⟩ : ∃ W1, (w.alloc (.cells #[.int .i64 a.kind, .int .i64 a.who, .int .i64 a.dst, .int .i64 a.good, .int .i64 a.n, .string a.text] 24)) = W1 ∧ Blk W1 w.heap.size #[.int .i64 a.kind, .int .i64 a.who, .int .i64 a.dst, .int .i64 a.good, .int .i64 a.n, .string a.text] 24 ∧ Below w.heap.size w W1 := ⟨_, rfl, blk_new _ _ _ _ rfl, by go_grown⟩
  have har := around_calls a.kind 11 W1 (by omega) (by omega)
  rw [show ((rest a.kind (11 : Int).toNat : Nat) : Int) = 7 by rw [show (11 : Int).toNat = 11 from rfl, hk]; rfl] at har
  have e0 : W1.cell? ⟨w.heap.size, 0, none⟩ = some (.int .i64 a.kind) := X1.cell rfl
  have e1 : W1.cell? ⟨w.heap.size, 1, none⟩ = some (.int .i64 a.who) := X1.cell rfl
  have e2 : W1.cell? ⟨w.heap.size, 2, none⟩ = some (.int .i64 a.dst) := X1.cell rfl
  have e3 : W1.cell? ⟨w.heap.size, 3, none⟩ = some (.int .i64 a.good) := X1.cell rfl
  have e4 : W1.cell? ⟨w.heap.size, 4, none⟩ = some (.int .i64 a.n) := X1.cell rfl
  have e5 : W1.cell? ⟨w.heap.size, 5, none⟩ = some (.string a.text) := X1.cell rfl
  have hc := unlock_nil W1 a.who a.good a.n
  clear hk
  unfold Ac.val
  go_enter Tryd.func9, Tryd.ntmps9
  go_wp2_with fail
  refine har.mono ?_
  rintro e w1 ⟨rfl, rfl⟩
  go_wp2_with fail
  refine hc.mono ?_
  rintro e w2 ⟨rfl, B2⟩
  go_wp2
  go_ret
  exact ⟨rfl, B1.trans (B2.mono B1.size)⟩

set_option maxRecDepth 100000 in
theorem done_nil8 (w : World) (a : Ac) (hk : rest a.kind 11 = 8) :
    Calls Tryd.prog 9 #[.pointer none, a.val] w fun e w' => e = .returned (.int .i64 1) ∧ Below w.heap.size w w' := by
  obtain ⟨W1, hW1, X1, B1⟩ : ∃ W1, (w.alloc (.cells #[.int .i64 a.kind, .int .i64 a.who, .int .i64 a.dst, .int .i64 a.good, .int .i64 a.n, .string a.text] 24)) = W1 ∧ Blk W1 w.heap.size #[.int .i64 a.kind, .int .i64 a.who, .int .i64 a.dst, .int .i64 a.good, .int .i64 a.n, .string a.text] 24 ∧ Below w.heap.size w W1 := ⟨_, rfl, blk_new _ _ _ _ rfl, by go_grown⟩
  have har := around_calls a.kind 11 W1 (by omega) (by omega)
  rw [show ((rest a.kind (11 : Int).toNat : Nat) : Int) = 8 by rw [show (11 : Int).toNat = 11 from rfl, hk]; rfl] at har
  have e0 : W1.cell? ⟨w.heap.size, 0, none⟩ = some (.int .i64 a.kind) := X1.cell rfl
  have e1 : W1.cell? ⟨w.heap.size, 1, none⟩ = some (.int .i64 a.who) := X1.cell rfl
  have e2 : W1.cell? ⟨w.heap.size, 2, none⟩ = some (.int .i64 a.dst) := X1.cell rfl
  have e3 : W1.cell? ⟨w.heap.size, 3, none⟩ = some (.int .i64 a.good) := X1.cell rfl
  have e4 : W1.cell? ⟨w.heap.size, 4, none⟩ = some (.int .i64 a.n) := X1.cell rfl
  have e5 : W1.cell? ⟨w.heap.size, 5, none⟩ = some (.string a.text) := X1.cell rfl
  have hc := move_nil W1 a.who a.dst a.n
  clear hk
  unfold Ac.val
  go_enter Tryd.func9, Tryd.ntmps9
  go_wp2_with fail
  refine har.mono ?_
  rintro e w1 ⟨rfl, rfl⟩
  go_wp2_with fail
  refine hc.mono ?_
  rintro e w2 ⟨rfl, B2⟩
  go_wp2
  go_ret
  exact ⟨rfl, B1.trans (B2.mono B1.size)⟩

set_option maxRecDepth 100000 in
theorem done_nil9 (w : World) (a : Ac) (hk : rest a.kind 11 = 9) :
    Calls Tryd.prog 9 #[.pointer none, a.val] w fun e w' => e = .returned (.int .i64 1) ∧ Below w.heap.size w w' := by
  obtain ⟨W1, hW1, X1, B1⟩ : ∃ W1, (w.alloc (.cells #[.int .i64 a.kind, .int .i64 a.who, .int .i64 a.dst, .int .i64 a.good, .int .i64 a.n, .string a.text] 24)) = W1 ∧ Blk W1 w.heap.size #[.int .i64 a.kind, .int .i64 a.who, .int .i64 a.dst, .int .i64 a.good, .int .i64 a.n, .string a.text] 24 ∧ Below w.heap.size w W1 := ⟨_, rfl, blk_new _ _ _ _ rfl, by go_grown⟩
  have har := around_calls a.kind 11 W1 (by omega) (by omega)
  rw [show ((rest a.kind (11 : Int).toNat : Nat) : Int) = 9 by rw [show (11 : Int).toNat = 11 from rfl, hk]; rfl] at har
  have e0 : W1.cell? ⟨w.heap.size, 0, none⟩ = some (.int .i64 a.kind) := X1.cell rfl
  have e1 : W1.cell? ⟨w.heap.size, 1, none⟩ = some (.int .i64 a.who) := X1.cell rfl
  have e2 : W1.cell? ⟨w.heap.size, 2, none⟩ = some (.int .i64 a.dst) := X1.cell rfl
  have e3 : W1.cell? ⟨w.heap.size, 3, none⟩ = some (.int .i64 a.good) := X1.cell rfl
  have e4 : W1.cell? ⟨w.heap.size, 4, none⟩ = some (.int .i64 a.n) := X1.cell rfl
  have e5 : W1.cell? ⟨w.heap.size, 5, none⟩ = some (.string a.text) := X1.cell rfl
  have hc := hand_nil W1 a.who a.dst a.good a.n
  clear hk
  unfold Ac.val
  go_enter Tryd.func9, Tryd.ntmps9
  go_wp2_with fail
  refine har.mono ?_
  rintro e w1 ⟨rfl, rfl⟩
  go_wp2_with fail
  refine hc.mono ?_
  rintro e w2 ⟨rfl, B2⟩
  go_wp2
  go_ret
  exact ⟨rfl, B1.trans (B2.mono B1.size)⟩

set_option maxRecDepth 100000 in
theorem done_nil10 (w : World) (a : Ac) (hk : rest a.kind 11 = 10) :
    Calls Tryd.prog 9 #[.pointer none, a.val] w fun e w' => e = .returned (.int .i64 1) ∧ Below w.heap.size w w' := by
  obtain ⟨W1, hW1, X1, B1⟩ : ∃ W1, (w.alloc (.cells #[.int .i64 a.kind, .int .i64 a.who, .int .i64 a.dst, .int .i64 a.good, .int .i64 a.n, .string a.text] 24)) = W1 ∧ Blk W1 w.heap.size #[.int .i64 a.kind, .int .i64 a.who, .int .i64 a.dst, .int .i64 a.good, .int .i64 a.n, .string a.text] 24 ∧ Below w.heap.size w W1 := ⟨_, rfl, blk_new _ _ _ _ rfl, by go_grown⟩
  have har := around_calls a.kind 11 W1 (by omega) (by omega)
  rw [show ((rest a.kind (11 : Int).toNat : Nat) : Int) = 10 by rw [show (11 : Int).toNat = 11 from rfl, hk]; rfl] at har
  have e0 : W1.cell? ⟨w.heap.size, 0, none⟩ = some (.int .i64 a.kind) := X1.cell rfl
  have e1 : W1.cell? ⟨w.heap.size, 1, none⟩ = some (.int .i64 a.who) := X1.cell rfl
  have e2 : W1.cell? ⟨w.heap.size, 2, none⟩ = some (.int .i64 a.dst) := X1.cell rfl
  have e3 : W1.cell? ⟨w.heap.size, 3, none⟩ = some (.int .i64 a.good) := X1.cell rfl
  have e4 : W1.cell? ⟨w.heap.size, 4, none⟩ = some (.int .i64 a.n) := X1.cell rfl
  have e5 : W1.cell? ⟨w.heap.size, 5, none⟩ = some (.string a.text) := X1.cell rfl
  have hc := mark_nil W1 a.who a.n a.text
  clear hk
  unfold Ac.val
  go_enter Tryd.func9, Tryd.ntmps9
  go_wp2_with fail
  refine har.mono ?_
  rintro e w1 ⟨rfl, rfl⟩
  go_wp2_with fail
  refine hc.mono ?_
  rintro e w2 ⟨rfl, B2⟩
  go_wp2
  go_ret
  exact ⟨rfl, B1.trans (B2.mono B1.size)⟩

theorem done_nil (w : World) (a : Ac) : Calls Tryd.prog 9 #[.pointer none, a.val] w fun e w' => e = .returned (.int .i64 1) ∧ Below w.heap.size w w' := by
  have hk := rest_lt a.kind 11 (by omega)
  have : rest a.kind 11 = 0 ∨ rest a.kind 11 = 1 ∨ rest a.kind 11 = 2 ∨ rest a.kind 11 = 3 ∨ rest a.kind 11 = 4 ∨ rest a.kind 11 = 5 ∨ rest a.kind 11 = 6 ∨ rest a.kind 11 = 7 ∨ rest a.kind 11 = 8 ∨ rest a.kind 11 = 9 ∨ rest a.kind 11 = 10 := by omega
  rcases this with h0 | h0 | h0 | h0 | h0 | h0 | h0 | h0 | h0 | h0 | h0
  · exact done_nil0 w a h0
  · exact done_nil1 w a h0
  · exact done_nil2 w a h0
  · exact done_nil3 w a h0
  · exact done_nil4 w a h0
  · exact done_nil5 w a h0
  · exact done_nil6 w a h0
  · exact done_nil7 w a h0
  · exact done_nil8 w a h0
  · exact done_nil9 w a h0
  · exact done_nil10 w a h0
end Go.Proofs.YtpbnimjcojeklaaDoor
