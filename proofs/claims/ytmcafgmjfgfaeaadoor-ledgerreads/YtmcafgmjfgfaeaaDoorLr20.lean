/- begun: a ledger behind calls; awake: the chapter's example. -/
import Derived.Test.YtmcafgmjfgfaeaaDoorLr18
import Derived.Test.YtmcafgmjfgfaeaaDoorLr19
namespace Go.Proofs.YtmcafgmjfgfaeaaDoor
open Go.RowKit
set_option linter.unusedSimpArgs false
set_option linter.unusedVariables false
variable {p b g : Nat} {l : List Kt}

def ex1 : List Kt := (gate (refE 2 9 [0]) (List.replicate 2 Kt.zero) (inR (List.replicate 2 Kt.zero) 0 0 9)).2
def ex2 : List Kt := (gate (refE 2 5 [0]) ex1 (keepR ex1 0 0 1 5)).2
def ex3 : List Kt := (gate (refE 2 3 [0, 1]) ex2 (overR ex2 0 1 0 1 3)).2
set_option maxRecDepth 100000 in
set_option maxHeartbeats 1000000 in
theorem awake_calls (w : World) : Calls Tryd.prog 14 #[] w fun e w' => e = .returned (.bool true) ∧ Below w.heap.size w w' := by
  have HN : Hid _ := new_ok 2 1 w (by omega) (by omega) (by omega) (by omega)
  go_enter Tryd.func14, Tryd.ntmps14
  go_wp2_with fail
  refine Calls.mono HN.out ?_
  rintro e w1 ⟨p, b, rfl, L1, b1, hp, hb⟩
  have L1' : Lg w1 p b 1 (List.replicate 2 Kt.zero) := L1
  clear L1 HN
  have HP : Hid _ := pay_calls w1 L1' 0 9 (0, ex1) (by kernel_rfl)
  go_wp2_with fail
  refine Calls.mono HP.out ?_
  rintro e w2 ⟨rfl, L2, o2⟩
  have L2' : Lg w2 p b 1 ex1 := L2
  clear L2 HP
  have HP : Hid _ := hold_calls w2 L2' 0 5 (0, ex2) (by kernel_rfl)
  go_wp2_with fail
  refine Calls.mono HP.out ?_
  rintro e w3 ⟨rfl, L3, o3⟩
  have L3' : Lg w3 p b 1 ex2 := L3
  clear L3 HP
  have HP : Hid _ := take_calls w3 L3' 0 5 (61, ex2) (by kernel_rfl)
  go_wp2_with fail
  refine Calls.mono HP.out ?_
  rintro e w4 ⟨rfl, L4, o4⟩
  have L4' : Lg w4 p b 1 ex2 := L4
  clear L4 HP
  have HP : Hid _ := move_calls w4 L4' 0 1 3 (0, ex3) (by kernel_rfl)
  go_wp2_with fail
  refine Calls.mono HP.out ?_
  rintro e w5 ⟨rfl, L5, o5⟩
  have L5' : Lg w5 p b 1 ex3 := L5
  clear L5 HP
  have HA := account_ok w5 L5' 0 (by omega) (by decide)
  have K0 : Hid ((kAt ex3 (0 : Int).toNat).n 0 = 6 ∧ (kAt ex3 (0 : Int).toNat).n 1 = 2) := by show _ ∧ _; decide
  have K1 : Hid ((kAt ex3 (1 : Int).toNat).n 0 = 3 ∧ (kAt ex3 (1 : Int).toNat).n 1 = 0) := by show _ ∧ _; decide
  generalize kAt ex3 (0 : Int).toNat = ka at *
  unfold accV accA at HA
  go_wp2_with fail
  refine HA.mono ?_
  rintro e w6 ⟨rfl, b6⟩
  obtain ⟨W7, hW7, X7, B7⟩ : ∃ W7, (w6.alloc (.cells #[.int .i64 (ka.n 0), .int .i64 (ka.n 1), .int .i64 (ka.n 2), .int .i64 (ka.n 3), .int .i64 (ka.n 4), .int .i64 (ka.n 5), .int .i64 (ka.n 6), .int .i64 (ka.n 7), .int .i64 (ka.n 8), .int .i64 (ka.n 9)] 65)) = W7 ∧ Blk W7 w6.heap.size #[.int .i64 (ka.n 0), .int .i64 (ka.n 1), .int .i64 (ka.n 2), .int .i64 (ka.n 3), .int .i64 (ka.n 4), .int .i64 (ka.n 5), .int .i64 (ka.n 6), .int .i64 (ka.n 7), .int .i64 (ka.n 8), .int .i64 (ka.n 9)] 65 ∧ Below w6.heap.size w6 W7 := ⟨_, rfl, blk_new _ _ _ _ rfl, by go_grown⟩
  have L7 := (L5'.below b6).below B7
  have HB := account_ok W7 L7 1 (by omega) (by decide)
  generalize kAt ex3 (1 : Int).toNat = kb at *
  unfold accV accA at HB
  clear HA
  go_wp2_with fail
  refine HB.mono ?_
  rintro e w8 ⟨rfl, b8⟩
  clear HB
  obtain ⟨W9, hW9, X9, B9⟩ : ∃ W9, (w8.alloc (.cells #[.int .i64 (kb.n 0), .int .i64 (kb.n 1), .int .i64 (kb.n 2), .int .i64 (kb.n 3), .int .i64 (kb.n 4), .int .i64 (kb.n 5), .int .i64 (kb.n 6), .int .i64 (kb.n 7), .int .i64 (kb.n 8), .int .i64 (kb.n 9)] 65)) = W9 ∧ Blk W9 w8.heap.size #[.int .i64 (kb.n 0), .int .i64 (kb.n 1), .int .i64 (kb.n 2), .int .i64 (kb.n 3), .int .i64 (kb.n 4), .int .i64 (kb.n 5), .int .i64 (kb.n 6), .int .i64 (kb.n 7), .int .i64 (kb.n 8), .int .i64 (kb.n 9)] 65 ∧ Below w8.heap.size w8 W9 := ⟨_, rfl, blk_new _ _ _ _ rfl, by go_grown⟩
  have Y9 := (X7.below b8).below B9
  have a0 : W9.cell? ⟨w6.heap.size, 0, none⟩ = some (.int .i64 6) := by rw [← K0.out.1]; exact Y9.cell rfl
  have a1 : W9.cell? ⟨w6.heap.size, 1, none⟩ = some (.int .i64 2) := by rw [← K0.out.2]; exact Y9.cell rfl
  have c0 : W9.cell? ⟨w8.heap.size, 0, none⟩ = some (.int .i64 3) := by rw [← K1.out.1]; exact X9.cell rfl
  have c1 : W9.cell? ⟨w8.heap.size, 1, none⟩ = some (.int .i64 0) := by rw [← K1.out.2]; exact X9.cell rfl
  have hB : Hid (Below w.heap.size w W9) := by
    show Below _ _ _
    have h5 := ((((o2.trans o3).trans o4).trans o5).below hb b1 b1.size)
    have z5 := h5.size
    have z6 := b6.size
    have z7 := B7.size
    have z8 := b8.size
    exact (((h5.trans (b6.mono (by omega))).trans (B7.mono (by omega))).trans (b8.mono (by omega))).trans (B9.mono (by omega))
  go_wp2
  try (go_region; go_wp2)
  go_ret
  first | exact ⟨rfl, hB.out⟩ | exact ⟨rfl, hB.out.drew⟩
end Go.Proofs.YtmcafgmjfgfaeaaDoor
