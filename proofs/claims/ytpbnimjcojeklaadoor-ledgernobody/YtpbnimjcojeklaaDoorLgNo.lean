/- LedgerNobody for every call: it answers true. -/
import Derived.Test.YtpbnimjcojeklaaDoorLgZ
namespace Go.Proofs.YtpbnimjcojeklaaDoor
open Go.RowKit
set_option linter.unusedSimpArgs false
set_option linter.unusedVariables false

set_option maxRecDepth 100000 in
set_option maxHeartbeats 2000000 in
theorem nobody_calls (a : Ac) (w : World) : Calls Tryd.prog 5 #[a.val] w fun e w' => e = .returned (.bool true) ∧ Below w.heap.size w w' := by
  obtain ⟨W0, hW0, X0, B0⟩ : ∃ W0, (w.alloc (.cells #[.int .i64 a.kind, .int .i64 a.who, .int .i64 a.dst, .int .i64 a.good, .int .i64 a.n, .string a.text] 24)) = W0 ∧ Blk W0 w.heap.size #[.int .i64 a.kind, .int .i64 a.who, .int .i64 a.dst, .int .i64 a.good, .int .i64 a.n, .string a.text] 24 ∧ Below w.heap.size w W0 := ⟨_, rfl, blk_new _ _ _ _ rfl, by go_grown⟩
  have HA : Hid _ := awake_calls
  have HR : Hid _ := records_nil
  have HD : Hid _ := fun wx => done_nil wx a
  have HL : Hid _ := last_nil
  obtain ⟨y0, y1, y2, y3, hy, HT⟩ : ∃ y0 y1 y2 y3 : Int, (0 = y0 ∧ 0 = y1 ∧ 0 = y2 ∧ 0 = y3) ∧ Calls Tryd.prog 12 #[.pointer none] W0 fun e w' => e = .returned (.tuple #[.int .i64 0, .agg #[.int .i64 y0, .int .i64 y1, .int .i64 y2, .int .i64 y3]]) ∧ Below W0.heap.size W0 w' := ⟨0, 0, 0, 0, ⟨rfl, rfl, rfl, rfl⟩, totals_nil W0⟩
  obtain ⟨kz, HAc⟩ : ∃ kz : Kt, ∀ wx z, Calls Tryd.prog 14 #[.pointer none, .int .i64 z] wx fun e w' => e = .returned (.tuple #[accV kz, .bool false]) ∧ Below wx.heap.size wx w' := ⟨Kt.zero, fun wx z => account_nil wx z⟩
  have HAc' : Hid _ := HAc
  have HT' : Hid _ := HT
  have HY : Hid _ := hy
  clear HAc HT hy
  unfold accV accA at HAc'
  unfold Ac.val at HD ⊢
  go_enter Tryd.func5, Tryd.ntmps5
  go_wp2_with fail
  refine Calls.mono HT'.out ?_
  rintro e w1 ⟨rfl, b1⟩
  obtain ⟨W2, hW2, X2, B2⟩ : ∃ W2, (w1.alloc (.cells #[.int .i64 y0, .int .i64 y1, .int .i64 y2, .int .i64 y3] 37)) = W2 ∧ Blk W2 w1.heap.size #[.int .i64 y0, .int .i64 y1, .int .i64 y2, .int .i64 y3] 37 ∧ Below w1.heap.size w1 W2 := ⟨_, rfl, blk_new _ _ _ _ rfl, by go_grown⟩
  have A2 := (X0.below b1).below B2
  have a1 : W2.cell? ⟨w.heap.size, 1, none⟩ = some (.int .i64 a.who) := A2.cell rfl
  go_wp2_with fail
  refine (HL.out _ _).mono ?_
  rintro e w3 ⟨rfl, rfl⟩
  go_wp2_with fail
  refine (HAc'.out _ _).mono ?_
  rintro e w4 ⟨rfl, b4⟩
  obtain ⟨W5, hW5, B5⟩ : ∃ W5, (w4.alloc (.cells #[.int .i64 (kz.n 0), .int .i64 (kz.n 1), .int .i64 (kz.n 2), .int .i64 (kz.n 3), .int .i64 (kz.n 4), .int .i64 (kz.n 5), .int .i64 (kz.n 6), .int .i64 (kz.n 7), .int .i64 (kz.n 8), .int .i64 (kz.n 9)] 43)) = W5 ∧ Below w4.heap.size w4 W5 := ⟨_, rfl, by go_grown⟩
  have A5 := (A2.below b4).below B5
  have X5 := (X2.below b4).below B5
  have c0 : W5.cell? ⟨w.heap.size, 0, none⟩ = some (.int .i64 a.kind) := A5.cell rfl
  have c1 : W5.cell? ⟨w.heap.size, 1, none⟩ = some (.int .i64 a.who) := A5.cell rfl
  have c2 : W5.cell? ⟨w.heap.size, 2, none⟩ = some (.int .i64 a.dst) := A5.cell rfl
  have c3 : W5.cell? ⟨w.heap.size, 3, none⟩ = some (.int .i64 a.good) := A5.cell rfl
  have c4 : W5.cell? ⟨w.heap.size, 4, none⟩ = some (.int .i64 a.n) := A5.cell rfl
  have c5 : W5.cell? ⟨w.heap.size, 5, none⟩ = some (.string a.text) := A5.cell rfl
  go_wp2_with fail
  refine (HD.out _).mono ?_
  rintro e w6 ⟨rfl, b6⟩
  have X6 := X5.below b6
  have g0 : w6.cell? ⟨w1.heap.size, 0, none⟩ = some (.int .i64 0) := by rw [HY.out.1]; exact X6.cell rfl
  have g1 : w6.cell? ⟨w1.heap.size, 1, none⟩ = some (.int .i64 0) := by rw [HY.out.2.1]; exact X6.cell rfl
  have g2 : w6.cell? ⟨w1.heap.size, 2, none⟩ = some (.int .i64 0) := by rw [HY.out.2.2.1]; exact X6.cell rfl
  have g3 : w6.cell? ⟨w1.heap.size, 3, none⟩ = some (.int .i64 0) := by rw [HY.out.2.2.2]; exact X6.cell rfl
  go_wp2_with fail
  refine (HR.out _).mono ?_
  rintro e w7 ⟨rfl, rfl⟩
  go_wp2_with fail
  refine (HA.out _).mono ?_
  rintro e w8 ⟨rfl, b8⟩
  go_wp2
  go_ret
  have q1 := b1.size
  have q2 := B2.size
  have q4 := b4.size
  have q5 := B5.size
  have q6 := b6.size
  have q0 := B0.size
  exact ⟨rfl, (((((B0.trans (b1.mono (by omega))).trans (B2.mono (by omega))).trans (b4.mono (by omega))).trans (B5.mono (by omega))).trans (b6.mono (by omega))).trans (b8.mono (by omega))⟩
end Go.Proofs.YtpbnimjcojeklaaDoor
