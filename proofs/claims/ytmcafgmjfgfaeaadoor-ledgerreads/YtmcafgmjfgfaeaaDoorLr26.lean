/- Whether what a client has could come of calls; whether there is too much of something. -/
import Derived.Test.YtmcafgmjfgfaeaaDoorLr11
import Derived.Test.YtmcafgmjfgfaeaaDoorLr17
namespace Go.Proofs.YtmcafgmjfgfaeaaDoor
open Go.RowKit
set_option linter.unusedSimpArgs false
set_option linter.unusedVariables false
variable {p b g : Nat} {l : List Kt}

def soundB (k : Kt) : Bool := decide ((k.n 6 ≤ k.n 2 ∧ k.n 7 ≤ k.n 3 ∧ k.n 8 ≤ k.n 4 ∧ k.n 9 ≤ k.n 5) ∧ k.n 1 ≤ k.n 0 ∧ k.reply.size ≤ 256 ∧ (0 < k.n 10 ∨ k.reply.toList = []))
set_option maxRecDepth 100000 in
set_option maxHeartbeats 2000000 in
theorem sound_calls (k : Kt) (w : World) : Calls Tryd.prog 43 #[.agg #[.int .i64 (k.n 0), .int .i64 (k.n 1), .int .i64 (k.n 2), .int .i64 (k.n 3), .int .i64 (k.n 4), .int .i64 (k.n 5), .int .i64 (k.n 6), .int .i64 (k.n 7), .int .i64 (k.n 8), .int .i64 (k.n 9), .int .i64 (k.n 10), .string k.reply]] w fun e w' => e = .returned (.bool (soundB k)) ∧ Below w.heap.size w w' := by
  obtain ⟨W1, hW1, X1, B1⟩ : ∃ W1, (w.alloc (.cells #[.int .i64 (k.n 0), .int .i64 (k.n 1), .int .i64 (k.n 2), .int .i64 (k.n 3), .int .i64 (k.n 4), .int .i64 (k.n 5), .int .i64 (k.n 6), .int .i64 (k.n 7), .int .i64 (k.n 8), .int .i64 (k.n 9), .int .i64 (k.n 10), .string k.reply] 67)) = W1 ∧ Blk W1 w.heap.size k.cells.toArray 67 ∧ Below w.heap.size w W1 := ⟨_, rfl, blk_new _ _ _ _ rfl, by go_grown⟩
  have c0 : W1.cell? ⟨w.heap.size, 0, none⟩ = some (.int .i64 (k.n 0)) := X1.cell rfl
  have c1 : W1.cell? ⟨w.heap.size, 1, none⟩ = some (.int .i64 (k.n 1)) := X1.cell rfl
  have c2 : W1.cell? ⟨w.heap.size, 2, none⟩ = some (.int .i64 (k.n 2)) := X1.cell rfl
  have c3 : W1.cell? ⟨w.heap.size, 3, none⟩ = some (.int .i64 (k.n 3)) := X1.cell rfl
  have c4 : W1.cell? ⟨w.heap.size, 4, none⟩ = some (.int .i64 (k.n 4)) := X1.cell rfl
  have c5 : W1.cell? ⟨w.heap.size, 5, none⟩ = some (.int .i64 (k.n 5)) := X1.cell rfl
  have c6 : W1.cell? ⟨w.heap.size, 6, none⟩ = some (.int .i64 (k.n 6)) := X1.cell rfl
  have c7 : W1.cell? ⟨w.heap.size, 7, none⟩ = some (.int .i64 (k.n 7)) := X1.cell rfl
  have c8 : W1.cell? ⟨w.heap.size, 8, none⟩ = some (.int .i64 (k.n 8)) := X1.cell rfl
  have c9 : W1.cell? ⟨w.heap.size, 9, none⟩ = some (.int .i64 (k.n 9)) := X1.cell rfl
  have c10 : W1.cell? ⟨w.heap.size, 10, none⟩ = some (.int .i64 (k.n 10)) := X1.cell rfl
  have c11 : W1.cell? ⟨w.heap.size, 11, none⟩ = some (.string k.reply) := X1.cell rfl
  have HS : Hid (soundB k = decide ((k.n 6 ≤ k.n 2 ∧ k.n 7 ≤ k.n 3 ∧ k.n 8 ≤ k.n 4 ∧ k.n 9 ≤ k.n 5) ∧ k.n 1 ≤ k.n 0 ∧ k.reply.size ≤ 256 ∧ (0 < k.n 10 ∨ k.reply.toList = []))) := rfl
  generalize soundB k = R at *
  go_enter Tryd.func43, Tryd.ntmps43
  go_wp2_with fail
  go_loopw [8] (fun i wr => ∃ j : Nat, j ≤ 4 ∧ i = .int .i64 j ∧ Hid (∀ i, i < j → k.n (6 + i) ≤ k.n (2 + i)) ∧ wr = W1) (fun i _ => 4 - (intOf i).toNat)
  case atStart => exact ⟨0, by omega, rfl, fun i hi => by omega, rfl⟩
  case round =>
    obtain ⟨j, hj, rfl, HJ, rfl⟩ := hrel
    by_cases hlt : j < 4
    · have : j = 0 ∨ j = 1 ∨ j = 2 ∨ j = 3 := by omega
      rcases this with rfl | rfl | rfl | rfl
      · cases d : decide (k.n 2 < k.n 6)
        · go_wp2_with fail
          refine ⟨⟨1, by omega, rfl, fun i hi => ?_, trivial⟩, by simp [intOf]⟩
          by_cases e : i = 0
          · rw [e]; simp at d; exact d
          · exact HJ.out i (by omega)
        · have hf : Hid (R = false) := by show _ = _; rw [HS.out]; exact decide_eq_false (fun h => by have h2 : k.n 6 ≤ k.n 2 := h.1.1; simp at d; omega)
          go_wp2
          go_ret
          exact ⟨by rw [hf.out]; rfl, B1⟩
      · cases d : decide (k.n 3 < k.n 7)
        · go_wp2_with fail
          refine ⟨⟨2, by omega, rfl, fun i hi => ?_, trivial⟩, by simp [intOf]⟩
          by_cases e : i = 1
          · rw [e]; simp at d; exact d
          · exact HJ.out i (by omega)
        · have hf : Hid (R = false) := by show _ = _; rw [HS.out]; exact decide_eq_false (fun h => by have h2 : k.n 7 ≤ k.n 3 := h.1.2.1; simp at d; omega)
          go_wp2
          go_ret
          exact ⟨by rw [hf.out]; rfl, B1⟩
      · cases d : decide (k.n 4 < k.n 8)
        · go_wp2_with fail
          refine ⟨⟨3, by omega, rfl, fun i hi => ?_, trivial⟩, by simp [intOf]⟩
          by_cases e : i = 2
          · rw [e]; simp at d; exact d
          · exact HJ.out i (by omega)
        · have hf : Hid (R = false) := by show _ = _; rw [HS.out]; exact decide_eq_false (fun h => by have h2 : k.n 8 ≤ k.n 4 := h.1.2.2.1; simp at d; omega)
          go_wp2
          go_ret
          exact ⟨by rw [hf.out]; rfl, B1⟩
      · cases d : decide (k.n 5 < k.n 9)
        · go_wp2_with fail
          refine ⟨⟨4, by omega, rfl, fun i hi => ?_, trivial⟩, by simp [intOf]⟩
          by_cases e : i = 3
          · rw [e]; simp at d; exact d
          · exact HJ.out i (by omega)
        · have hf : Hid (R = false) := by show _ = _; rw [HS.out]; exact decide_eq_false (fun h => by have h2 : k.n 9 ≤ k.n 5 := h.1.2.2.2; simp at d; omega)
          go_wp2
          go_ret
          exact ⟨by rw [hf.out]; rfl, B1⟩
    · have hj4 : j = 4 := by omega
      subst hj4
      cases d1 : decide (k.n 1 ≤ k.n 0)
      · have hf : Hid (R = false) := by show _ = _; rw [HS.out]; exact decide_eq_false (fun h => by have := h.2.1; simp at d1; omega)
        clear HS
        go_wp2
        go_ret
        exact ⟨by rw [hf.out]; rfl, B1⟩
      · cases d2 : decide ((k.reply.size : Int) ≤ 256)
        · have hf : Hid (R = false) := by show _ = _; rw [HS.out]; exact decide_eq_false (fun h => by have := h.2.2.1; simp at d2; omega)
          clear HS
          go_wp2
          go_ret
          exact ⟨by rw [hf.out]; rfl, B1⟩
        · cases d3 : decide (0 < k.n 10)
          · cases d4 : (k.reply.toList == [])
            · have hf : Hid (R = false) := by
                show _ = _
                rw [HS.out]
                refine decide_eq_false (fun h => ?_)
                rcases h.2.2.2 with h | h
                · simp at d3; omega
                · rw [h] at d4; simp at d4
              clear HS
              go_wp2
              go_ret
              exact ⟨by rw [hf.out]; rfl, B1⟩
            · have hf : Hid (R = true) := by show _ = _; rw [HS.out]; exact decide_eq_true ⟨⟨HJ.out 0 (by omega), HJ.out 1 (by omega), HJ.out 2 (by omega), HJ.out 3 (by omega)⟩, by simp at d1; omega, by simp at d2; omega, Or.inr (by simpa using d4)⟩
              clear HS
              go_wp2
              go_ret
              exact ⟨by rw [hf.out]; rfl, B1⟩
          · have hf : Hid (R = true) := by show _ = _; rw [HS.out]; exact decide_eq_true ⟨⟨HJ.out 0 (by omega), HJ.out 1 (by omega), HJ.out 2 (by omega), HJ.out 3 (by omega)⟩, by simp at d1; omega, by simp at d2; omega, Or.inl (by simp at d3; omega)⟩
            clear HS
            go_wp2
            go_ret
            exact ⟨by rw [hf.out]; rfl, B1⟩
end Go.Proofs.YtmcafgmjfgfaeaaDoor
