/- The document's auction: Bid. -/
import Derived.Test.YteinfckkpkbnlaaCkRg

namespace Go.Proofs.Yteinfckkpkbnlaa
open Go.RowKit
set_option linter.unusedSimpArgs false
set_option linter.unusedVariables false
variable {a : Au} {R g cap : Nat} {rs : Nat → Value}

set_option maxRecDepth 100000 in
set_option maxHeartbeats 4000000 in
theorem bid_closed (w : World) (h : Rf w a R g cap rs) (who n : Int) (h0 : a.state ≠ 0) : Calls Try.prog 16 #[rfV a R g cap, .int .i64 who, .int .i64 n] w fun e w' => e = .returned (.tuple #[rfV a R g cap, .int .i64 70]) ∧ Rf w' a R g cap rs ∧ Below w.heap.size w w' := by
  obtain ⟨W1, hW1, X1, B1⟩ := rf_box w a R g cap
  obtain ⟨W2, hW2, X2, Y2, B2, Z2⟩ : ∃ W2, W1.alloc (.cells #[.int .i64 0, .int .i64 0, .int .i64 0, .int .i64 0, .slice none 0 0] 30) = W2 ∧ Blk W2 w.heap.size (rfA a R g cap) 30 ∧ Blk W2 (w.heap.size + 1) #[.int .i64 0, .int .i64 0, .int .i64 0, .int .i64 0, .slice none 0 0] 30 ∧ Below w.heap.size w W2 ∧ W2.heap.size = w.heap.size + 2 := by
    have hz : W1.heap.size = w.heap.size + 1 := by rw [← hW1]; simp
    exact ⟨_, rfl, X1.alloc _, blk_new _ _ _ _ hz.symm, B1.alloc (by omega) _, by simp [hz]⟩
  have hsz : W1.heap.size = w.heap.size + 1 := by rw [← hW1]; simp
  have L2 := h.below B2
  have h1 := h.one
  have hln := h.inv.len
  have HLw : Hid _ := fun wx (hb : Below w.heap.size w wx) => h.below hb
  have HNow : Hid _ := fun wx (hb : Below w.heap.size w wx) => now_ref wx (h.below hb)
  unfold rfV at HNow
  rw [show rfA a R g cap = #[.int .i64 a.supply, .int .i64 a.start, .int .i64 a.step, .int .i64 a.state, .slice (some ⟨g, 0, none⟩) R cap] from rfl] at HNow
  obtain ⟨uc, ucp, hus, _⟩ := h.now
  rw [tab_len] at hus
  rw [hus] at HNow
  have HUS : Hid _ := hus
  clear hus
  have c0 : W2.cell? ⟨w.heap.size, 0, none⟩ = some (.int .i64 a.supply) := X2.cell rfl
  have c1 : W2.cell? ⟨w.heap.size, 1, none⟩ = some (.int .i64 a.start) := X2.cell rfl
  have c2 : W2.cell? ⟨w.heap.size, 2, none⟩ = some (.int .i64 a.step) := X2.cell rfl
  have c3 : W2.cell? ⟨w.heap.size, 3, none⟩ = some (.int .i64 (a.state)) := X2.cell rfl
  have c4 : W2.cell? ⟨w.heap.size, 4, none⟩ = some (.slice (some ⟨g, 0, none⟩) R cap) := X2.cell rfl
  have d0 : (a.state == 0) = false := by simpa using h0
  clear h L2 X1 HNow
  unfold rfV
  rw [show rfA a R g cap = #[.int .i64 a.supply, .int .i64 a.start, .int .i64 a.step, .int .i64 a.state, .slice (some ⟨g, 0, none⟩) R cap] from rfl]
  go_enter Try.func16, Try.ntmps16
  have e0 : W2.cell? ⟨w.heap.size, 0, none⟩ = some (.int .i64 a.supply) := X2.cell rfl
  have e1 : W2.cell? ⟨w.heap.size, 1, none⟩ = some (.int .i64 a.start) := X2.cell rfl
  have e2 : W2.cell? ⟨w.heap.size, 2, none⟩ = some (.int .i64 a.step) := X2.cell rfl
  have e3 : W2.cell? ⟨w.heap.size, 3, none⟩ = some (.int .i64 (a.state)) := X2.cell rfl
  have e4 : W2.cell? ⟨w.heap.size, 4, none⟩ = some (.slice (some ⟨g, 0, none⟩) R cap) := X2.cell rfl
  obtain ⟨W6, hW6, Y6, B6⟩ : ∃ W6, W2.setRow (w.heap.size + 1) (rfA a R g cap) = W6 ∧ Blk W6 (w.heap.size + 1) (rfA a R g cap) 30 ∧ Below w.heap.size w W6 := ⟨_, rfl, Y2.setRow _, below_setRow B2 _ _ (by omega)⟩
  go_wp2_with ((with_reducible refine st_row (ty := 30) (cs' := rfA a R g cap) Y2 (rf_info _ _ _ _) (rf_same _ _ _ _) (rf_one _ _ _ _) hW6 ?_ ?_ ?_); rfl; rfl)
  have s0 : W6.cell? ⟨w.heap.size + 1, 0, none⟩ = some (.int .i64 (a.supply)) := Y6.cell rfl
  have s1 : W6.cell? ⟨w.heap.size + 1, 1, none⟩ = some (.int .i64 (a.start)) := Y6.cell rfl
  have s2 : W6.cell? ⟨w.heap.size + 1, 2, none⟩ = some (.int .i64 (a.step)) := Y6.cell rfl
  have s3 : W6.cell? ⟨w.heap.size + 1, 3, none⟩ = some (.int .i64 (a.state)) := Y6.cell rfl
  have s4 : W6.cell? ⟨w.heap.size + 1, 4, none⟩ = some (.slice (some ⟨g, 0, none⟩) R cap) := Y6.cell rfl
  try simp only [Exit.inBlock, Exit.then]
  refine bodyPost_ret (by simp [results, Try.results16, go_sem, s0, s1, s2, s3, s4]; rfl) rfl ?_
  exact ⟨rfl, HLw.out W6 B6, B6⟩

set_option maxRecDepth 100000 in
set_option maxHeartbeats 4000000 in
theorem bid_who (w : World) (h : Rf w a R g cap rs) (who n : Int) (h0 : a.state = 0) (hb : who < 0) : Calls Try.prog 16 #[rfV a R g cap, .int .i64 who, .int .i64 n] w fun e w' => e = .returned (.tuple #[rfV a R g cap, .int .i64 1]) ∧ Rf w' a R g cap rs ∧ Below w.heap.size w w' := by
  obtain ⟨W1, hW1, X1, B1⟩ := rf_box w a R g cap
  obtain ⟨W2, hW2, X2, Y2, B2, Z2⟩ : ∃ W2, W1.alloc (.cells #[.int .i64 0, .int .i64 0, .int .i64 0, .int .i64 0, .slice none 0 0] 30) = W2 ∧ Blk W2 w.heap.size (rfA a R g cap) 30 ∧ Blk W2 (w.heap.size + 1) #[.int .i64 0, .int .i64 0, .int .i64 0, .int .i64 0, .slice none 0 0] 30 ∧ Below w.heap.size w W2 ∧ W2.heap.size = w.heap.size + 2 := by
    have hz : W1.heap.size = w.heap.size + 1 := by rw [← hW1]; simp
    exact ⟨_, rfl, X1.alloc _, blk_new _ _ _ _ hz.symm, B1.alloc (by omega) _, by simp [hz]⟩
  have hsz : W1.heap.size = w.heap.size + 1 := by rw [← hW1]; simp
  have L2 := h.below B2
  have h1 := h.one
  have hln := h.inv.len
  have HLw : Hid _ := fun wx (hb : Below w.heap.size w wx) => h.below hb
  have HNow : Hid _ := fun wx (hb : Below w.heap.size w wx) => now_ref wx (h.below hb)
  unfold rfV at HNow
  rw [show rfA a R g cap = #[.int .i64 a.supply, .int .i64 a.start, .int .i64 a.step, .int .i64 a.state, .slice (some ⟨g, 0, none⟩) R cap] from rfl] at HNow
  obtain ⟨uc, ucp, hus, _⟩ := h.now
  rw [tab_len] at hus
  rw [hus] at HNow
  have HUS : Hid _ := hus
  clear hus
  have H0 : Hid _ := h0
  have d0 : (a.state == 0) = true := by simpa using h0
  have c0 : W2.cell? ⟨w.heap.size, 0, none⟩ = some (.int .i64 a.supply) := X2.cell rfl
  have c1 : W2.cell? ⟨w.heap.size, 1, none⟩ = some (.int .i64 a.start) := X2.cell rfl
  have c2 : W2.cell? ⟨w.heap.size, 2, none⟩ = some (.int .i64 a.step) := X2.cell rfl
  have c3 : W2.cell? ⟨w.heap.size, 3, none⟩ = some (.int .i64 (a.state)) := X2.cell rfl
  have c4 : W2.cell? ⟨w.heap.size, 4, none⟩ = some (.slice (some ⟨g, 0, none⟩) R cap) := X2.cell rfl
  have d1 : decide (who < 0) = true := decide_eq_true hb
  clear h L2 X1 HNow h0
  unfold rfV
  rw [show rfA a R g cap = #[.int .i64 a.supply, .int .i64 a.start, .int .i64 a.step, .int .i64 a.state, .slice (some ⟨g, 0, none⟩) R cap] from rfl]
  go_enter Try.func16, Try.ntmps16
  have e0 : W2.cell? ⟨w.heap.size, 0, none⟩ = some (.int .i64 a.supply) := X2.cell rfl
  have e1 : W2.cell? ⟨w.heap.size, 1, none⟩ = some (.int .i64 a.start) := X2.cell rfl
  have e2 : W2.cell? ⟨w.heap.size, 2, none⟩ = some (.int .i64 a.step) := X2.cell rfl
  have e3 : W2.cell? ⟨w.heap.size, 3, none⟩ = some (.int .i64 (a.state)) := X2.cell rfl
  have e4 : W2.cell? ⟨w.heap.size, 4, none⟩ = some (.slice (some ⟨g, 0, none⟩) R cap) := X2.cell rfl
  obtain ⟨W6, hW6, Y6, B6⟩ : ∃ W6, W2.setRow (w.heap.size + 1) (rfA a R g cap) = W6 ∧ Blk W6 (w.heap.size + 1) (rfA a R g cap) 30 ∧ Below w.heap.size w W6 := ⟨_, rfl, Y2.setRow _, below_setRow B2 _ _ (by omega)⟩
  go_wp2_with ((with_reducible refine st_row (ty := 30) (cs' := rfA a R g cap) Y2 (rf_info _ _ _ _) (rf_same _ _ _ _) (rf_one _ _ _ _) hW6 ?_ ?_ ?_); rfl; rfl)
  have s0 : W6.cell? ⟨w.heap.size + 1, 0, none⟩ = some (.int .i64 (a.supply)) := Y6.cell rfl
  have s1 : W6.cell? ⟨w.heap.size + 1, 1, none⟩ = some (.int .i64 (a.start)) := Y6.cell rfl
  have s2 : W6.cell? ⟨w.heap.size + 1, 2, none⟩ = some (.int .i64 (a.step)) := Y6.cell rfl
  have s3 : W6.cell? ⟨w.heap.size + 1, 3, none⟩ = some (.int .i64 (a.state)) := Y6.cell rfl
  have s4 : W6.cell? ⟨w.heap.size + 1, 4, none⟩ = some (.slice (some ⟨g, 0, none⟩) R cap) := Y6.cell rfl
  try simp only [Exit.inBlock, Exit.then]
  refine bodyPost_ret (by simp [results, Try.results16, go_sem, s0, s1, s2, s3, s4]; rfl) rfl ?_
  exact ⟨rfl, HLw.out W6 B6, B6⟩

set_option maxRecDepth 100000 in
set_option maxHeartbeats 4000000 in
theorem bid_arg0 (w : World) (h : Rf w a R g cap rs) (who n : Int) (h0 : a.state = 0) (hb : ¬ who < 0) (hc : (a.ds.length : Int) ≤ who) : Calls Try.prog 16 #[rfV a R g cap, .int .i64 who, .int .i64 n] w fun e w' => e = .returned (.tuple #[rfV a R g cap, .int .i64 1]) ∧ Rf w' a R g cap rs ∧ Below w.heap.size w w' := by
  obtain ⟨W1, hW1, X1, B1⟩ := rf_box w a R g cap
  obtain ⟨W2, hW2, X2, Y2, B2, Z2⟩ : ∃ W2, W1.alloc (.cells #[.int .i64 0, .int .i64 0, .int .i64 0, .int .i64 0, .slice none 0 0] 30) = W2 ∧ Blk W2 w.heap.size (rfA a R g cap) 30 ∧ Blk W2 (w.heap.size + 1) #[.int .i64 0, .int .i64 0, .int .i64 0, .int .i64 0, .slice none 0 0] 30 ∧ Below w.heap.size w W2 ∧ W2.heap.size = w.heap.size + 2 := by
    have hz : W1.heap.size = w.heap.size + 1 := by rw [← hW1]; simp
    exact ⟨_, rfl, X1.alloc _, blk_new _ _ _ _ hz.symm, B1.alloc (by omega) _, by simp [hz]⟩
  have hsz : W1.heap.size = w.heap.size + 1 := by rw [← hW1]; simp
  have L2 := h.below B2
  have h1 := h.one
  have hln := h.inv.len
  have HLw : Hid _ := fun wx (hb : Below w.heap.size w wx) => h.below hb
  have HNow : Hid _ := fun wx (hb : Below w.heap.size w wx) => now_ref wx (h.below hb)
  unfold rfV at HNow
  rw [show rfA a R g cap = #[.int .i64 a.supply, .int .i64 a.start, .int .i64 a.step, .int .i64 a.state, .slice (some ⟨g, 0, none⟩) R cap] from rfl] at HNow
  obtain ⟨uc, ucp, hus, _⟩ := h.now
  rw [tab_len] at hus
  rw [hus] at HNow
  have HUS : Hid _ := hus
  clear hus
  have H0 : Hid _ := h0
  have d0 : (a.state == 0) = true := by simpa using h0
  have c0 : W2.cell? ⟨w.heap.size, 0, none⟩ = some (.int .i64 a.supply) := X2.cell rfl
  have c1 : W2.cell? ⟨w.heap.size, 1, none⟩ = some (.int .i64 a.start) := X2.cell rfl
  have c2 : W2.cell? ⟨w.heap.size, 2, none⟩ = some (.int .i64 a.step) := X2.cell rfl
  have c3 : W2.cell? ⟨w.heap.size, 3, none⟩ = some (.int .i64 (a.state)) := X2.cell rfl
  have c4 : W2.cell? ⟨w.heap.size, 4, none⟩ = some (.slice (some ⟨g, 0, none⟩) R cap) := X2.cell rfl
  have d1 : decide (who < 0) = false := decide_eq_false hb
  have d2 : decide ((a.ds.length : Int) ≤ who) = true := decide_eq_true hc
  clear h L2 X1 h0
  unfold rfV
  rw [show rfA a R g cap = #[.int .i64 a.supply, .int .i64 a.start, .int .i64 a.step, .int .i64 a.state, .slice (some ⟨g, 0, none⟩) R cap] from rfl]
  go_enter Try.func16, Try.ntmps16
  go_wp2_with fail
  refine Calls.mono (HNow.out W2 B2) ?_
  rintro e w4 ⟨rfl, b4⟩
  have X4 := X2.below b4
  have Y4 := Y2.below b4
  have B4 : Below w.heap.size w w4 := B2.trans (b4.mono B2.size)
  have e0 : w4.cell? ⟨w.heap.size, 0, none⟩ = some (.int .i64 a.supply) := X4.cell rfl
  have e1 : w4.cell? ⟨w.heap.size, 1, none⟩ = some (.int .i64 a.start) := X4.cell rfl
  have e2 : w4.cell? ⟨w.heap.size, 2, none⟩ = some (.int .i64 a.step) := X4.cell rfl
  have e3 : w4.cell? ⟨w.heap.size, 3, none⟩ = some (.int .i64 (a.state)) := X4.cell rfl
  have e4 : w4.cell? ⟨w.heap.size, 4, none⟩ = some (.slice (some ⟨g, 0, none⟩) R cap) := X4.cell rfl
  obtain ⟨W6, hW6, Y6, B6⟩ : ∃ W6, w4.setRow (w.heap.size + 1) (rfA a R g cap) = W6 ∧ Blk W6 (w.heap.size + 1) (rfA a R g cap) 30 ∧ Below w.heap.size w W6 := ⟨_, rfl, Y4.setRow _, below_setRow B4 _ _ (by omega)⟩
  go_wp2_with ((with_reducible refine st_row (ty := 30) (cs' := rfA a R g cap) Y4 (rf_info _ _ _ _) (rf_same _ _ _ _) (rf_one _ _ _ _) hW6 ?_ ?_ ?_); rfl; rfl)
  have s0 : W6.cell? ⟨w.heap.size + 1, 0, none⟩ = some (.int .i64 (a.supply)) := Y6.cell rfl
  have s1 : W6.cell? ⟨w.heap.size + 1, 1, none⟩ = some (.int .i64 (a.start)) := Y6.cell rfl
  have s2 : W6.cell? ⟨w.heap.size + 1, 2, none⟩ = some (.int .i64 (a.step)) := Y6.cell rfl
  have s3 : W6.cell? ⟨w.heap.size + 1, 3, none⟩ = some (.int .i64 (a.state)) := Y6.cell rfl
  have s4 : W6.cell? ⟨w.heap.size + 1, 4, none⟩ = some (.slice (some ⟨g, 0, none⟩) R cap) := Y6.cell rfl
  try simp only [Exit.inBlock, Exit.then]
  refine bodyPost_ret (by simp [results, Try.results16, go_sem, s0, s1, s2, s3, s4]; rfl) rfl ?_
  exact ⟨rfl, HLw.out W6 B6, B6⟩

set_option maxRecDepth 100000 in
set_option maxHeartbeats 4000000 in
theorem bid_arg1 (w : World) (h : Rf w a R g cap rs) (who n : Int) (h0 : a.state = 0) (hb : ¬ who < 0) (hd : ¬ (a.ds.length : Int) ≤ who) (hc : n < 0) : Calls Try.prog 16 #[rfV a R g cap, .int .i64 who, .int .i64 n] w fun e w' => e = .returned (.tuple #[rfV a R g cap, .int .i64 1]) ∧ Rf w' a R g cap rs ∧ Below w.heap.size w w' := by
  obtain ⟨W1, hW1, X1, B1⟩ := rf_box w a R g cap
  obtain ⟨W2, hW2, X2, Y2, B2, Z2⟩ : ∃ W2, W1.alloc (.cells #[.int .i64 0, .int .i64 0, .int .i64 0, .int .i64 0, .slice none 0 0] 30) = W2 ∧ Blk W2 w.heap.size (rfA a R g cap) 30 ∧ Blk W2 (w.heap.size + 1) #[.int .i64 0, .int .i64 0, .int .i64 0, .int .i64 0, .slice none 0 0] 30 ∧ Below w.heap.size w W2 ∧ W2.heap.size = w.heap.size + 2 := by
    have hz : W1.heap.size = w.heap.size + 1 := by rw [← hW1]; simp
    exact ⟨_, rfl, X1.alloc _, blk_new _ _ _ _ hz.symm, B1.alloc (by omega) _, by simp [hz]⟩
  have hsz : W1.heap.size = w.heap.size + 1 := by rw [← hW1]; simp
  have L2 := h.below B2
  have h1 := h.one
  have hln := h.inv.len
  have HLw : Hid _ := fun wx (hb : Below w.heap.size w wx) => h.below hb
  have HNow : Hid _ := fun wx (hb : Below w.heap.size w wx) => now_ref wx (h.below hb)
  unfold rfV at HNow
  rw [show rfA a R g cap = #[.int .i64 a.supply, .int .i64 a.start, .int .i64 a.step, .int .i64 a.state, .slice (some ⟨g, 0, none⟩) R cap] from rfl] at HNow
  obtain ⟨uc, ucp, hus, _⟩ := h.now
  rw [tab_len] at hus
  rw [hus] at HNow
  have HUS : Hid _ := hus
  clear hus
  have H0 : Hid _ := h0
  have d0 : (a.state == 0) = true := by simpa using h0
  have c0 : W2.cell? ⟨w.heap.size, 0, none⟩ = some (.int .i64 a.supply) := X2.cell rfl
  have c1 : W2.cell? ⟨w.heap.size, 1, none⟩ = some (.int .i64 a.start) := X2.cell rfl
  have c2 : W2.cell? ⟨w.heap.size, 2, none⟩ = some (.int .i64 a.step) := X2.cell rfl
  have c3 : W2.cell? ⟨w.heap.size, 3, none⟩ = some (.int .i64 (a.state)) := X2.cell rfl
  have c4 : W2.cell? ⟨w.heap.size, 4, none⟩ = some (.slice (some ⟨g, 0, none⟩) R cap) := X2.cell rfl
  have d1 : decide (who < 0) = false := decide_eq_false hb
  have d2 : decide ((a.ds.length : Int) ≤ who) = false := decide_eq_false hd
  have d3 : decide (n < 0) = true := decide_eq_true hc
  clear h L2 X1 h0
  unfold rfV
  rw [show rfA a R g cap = #[.int .i64 a.supply, .int .i64 a.start, .int .i64 a.step, .int .i64 a.state, .slice (some ⟨g, 0, none⟩) R cap] from rfl]
  go_enter Try.func16, Try.ntmps16
  go_wp2_with fail
  refine Calls.mono (HNow.out W2 B2) ?_
  rintro e w4 ⟨rfl, b4⟩
  have X4 := X2.below b4
  have Y4 := Y2.below b4
  have B4 : Below w.heap.size w w4 := B2.trans (b4.mono B2.size)
  have e0 : w4.cell? ⟨w.heap.size, 0, none⟩ = some (.int .i64 a.supply) := X4.cell rfl
  have e1 : w4.cell? ⟨w.heap.size, 1, none⟩ = some (.int .i64 a.start) := X4.cell rfl
  have e2 : w4.cell? ⟨w.heap.size, 2, none⟩ = some (.int .i64 a.step) := X4.cell rfl
  have e3 : w4.cell? ⟨w.heap.size, 3, none⟩ = some (.int .i64 (a.state)) := X4.cell rfl
  have e4 : w4.cell? ⟨w.heap.size, 4, none⟩ = some (.slice (some ⟨g, 0, none⟩) R cap) := X4.cell rfl
  obtain ⟨W6, hW6, Y6, B6⟩ : ∃ W6, w4.setRow (w.heap.size + 1) (rfA a R g cap) = W6 ∧ Blk W6 (w.heap.size + 1) (rfA a R g cap) 30 ∧ Below w.heap.size w W6 := ⟨_, rfl, Y4.setRow _, below_setRow B4 _ _ (by omega)⟩
  go_wp2_with ((with_reducible refine st_row (ty := 30) (cs' := rfA a R g cap) Y4 (rf_info _ _ _ _) (rf_same _ _ _ _) (rf_one _ _ _ _) hW6 ?_ ?_ ?_); rfl; rfl)
  have s0 : W6.cell? ⟨w.heap.size + 1, 0, none⟩ = some (.int .i64 (a.supply)) := Y6.cell rfl
  have s1 : W6.cell? ⟨w.heap.size + 1, 1, none⟩ = some (.int .i64 (a.start)) := Y6.cell rfl
  have s2 : W6.cell? ⟨w.heap.size + 1, 2, none⟩ = some (.int .i64 (a.step)) := Y6.cell rfl
  have s3 : W6.cell? ⟨w.heap.size + 1, 3, none⟩ = some (.int .i64 (a.state)) := Y6.cell rfl
  have s4 : W6.cell? ⟨w.heap.size + 1, 4, none⟩ = some (.slice (some ⟨g, 0, none⟩) R cap) := Y6.cell rfl
  try simp only [Exit.inBlock, Exit.then]
  refine bodyPost_ret (by simp [results, Try.results16, go_sem, s0, s1, s2, s3, s4]; rfl) rfl ?_
  exact ⟨rfl, HLw.out W6 B6, B6⟩

set_option maxRecDepth 100000 in
set_option maxHeartbeats 4000000 in
theorem bid_arg2 (w : World) (h : Rf w a R g cap rs) (who n : Int) (h0 : a.state = 0) (hb : ¬ who < 0) (hd : ¬ (a.ds.length : Int) ≤ who) (he : ¬ n < 0) (hc : 1048576 < n) : Calls Try.prog 16 #[rfV a R g cap, .int .i64 who, .int .i64 n] w fun e w' => e = .returned (.tuple #[rfV a R g cap, .int .i64 1]) ∧ Rf w' a R g cap rs ∧ Below w.heap.size w w' := by
  obtain ⟨W1, hW1, X1, B1⟩ := rf_box w a R g cap
  obtain ⟨W2, hW2, X2, Y2, B2, Z2⟩ : ∃ W2, W1.alloc (.cells #[.int .i64 0, .int .i64 0, .int .i64 0, .int .i64 0, .slice none 0 0] 30) = W2 ∧ Blk W2 w.heap.size (rfA a R g cap) 30 ∧ Blk W2 (w.heap.size + 1) #[.int .i64 0, .int .i64 0, .int .i64 0, .int .i64 0, .slice none 0 0] 30 ∧ Below w.heap.size w W2 ∧ W2.heap.size = w.heap.size + 2 := by
    have hz : W1.heap.size = w.heap.size + 1 := by rw [← hW1]; simp
    exact ⟨_, rfl, X1.alloc _, blk_new _ _ _ _ hz.symm, B1.alloc (by omega) _, by simp [hz]⟩
  have hsz : W1.heap.size = w.heap.size + 1 := by rw [← hW1]; simp
  have L2 := h.below B2
  have h1 := h.one
  have hln := h.inv.len
  have HLw : Hid _ := fun wx (hb : Below w.heap.size w wx) => h.below hb
  have HNow : Hid _ := fun wx (hb : Below w.heap.size w wx) => now_ref wx (h.below hb)
  unfold rfV at HNow
  rw [show rfA a R g cap = #[.int .i64 a.supply, .int .i64 a.start, .int .i64 a.step, .int .i64 a.state, .slice (some ⟨g, 0, none⟩) R cap] from rfl] at HNow
  obtain ⟨uc, ucp, hus, _⟩ := h.now
  rw [tab_len] at hus
  rw [hus] at HNow
  have HUS : Hid _ := hus
  clear hus
  have H0 : Hid _ := h0
  have d0 : (a.state == 0) = true := by simpa using h0
  have c0 : W2.cell? ⟨w.heap.size, 0, none⟩ = some (.int .i64 a.supply) := X2.cell rfl
  have c1 : W2.cell? ⟨w.heap.size, 1, none⟩ = some (.int .i64 a.start) := X2.cell rfl
  have c2 : W2.cell? ⟨w.heap.size, 2, none⟩ = some (.int .i64 a.step) := X2.cell rfl
  have c3 : W2.cell? ⟨w.heap.size, 3, none⟩ = some (.int .i64 (a.state)) := X2.cell rfl
  have c4 : W2.cell? ⟨w.heap.size, 4, none⟩ = some (.slice (some ⟨g, 0, none⟩) R cap) := X2.cell rfl
  have d1 : decide (who < 0) = false := decide_eq_false hb
  have d2 : decide ((a.ds.length : Int) ≤ who) = false := decide_eq_false hd
  have d3 : decide (n < 0) = false := decide_eq_false he
  have d4 : decide (1048576 < n) = true := decide_eq_true hc
  clear h L2 X1 h0
  unfold rfV
  rw [show rfA a R g cap = #[.int .i64 a.supply, .int .i64 a.start, .int .i64 a.step, .int .i64 a.state, .slice (some ⟨g, 0, none⟩) R cap] from rfl]
  go_enter Try.func16, Try.ntmps16
  go_wp2_with fail
  refine Calls.mono (HNow.out W2 B2) ?_
  rintro e w4 ⟨rfl, b4⟩
  have X4 := X2.below b4
  have Y4 := Y2.below b4
  have B4 : Below w.heap.size w w4 := B2.trans (b4.mono B2.size)
  have e0 : w4.cell? ⟨w.heap.size, 0, none⟩ = some (.int .i64 a.supply) := X4.cell rfl
  have e1 : w4.cell? ⟨w.heap.size, 1, none⟩ = some (.int .i64 a.start) := X4.cell rfl
  have e2 : w4.cell? ⟨w.heap.size, 2, none⟩ = some (.int .i64 a.step) := X4.cell rfl
  have e3 : w4.cell? ⟨w.heap.size, 3, none⟩ = some (.int .i64 (a.state)) := X4.cell rfl
  have e4 : w4.cell? ⟨w.heap.size, 4, none⟩ = some (.slice (some ⟨g, 0, none⟩) R cap) := X4.cell rfl
  obtain ⟨W6, hW6, Y6, B6⟩ : ∃ W6, w4.setRow (w.heap.size + 1) (rfA a R g cap) = W6 ∧ Blk W6 (w.heap.size + 1) (rfA a R g cap) 30 ∧ Below w.heap.size w W6 := ⟨_, rfl, Y4.setRow _, below_setRow B4 _ _ (by omega)⟩
  go_wp2_with ((with_reducible refine st_row (ty := 30) (cs' := rfA a R g cap) Y4 (rf_info _ _ _ _) (rf_same _ _ _ _) (rf_one _ _ _ _) hW6 ?_ ?_ ?_); rfl; rfl)
  have s0 : W6.cell? ⟨w.heap.size + 1, 0, none⟩ = some (.int .i64 (a.supply)) := Y6.cell rfl
  have s1 : W6.cell? ⟨w.heap.size + 1, 1, none⟩ = some (.int .i64 (a.start)) := Y6.cell rfl
  have s2 : W6.cell? ⟨w.heap.size + 1, 2, none⟩ = some (.int .i64 (a.step)) := Y6.cell rfl
  have s3 : W6.cell? ⟨w.heap.size + 1, 3, none⟩ = some (.int .i64 (a.state)) := Y6.cell rfl
  have s4 : W6.cell? ⟨w.heap.size + 1, 4, none⟩ = some (.slice (some ⟨g, 0, none⟩) R cap) := Y6.cell rfl
  try simp only [Exit.inBlock, Exit.then]
  refine bodyPost_ret (by simp [results, Try.results16, go_sem, s0, s1, s2, s3, s4]; rfl) rfl ?_
  exact ⟨rfl, HLw.out W6 B6, B6⟩

set_option maxRecDepth 100000 in
set_option maxHeartbeats 4000000 in
theorem bid_rise (w : World) (h : Rf w a R g cap rs) (who n : Int) (h0 : a.state = 0) (hw : 0 ≤ who ∧ who < a.ds.length) (hn : 0 ≤ n ∧ n ≤ 1048576) (hr : 1 < a.round) (hx : wasOf a.ds who.toNat < n) : Calls Try.prog 16 #[rfV a R g cap, .int .i64 who, .int .i64 n] w fun e w' => e = .returned (.tuple #[rfV a R g cap, .int .i64 71]) ∧ Rf w' a R g cap rs ∧ Below w.heap.size w w' := by
  obtain ⟨W1, hW1, X1, B1⟩ := rf_box w a R g cap
  obtain ⟨W2, hW2, X2, Y2, B2, Z2⟩ : ∃ W2, W1.alloc (.cells #[.int .i64 0, .int .i64 0, .int .i64 0, .int .i64 0, .slice none 0 0] 30) = W2 ∧ Blk W2 w.heap.size (rfA a R g cap) 30 ∧ Blk W2 (w.heap.size + 1) #[.int .i64 0, .int .i64 0, .int .i64 0, .int .i64 0, .slice none 0 0] 30 ∧ Below w.heap.size w W2 ∧ W2.heap.size = w.heap.size + 2 := by
    have hz : W1.heap.size = w.heap.size + 1 := by rw [← hW1]; simp
    exact ⟨_, rfl, X1.alloc _, blk_new _ _ _ _ hz.symm, B1.alloc (by omega) _, by simp [hz]⟩
  have hsz : W1.heap.size = w.heap.size + 1 := by rw [← hW1]; simp
  have L2 := h.below B2
  have h1 := h.one
  have hln := h.inv.len
  have HLw : Hid _ := fun wx (hb : Below w.heap.size w wx) => h.below hb
  have HNow : Hid _ := fun wx (hb : Below w.heap.size w wx) => now_ref wx (h.below hb)
  unfold rfV at HNow
  rw [show rfA a R g cap = #[.int .i64 a.supply, .int .i64 a.start, .int .i64 a.step, .int .i64 a.state, .slice (some ⟨g, 0, none⟩) R cap] from rfl] at HNow
  obtain ⟨uc, ucp, hus, _⟩ := h.now
  rw [tab_len] at hus
  rw [hus] at HNow
  have HUS : Hid _ := hus
  clear hus
  have H0 : Hid _ := h0
  have d0 : (a.state == 0) = true := by simpa using h0
  have c0 : W2.cell? ⟨w.heap.size, 0, none⟩ = some (.int .i64 a.supply) := X2.cell rfl
  have c1 : W2.cell? ⟨w.heap.size, 1, none⟩ = some (.int .i64 a.start) := X2.cell rfl
  have c2 : W2.cell? ⟨w.heap.size, 2, none⟩ = some (.int .i64 a.step) := X2.cell rfl
  have c3 : W2.cell? ⟨w.heap.size, 3, none⟩ = some (.int .i64 (a.state)) := X2.cell rfl
  have c4 : W2.cell? ⟨w.heap.size, 4, none⟩ = some (.slice (some ⟨g, 0, none⟩) R cap) := X2.cell rfl
  have d1 : decide (who < 0) = false := decide_eq_false (by omega)
  have d2 : decide ((a.ds.length : Int) ≤ who) = false := decide_eq_false (by omega)
  have d3 : decide (n < 0) = false := decide_eq_false (by omega)
  have d4 : decide (1048576 < n) = false := decide_eq_false (by omega)
  obtain ⟨i, rfl⟩ := Int.eq_ofNat_of_zero_le hw.1
  have hi : i < a.ds.length := by omega
  rw [Int.toNat_natCast] at *
  have HWas : Hid _ := fun wx (hb : Below w.heap.size w wx) => was_ref wx (h.below hb) i hi
  unfold rfV at HWas
  rw [show rfA a R g cap = #[.int .i64 a.supply, .int .i64 a.start, .int .i64 a.step, .int .i64 a.state, .slice (some ⟨g, 0, none⟩) R cap] from rfl] at HWas
  have d5 : decide (1 < (R : Int)) = true := decide_eq_true (by rw [h.rd] at hr; exact hr)
  have d6 : decide (wasOf a.ds i < n) = true := decide_eq_true hx
  clear h L2 X1 h0 hr
  unfold rfV
  rw [show rfA a R g cap = #[.int .i64 a.supply, .int .i64 a.start, .int .i64 a.step, .int .i64 a.state, .slice (some ⟨g, 0, none⟩) R cap] from rfl]
  go_enter Try.func16, Try.ntmps16
  go_wp2_with fail
  refine Calls.mono (HNow.out W2 B2) ?_
  rintro e w4 ⟨rfl, b4⟩
  have X4 := X2.below b4
  have Y4 := Y2.below b4
  have B4 : Below w.heap.size w w4 := B2.trans (b4.mono B2.size)
  have m0 : w4.cell? ⟨w.heap.size, 0, none⟩ = some (.int .i64 a.supply) := X4.cell rfl
  have m1 : w4.cell? ⟨w.heap.size, 1, none⟩ = some (.int .i64 a.start) := X4.cell rfl
  have m2 : w4.cell? ⟨w.heap.size, 2, none⟩ = some (.int .i64 a.step) := X4.cell rfl
  have m3 : w4.cell? ⟨w.heap.size, 3, none⟩ = some (.int .i64 (a.state)) := X4.cell rfl
  have m4 : w4.cell? ⟨w.heap.size, 4, none⟩ = some (.slice (some ⟨g, 0, none⟩) R cap) := X4.cell rfl
  go_wp2_with fail
  refine Calls.mono (HWas.out w4 B4) ?_
  rintro e w5 ⟨rfl, b5⟩
  have X5 := X4.below b5
  have Y5 := Y4.below b5
  have B5 : Below w.heap.size w w5 := B4.trans (b5.mono B4.size)
  have e0 : w5.cell? ⟨w.heap.size, 0, none⟩ = some (.int .i64 a.supply) := X5.cell rfl
  have e1 : w5.cell? ⟨w.heap.size, 1, none⟩ = some (.int .i64 a.start) := X5.cell rfl
  have e2 : w5.cell? ⟨w.heap.size, 2, none⟩ = some (.int .i64 a.step) := X5.cell rfl
  have e3 : w5.cell? ⟨w.heap.size, 3, none⟩ = some (.int .i64 (a.state)) := X5.cell rfl
  have e4 : w5.cell? ⟨w.heap.size, 4, none⟩ = some (.slice (some ⟨g, 0, none⟩) R cap) := X5.cell rfl
  obtain ⟨W6, hW6, Y6, B6⟩ : ∃ W6, w5.setRow (w.heap.size + 1) (rfA a R g cap) = W6 ∧ Blk W6 (w.heap.size + 1) (rfA a R g cap) 30 ∧ Below w.heap.size w W6 := ⟨_, rfl, Y5.setRow _, below_setRow B5 _ _ (by omega)⟩
  go_wp2_with ((with_reducible refine st_row (ty := 30) (cs' := rfA a R g cap) Y5 (rf_info _ _ _ _) (rf_same _ _ _ _) (rf_one _ _ _ _) hW6 ?_ ?_ ?_); rfl; rfl)
  have s0 : W6.cell? ⟨w.heap.size + 1, 0, none⟩ = some (.int .i64 (a.supply)) := Y6.cell rfl
  have s1 : W6.cell? ⟨w.heap.size + 1, 1, none⟩ = some (.int .i64 (a.start)) := Y6.cell rfl
  have s2 : W6.cell? ⟨w.heap.size + 1, 2, none⟩ = some (.int .i64 (a.step)) := Y6.cell rfl
  have s3 : W6.cell? ⟨w.heap.size + 1, 3, none⟩ = some (.int .i64 (a.state)) := Y6.cell rfl
  have s4 : W6.cell? ⟨w.heap.size + 1, 4, none⟩ = some (.slice (some ⟨g, 0, none⟩) R cap) := Y6.cell rfl
  try simp only [Exit.inBlock, Exit.then]
  refine bodyPost_ret (by simp [results, Try.results16, go_sem, s0, s1, s2, s3, s4]; rfl) rfl ?_
  exact ⟨rfl, HLw.out W6 B6, B6⟩
end Go.Proofs.Yteinfckkpkbnlaa
