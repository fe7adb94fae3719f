/- Reading requests. -/
import Derived.Test.YtgofjheoebabeaaGreatDoorHn05
namespace Go.Proofs.YtgofjheoebabeaaGreatDoor
open Go.RowKit
set_option linter.unusedVariables false
set_option linter.unusedSimpArgs false

theorem run_store_float (P : Program) (w : World) (a : Addr) (k : FloatKind) (n : Nat) (m : Mode) : (store a (.float k n) m).run P w = stored P w a (.float k n) m := run_store P w a _ m rfl
attribute [go_sem] run_store_float
theorem wraps64 (n : Int) (h₀ : 0 ≤ n) (h₁ : n < 2 ^ 64) : IntKind.u64.wrap n = n := by rw [IntKind.wrap_u64]; omega
theorem or8 (m c k : Nat) (hk : k ≤ 7) (hm : m < 256 ^ k) (hc : c < 256) :
    bits .or .u64 (m : Int) (IntKind.u64.wrap (IntKind.u64.wrap (c : Int) * 2 ^ (8 * k))) = ((m + c * 256 ^ k : Nat) : Int) := by
  have hp : (256 : Nat) ^ k ≤ 256 ^ 7 := Nat.pow_le_pow_right (by decide) hk
  have h7 : (256 : Nat) ^ 7 = 72057594037927936 := by decide
  have hcm : c * 256 ^ k ≤ 255 * 256 ^ 7 := Nat.mul_le_mul (by omega) hp
  rw [wraps64 (c : Int) (by omega) (by omega)]
  have e2 : (c : Int) * 2 ^ (8 * k) = ((c * 256 ^ k : Nat) : Int) := by rw [pow256]; simp
  rw [e2, wraps64 _ (by omega) (by omega), (bits_nat .u64 64 (by decide) wraps64 m _ (by omega) (by omega)).2, Nat.or_comm]
  have hmod : (c * 256 ^ k) % 2 ^ (8 * k) = 0 := by rw [pow256]; exact Nat.mul_mod_left _ _
  rw [nat_join (8 * k) _ m hmod (by rw [← pow256]; exact hm)]
  congr 1; omega

set_option maxRecDepth 100000 in
set_option maxHeartbeats 1000000 in
theorem price_calls (b : Nat) (s : ByteArray) (a : Nat) (w : World) (hr : Rdr w b s a) (hs : s.size ≤ maxLen) (ha : a ≤ s.size) :
    Calls Tryz.prog 76 #[.pointer (some ⟨b, 0, none⟩)] w (Reads (rd8 s a) (fun n => .float .f64 n) b s w) := by
  go_enter Tryz.func76, Tryz.ntmps76
  go_wp2
  go_loopw [3, 5] (fun n i w1 => ∃ k : Nat, k ≤ 8 ∧ i = .int .i64 k ∧ n = .int .u64 (leSum s a k) ∧ a + k ≤ s.size ∧ Off b w w1 ∧ Rdr w1 b s ((a + k : Nat) : Int)) (fun _ i _ => 8 - (intOf i).toNat)
  case atStart => exact ⟨0, Nat.zero_le _, rfl, rfl, by omega, Off.refl _ _, hr⟩
  case round =>
    obtain ⟨k, hk, rfl, rfl, hak, ho, hrd⟩ := hrel
    by_cases hk8 : k < 8
    · have hd : decide ((k : Int) < 8) = true := by simp only [decide_eq_true_eq]; omega
      by_cases hlt : a + k < s.size
      · have hnx := next_ok b s (a + k) wr hrd hs hlt
        have hba : byteAt s (a + k) = s[a + k].toNat := by unfold byteAt; rw [dif_pos hlt]
        rw [← hba] at hnx
        clear hba
        go_wp2_with fail
        refine hnx.mono ?_
        rintro e w1 ⟨rfl, ho1, hr1⟩
        go_wp2
        refine ⟨⟨k + 1, by omega, by go_num, ?_, by omega, ho.trans ho1, hr1⟩, by simp [intOf]; omega⟩
        rw [or8 _ _ k (by omega) (leSum_lt s a k) (byteAt_lt s _)]
        rfl
      · have hfin : Hid (rd8 s a = .error 10) := by show _ = _; unfold rd8; rw [if_pos (by omega)]
        go_wp2_with fail
        refine (next_short b s (a + k) _ hrd hlt).mono ?_
        rintro e w1 ⟨rfl, ho1⟩
        exact ⟨rfl, by unfold Reads; rw [hfin.out]; exact ⟨rfl, ho.trans ho1⟩⟩
    · have hd : decide ((k : Int) < 8) = false := by simp only [decide_eq_false_iff_not]; omega
      have e8 : k = 8 := by omega
      subst e8
      have hfin : Hid (rd8 s a = .ok (leSum s a 8, a + 8)) := by show _ = _; unfold rd8; rw [if_neg (by omega)]
      have hff := run_f64from (leSum s a 8)
      go_wp2
      go_ret
      unfold Reads
      rw [hfin.out]
      exact ⟨rfl, ho, hrd⟩

theorem Blk.drewO {w : World} {k : Nat} {cs : Array Value} {t : TypeId} (h : Blk w k cs t) : Blk w.drew k cs t := h

abbrev zOp : Obj := .cells #[.int .i64 0, .int .i64 0, .int .i64 0, .int .i64 0, .int .i64 0, .float .f64 0] 70


theorem opOut {wr : World} {k : Nat} {z0 z1 z2 z3 z4 z5 c0 c1 c2 c3 c4 c5 : Value} (Y : Blk wr k #[z0, z1, z2, z3, z4, z5] 70) : ∃ W, ((((((wr.setCell ⟨k, 0, none⟩ c0).setCell ⟨k, 1, none⟩ c1).setCell ⟨k, 2, none⟩ c2).setCell ⟨k, 3, none⟩ c3).setCell ⟨k, 4, none⟩ c4).setCell ⟨k, 5, none⟩ c5) = W ∧ Blk W k #[c0, c1, c2, c3, c4, c5] 70 ∧
    (∀ B w0, B ≤ k → Below B w0 wr → Below B w0 W) ∧ (∀ b s a, k ≠ b → Rdr wr b s a → Rdr W b s a) ∧ (∀ b (x : World), x.heap.size ≤ k → Off b x wr → Off b x W) ∧ (∀ j cs t, j ≠ k → Blk wr j cs t → Blk W j cs t) := by
  refine ⟨_, rfl, ?_, fun B w0 hB h => ?_, fun b s a hb h => ?_, fun b x hx h => ?_, fun j cs t hj h => ?_⟩
  · have hy := ((((((Y.set 0 c0).set 1 c1).set 2 c2).set 3 c3).set 4 c4).set 5 c5)
    simpa using hy
  · exact ((((((h.setCell (p := ⟨k, 0, none⟩) hB _).setCell (p := ⟨k, 1, none⟩) hB _).setCell (p := ⟨k, 2, none⟩) hB _).setCell (p := ⟨k, 3, none⟩) hB _).setCell (p := ⟨k, 4, none⟩) hB _).setCell (p := ⟨k, 5, none⟩) hB _)
  · exact ((((((h.setOther (p := ⟨k, 0, none⟩) hb _).setOther (p := ⟨k, 1, none⟩) hb _).setOther (p := ⟨k, 2, none⟩) hb _).setOther (p := ⟨k, 3, none⟩) hb _).setOther (p := ⟨k, 4, none⟩) hb _).setOther (p := ⟨k, 5, none⟩) hb _)
  · exact (Off.own (Off.own (Off.own (Off.own (Off.own (Off.own h (p := ⟨k, 0, none⟩) hx _) (p := ⟨k, 1, none⟩) hx _) (p := ⟨k, 2, none⟩) hx _) (p := ⟨k, 3, none⟩) hx _) (p := ⟨k, 4, none⟩) hx _) (p := ⟨k, 5, none⟩) hx _)
  · exact ((((((h.setOther (p := ⟨k, 0, none⟩) hj _).setOther (p := ⟨k, 1, none⟩) hj _).setOther (p := ⟨k, 2, none⟩) hj _).setOther (p := ⟨k, 3, none⟩) hj _).setOther (p := ⟨k, 4, none⟩) hj _).setOther (p := ⟨k, 5, none⟩) hj _)

set_option maxRecDepth 100000 in
set_option maxHeartbeats 2000000 in
theorem opRd_calls (b : Nat) (s : ByteArray) (a : Nat) (w : World) (hr : Rdr w b s a) (hs : s.size ≤ maxLen) (ha : a ≤ s.size) :
    Calls Tryz.prog 54 #[.pointer (some ⟨b, 0, none⟩)] w (Reads (rdOp s a) Oo.val b s w) := by
  have hb := hr.lt
  have hr0 := (hr.alloc zOp).alloc zOp
  have O0 := ((Off.refl b w).alloc zOp).alloc zOp
  have X0 := blk_new (w.alloc zOp) (w.heap.size + 1) #[.int .i64 0, .int .i64 0, .int .i64 0, .int .i64 0, .int .i64 0, .float .f64 0] 70 (by simp)
  have Y0 := (blk_new w w.heap.size #[.int .i64 0, .int .i64 0, .int .i64 0, .int .i64 0, .int .i64 0, .float .f64 0] 70 rfl).alloc zOp
  have hn := number_calls b s a _ hr0 hs ha
  go_enter Tryz.func54, Tryz.ntmps54
  go_wp2_with fail
  refine hn.mono ?_
  clear hn
  cases h0 : rdInt s a with
  | error er =>
    have hfin : Hid (rdOp s a = .error er) := by show _ = _; unfold rdOp; rw [h0]
    rintro e wx ⟨rfl, ho⟩
    exact ⟨rfl, by unfold Reads; rw [hfin.out]; exact ⟨rfl, O0.trans ho⟩⟩
  | ok q0 =>
  obtain ⟨n0, a1⟩ := q0
  have l0 := rdInt_le h0
  rintro e w0 ⟨rfl, ho0, hr0'⟩
  have XX0 := X0.off ho0 (by omega)
  have YY0 := Y0.off ho0 (by omega)
  have OO0 := O0.trans ho0
  have c0 := XX0.cell (o := 0) rfl
  have f0 := XX0.frozen (o := 0)
  obtain ⟨W0, hW0, X1, Y1, R1, O1⟩ : ∃ W, (w0.setCell ⟨w.heap.size + 1, 0, none⟩ (.int .i64 n0)) = W ∧ Blk W (w.heap.size + 1) #[.int .i64 n0, .int .i64 0, .int .i64 0, .int .i64 0, .int .i64 0, .float .f64 0] 70 ∧ Blk W w.heap.size #[.int .i64 0, .int .i64 0, .int .i64 0, .int .i64 0, .int .i64 0, .float .f64 0] 70 ∧ Rdr W b s a1 ∧ Off b w W := by
    refine ⟨_, rfl, ?_, ?_, ?_, ?_⟩
    · have hx := XX0.set 0 (.int .i64 n0)
      simpa using hx
    · exact YY0.setOther (p := ⟨w.heap.size + 1, 0, none⟩) (by simp) _
    · exact hr0'.setOther (p := ⟨w.heap.size + 1, 0, none⟩) (by simp; omega) _
    · exact Off.own OO0 (p := ⟨w.heap.size + 1, 0, none⟩) (by simp) _
  have hc := number_calls b s a1 W0 R1 hs l0.2.1
  go_wp2_with fail
  refine hc.mono ?_
  clear hW0 c0 f0 XX0 YY0 OO0 ho0 hr0' hc X0 Y0 O0
  cases h1 : rdInt s a1 with
  | error er =>
    have hfin : Hid (rdOp s a = .error er) := by show _ = _; unfold rdOp; rw [h0]; simp only [rdOp1]; rw [h1]
    rintro e wx ⟨rfl, ho⟩
    exact ⟨rfl, by unfold Reads; rw [hfin.out]; exact ⟨rfl, O1.trans ho⟩⟩
  | ok q1 =>
  obtain ⟨n1, a2⟩ := q1
  have l1 := rdInt_le h1
  rintro e w1 ⟨rfl, ho1, hr1'⟩
  have XX1 := X1.off ho1 (by omega)
  have YY1 := Y1.off ho1 (by omega)
  have OO1 := O1.trans ho1
  have c1 := XX1.cell (o := 1) rfl
  have f1 := XX1.frozen (o := 1)
  obtain ⟨W1, hW1, X2, Y2, R2, O2⟩ : ∃ W, (w1.setCell ⟨w.heap.size + 1, 1, none⟩ (.int .i64 n1)) = W ∧ Blk W (w.heap.size + 1) #[.int .i64 n0, .int .i64 n1, .int .i64 0, .int .i64 0, .int .i64 0, .float .f64 0] 70 ∧ Blk W w.heap.size #[.int .i64 0, .int .i64 0, .int .i64 0, .int .i64 0, .int .i64 0, .float .f64 0] 70 ∧ Rdr W b s a2 ∧ Off b w W := by
    refine ⟨_, rfl, ?_, ?_, ?_, ?_⟩
    · have hx := XX1.set 1 (.int .i64 n1)
      simpa using hx
    · exact YY1.setOther (p := ⟨w.heap.size + 1, 1, none⟩) (by simp) _
    · exact hr1'.setOther (p := ⟨w.heap.size + 1, 1, none⟩) (by simp; omega) _
    · exact Off.own OO1 (p := ⟨w.heap.size + 1, 1, none⟩) (by simp) _
  have hc := number_calls b s a2 W1 R2 hs l1.2.1
  go_wp2_with fail
  refine hc.mono ?_
  clear hW1 c1 f1 XX1 YY1 OO1 ho1 hr1' hc X1 Y1 O1 R1
  cases h2 : rdInt s a2 with
  | error er =>
    have hfin : Hid (rdOp s a = .error er) := by show _ = _; unfold rdOp; rw [h0]; simp only [rdOp1]; rw [h1]; simp only [rdOp2]; rw [h2]
    rintro e wx ⟨rfl, ho⟩
    exact ⟨rfl, by unfold Reads; rw [hfin.out]; exact ⟨rfl, O2.trans ho⟩⟩
  | ok q2 =>
  obtain ⟨n2, a3⟩ := q2
  have l2 := rdInt_le h2
  rintro e w2 ⟨rfl, ho2, hr2'⟩
  have XX2 := X2.off ho2 (by omega)
  have YY2 := Y2.off ho2 (by omega)
  have OO2 := O2.trans ho2
  have c2 := XX2.cell (o := 2) rfl
  have f2 := XX2.frozen (o := 2)
  obtain ⟨W2, hW2, X3, Y3, R3, O3⟩ : ∃ W, (w2.setCell ⟨w.heap.size + 1, 2, none⟩ (.int .i64 n2)) = W ∧ Blk W (w.heap.size + 1) #[.int .i64 n0, .int .i64 n1, .int .i64 n2, .int .i64 0, .int .i64 0, .float .f64 0] 70 ∧ Blk W w.heap.size #[.int .i64 0, .int .i64 0, .int .i64 0, .int .i64 0, .int .i64 0, .float .f64 0] 70 ∧ Rdr W b s a3 ∧ Off b w W := by
    refine ⟨_, rfl, ?_, ?_, ?_, ?_⟩
    · have hx := XX2.set 2 (.int .i64 n2)
      simpa using hx
    · exact YY2.setOther (p := ⟨w.heap.size + 1, 2, none⟩) (by simp) _
    · exact hr2'.setOther (p := ⟨w.heap.size + 1, 2, none⟩) (by simp; omega) _
    · exact Off.own OO2 (p := ⟨w.heap.size + 1, 2, none⟩) (by simp) _
  have hc := number_calls b s a3 W2 R3 hs l2.2.1
  go_wp2_with fail
  refine hc.mono ?_
  clear hW2 c2 f2 XX2 YY2 OO2 ho2 hr2' hc X2 Y2 O2 R2
  cases h3 : rdInt s a3 with
  | error er =>
    have hfin : Hid (rdOp s a = .error er) := by show _ = _; unfold rdOp; rw [h0]; simp only [rdOp1]; rw [h1]; simp only [rdOp2]; rw [h2]; simp only [rdOp3]; rw [h3]
    rintro e wx ⟨rfl, ho⟩
    exact ⟨rfl, by unfold Reads; rw [hfin.out]; exact ⟨rfl, O3.trans ho⟩⟩
  | ok q3 =>
  obtain ⟨n3, a4⟩ := q3
  have l3 := rdInt_le h3
  rintro e w3 ⟨rfl, ho3, hr3'⟩
  have XX3 := X3.off ho3 (by omega)
  have YY3 := Y3.off ho3 (by omega)
  have OO3 := O3.trans ho3
  have c3 := XX3.cell (o := 3) rfl
  have f3 := XX3.frozen (o := 3)
  obtain ⟨W3, hW3, X4, Y4, R4, O4⟩ : ∃ W, (w3.setCell ⟨w.heap.size + 1, 3, none⟩ (.int .i64 n3)) = W ∧ Blk W (w.heap.size + 1) #[.int .i64 n0, .int .i64 n1, .int .i64 n2, .int .i64 n3, .int .i64 0, .float .f64 0] 70 ∧ Blk W w.heap.size #[.int .i64 0, .int .i64 0, .int .i64 0, .int .i64 0, .int .i64 0, .float .f64 0] 70 ∧ Rdr W b s a4 ∧ Off b w W := by
    refine ⟨_, rfl, ?_, ?_, ?_, ?_⟩
    · have hx := XX3.set 3 (.int .i64 n3)
      simpa using hx
    · exact YY3.setOther (p := ⟨w.heap.size + 1, 3, none⟩) (by simp) _
    · exact hr3'.setOther (p := ⟨w.heap.size + 1, 3, none⟩) (by simp; omega) _
    · exact Off.own OO3 (p := ⟨w.heap.size + 1, 3, none⟩) (by simp) _
  have hc := number_calls b s a4 W3 R4 hs l3.2.1
  go_wp2_with fail
  refine hc.mono ?_
  clear hW3 c3 f3 XX3 YY3 OO3 ho3 hr3' hc X3 Y3 O3 R3
  cases h4 : rdInt s a4 with
  | error er =>
    have hfin : Hid (rdOp s a = .error er) := by show _ = _; unfold rdOp; rw [h0]; simp only [rdOp1]; rw [h1]; simp only [rdOp2]; rw [h2]; simp only [rdOp3]; rw [h3]; simp only [rdOp4]; rw [h4]
    rintro e wx ⟨rfl, ho⟩
    exact ⟨rfl, by unfold Reads; rw [hfin.out]; exact ⟨rfl, O4.trans ho⟩⟩
  | ok q4 =>
  obtain ⟨n4, a5⟩ := q4
  have l4 := rdInt_le h4
  rintro e w4 ⟨rfl, ho4, hr4'⟩
  have XX4 := X4.off ho4 (by omega)
  have YY4 := Y4.off ho4 (by omega)
  have OO4 := O4.trans ho4
  have c4 := XX4.cell (o := 4) rfl
  have f4 := XX4.frozen (o := 4)
  obtain ⟨W4, hW4, X5, Y5, R5, O5⟩ : ∃ W, (w4.setCell ⟨w.heap.size + 1, 4, none⟩ (.int .i64 n4)) = W ∧ Blk W (w.heap.size + 1) #[.int .i64 n0, .int .i64 n1, .int .i64 n2, .int .i64 n3, .int .i64 n4, .float .f64 0] 70 ∧ Blk W w.heap.size #[.int .i64 0, .int .i64 0, .int .i64 0, .int .i64 0, .int .i64 0, .float .f64 0] 70 ∧ Rdr W b s a5 ∧ Off b w W := by
    refine ⟨_, rfl, ?_, ?_, ?_, ?_⟩
    · have hx := XX4.set 4 (.int .i64 n4)
      simpa using hx
    · exact YY4.setOther (p := ⟨w.heap.size + 1, 4, none⟩) (by simp) _
    · exact hr4'.setOther (p := ⟨w.heap.size + 1, 4, none⟩) (by simp; omega) _
    · exact Off.own OO4 (p := ⟨w.heap.size + 1, 4, none⟩) (by simp) _
  have hc := price_calls b s a5 W4 R5 hs l4.2.1
  go_wp2_with fail
  refine hc.mono ?_
  clear hW4 c4 f4 XX4 YY4 OO4 ho4 hr4' hc X4 Y4 O4 R4
  cases h5 : rd8 s a5 with
  | error er =>
    have hfin : Hid (rdOp s a = .error er) := by show _ = _; unfold rdOp; rw [h0]; simp only [rdOp1]; rw [h1]; simp only [rdOp2]; rw [h2]; simp only [rdOp3]; rw [h3]; simp only [rdOp4]; rw [h4]; simp only [rdOp5]; rw [h5]
    rintro e wx ⟨rfl, ho⟩
    exact ⟨rfl, by unfold Reads; rw [hfin.out]; exact ⟨rfl, O5.trans ho⟩⟩
  | ok q5 =>
  obtain ⟨p, a6⟩ := q5
  have hfin : Hid (rdOp s a = .ok (⟨n0, n1, n2, n3, n4, p⟩, a6)) := by show _ = _; unfold rdOp; rw [h0]; simp only [rdOp1]; rw [h1]; simp only [rdOp2]; rw [h2]; simp only [rdOp3]; rw [h3]; simp only [rdOp4]; rw [h4]; simp only [rdOp5]; rw [h5]
  clear h0 h1 h2 h3 h4 h5
  rintro e w5 ⟨rfl, ho5, hr5⟩
  have XX := X5.off ho5 (by omega)
  have YY := Y5.off ho5 (by omega)
  have OO := O5.trans ho5
  have c5 := XX.cell (o := 5) rfl
  have f5 := XX.frozen (o := 5)
  obtain ⟨W5, hW5, X6, Y6, R6, O6⟩ : ∃ W, (w5.setCell ⟨w.heap.size + 1, 5, none⟩ (.float .f64 p)) = W ∧ Blk W (w.heap.size + 1) #[.int .i64 n0, .int .i64 n1, .int .i64 n2, .int .i64 n3, .int .i64 n4, .float .f64 p] 70 ∧ Blk W w.heap.size #[.int .i64 0, .int .i64 0, .int .i64 0, .int .i64 0, .int .i64 0, .float .f64 0] 70 ∧ Rdr W b s a6 ∧ Off b w W := by
    refine ⟨_, rfl, ?_, ?_, ?_, ?_⟩
    · have hx := XX.set 5 (.float .f64 p)
      simpa using hx
    · exact YY.setOther (p := ⟨w.heap.size + 1, 5, none⟩) (by simp) _
    · exact hr5.setOther (p := ⟨w.heap.size + 1, 5, none⟩) (by simp; omega) _
    · exact Off.own OO (p := ⟨w.heap.size + 1, 5, none⟩) (by simp) _
  have x0 := X6.cell (o := 0) rfl
  have y0 := Y6.cell (o := 0) rfl
  have g0 := Y6.frozen (o := 0)
  have x1 := X6.cell (o := 1) rfl
  have y1 := Y6.cell (o := 1) rfl
  have g1 := Y6.frozen (o := 1)
  have x2 := X6.cell (o := 2) rfl
  have y2 := Y6.cell (o := 2) rfl
  have g2 := Y6.frozen (o := 2)
  have x3 := X6.cell (o := 3) rfl
  have y3 := Y6.cell (o := 3) rfl
  have g3 := Y6.frozen (o := 3)
  have x4 := X6.cell (o := 4) rfl
  have y4 := Y6.cell (o := 4) rfl
  have g4 := Y6.frozen (o := 4)
  have x5 := X6.cell (o := 5) rfl
  have y5 := Y6.cell (o := 5) rfl
  have g5 := Y6.frozen (o := 5)
  go_wp2
  obtain ⟨WE, hWE, YE, _, hRE, hOE, _⟩ := opOut (c0 := .int .i64 n0) (c1 := .int .i64 n1) (c2 := .int .i64 n2) (c3 := .int .i64 n3) (c4 := .int .i64 n4) (c5 := .float .f64 p) Y6
  rw [hWE]
  have z0 := YE.cell (o := 0) rfl
  have z1 := YE.cell (o := 1) rfl
  have z2 := YE.cell (o := 2) rfl
  have z3 := YE.cell (o := 3) rfl
  have z4 := YE.cell (o := 4) rfl
  have z5 := YE.cell (o := 5) rfl
  refine bodyPost_ret (v := Oo.val ⟨n0, n1, n2, n3, n4, p⟩) (by simp [results, Tryz.results54, go_sem, Oo.val, z0, z1, z2, z3, z4, z5]) rfl ?_
  unfold Reads
  rw [hfin.out]
  exact ⟨rfl, hOE _ _ (Nat.le_refl _) O6, hRE _ _ _ (by omega) R6⟩
end Go.Proofs.YtgofjheoebabeaaGreatDoor
