/- Reading requests. -/
import Derived.Test.YtpekfpfhonechaaGreatHw04
namespace Go.Proofs.YtpekfpfhonechaaGreat
open Go.RowKit
set_option linter.unusedVariables false
set_option linter.unusedSimpArgs false

theorem run_store_float (P : Program) (w : World) (a : Addr) (k : FloatKind) (n : Nat) (m : Mode) : (store a (.float k n) m).run P w = stored P w a (.float k n) m := run_store P w a _ m rfl
attribute [go_sem] run_store_float
theorem wraps64 (n : Int) (h₀ : 0 ≤ n) (h₁ : n < 2 ^ 64) : IntKind.u64.wrap n = n := by rw [IntKind.wrap_u64]; omega
theorem or8 (m c k : Nat) (hk : k ≤ 7) (hm : m < 256 ^ k) (hc : c < 256) :
    bits .or .u64 (m : Int) (IntKind.u64.wrap (IntKind.u64.wrap (c : Int) * 2 ^ (8 * k))) = ((m + c * 256 ^ k : Nat) : Int) := by
  have hp : (256 : Nat) ^ k ≤ 256 ^ 7 := Nat.pow_le_pow_right (by decide) hk
  have h7 : (256 : Nat) ^ 7 = 72057594037927936 := by decide
  have hcm : c * 256 ^ k ≤ 255 * 256 ^ 7 := Nat.mul_le_mul (by omega) hp
  rw [wraps64 (c : Int) (by omega) (by omega)]
  have e2 : (c : Int) * 2 ^ (8 * k) = ((c * 256 ^ k : Nat) : Int) := by rw [pow256]; simp
  rw [e2, wraps64 _ (by omega) (by omega), (bits_nat .u64 64 (by decide) wraps64 m _ (by omega) (by omega)).2, Nat.or_comm]
  have hmod : (c * 256 ^ k) % 2 ^ (8 * k) = 0 := by rw [pow256]; exact Nat.mul_mod_left _ _
  rw [nat_join (8 * k) _ m hmod (by rw [← pow256]; exact hm)]
  congr 1; omega

set_option maxRecDepth 100000 in
set_option maxHeartbeats 1000000 in
theorem price_calls (b : Nat) (s : ByteArray) (a : Nat) (w : World) (hr : Rdr w b s a) (hs : s.size ≤ maxLen) (ha : a ≤ s.size) :
    Calls Tryz.prog 67 #[.pointer (some ⟨b, 0, none⟩)] w (Reads (rd8 s a) (fun n => .float .f64 n) b s w) := by
  go_enter Tryz.func67, Tryz.ntmps67
  go_wp2
  go_loopw [3, 5] (fun n i w1 => ∃ k : Nat, k ≤ 8 ∧ i = .int .i64 k ∧ n = .int .u64 (leSum s a k) ∧ a + k ≤ s.size ∧ Off b w w1 ∧ Rdr w1 b s ((a + k : Nat) : Int)) (fun _ i _ => 8 - (intOf i).toNat)
  case atStart => exact ⟨0, Nat.zero_le _, rfl, rfl, by omega, Off.refl _ _, hr⟩
  case round =>
    obtain ⟨k, hk, rfl, rfl, hak, ho, hrd⟩ := hrel
    by_cases hk8 : k < 8
    · have hd : decide ((k : Int) < 8) = true := by simp only [decide_eq_true_eq]; omega
      by_cases hlt : a + k < s.size
      · have hnx := next_ok b s (a + k) wr hrd hs hlt
        have hba : byteAt s (a + k) = s[a + k].toNat := by unfold byteAt; rw [dif_pos hlt]
        rw [← hba] at hnx
        clear hba
        go_wp2_with fail
        refine hnx.mono ?_
        rintro e w1 ⟨rfl, ho1, hr1⟩
        go_wp2
        refine ⟨⟨k + 1, by omega, by go_num, ?_, by omega, ho.trans ho1, hr1⟩, by simp [intOf]; omega⟩
        rw [or8 _ _ k (by omega) (leSum_lt s a k) (byteAt_lt s _)]
        rfl
      · have hfin : Hid (rd8 s a = .error 10) := by show _ = _; unfold rd8; rw [if_pos (by omega)]
        go_wp2_with fail
        refine (next_short b s (a + k) _ hrd hlt).mono ?_
        rintro e w1 ⟨rfl, ho1⟩
        exact ⟨rfl, by unfold Reads; rw [hfin.out]; exact ⟨rfl, ho.trans ho1⟩⟩
    · have hd : decide ((k : Int) < 8) = false := by simp only [decide_eq_false_iff_not]; omega
      have e8 : k = 8 := by omega
      subst e8
      have hfin : Hid (rd8 s a = .ok (leSum s a 8, a + 8)) := by show _ = _; unfold rd8; rw [if_neg (by omega)]
      have hff := run_f64from (leSum s a 8)
      go_wp2
      go_ret
      unfold Reads
      rw [hfin.out]
      exact ⟨rfl, ho, hrd⟩

abbrev zOp : Obj := .cells #[.int .i64 0, .int .i64 0, .int .i64 0, .int .i64 0, .int .i64 0, .float .f64 0] 39


theorem opOut {wr : World} {k : Nat} {z0 z1 z2 z3 z4 z5 c0 c1 c2 c3 c4 c5 : Value} (Y : Blk wr k #[z0, z1, z2, z3, z4, z5] 39) : ∃ W, ((((((wr.setCell ⟨k, 0, none⟩ c0).setCell ⟨k, 1, none⟩ c1).setCell ⟨k, 2, none⟩ c2).setCell ⟨k, 3, none⟩ c3).setCell ⟨k, 4, none⟩ c4).setCell ⟨k, 5, none⟩ c5) = W ∧ Blk W k #[c0, c1, c2, c3, c4, c5] 39 ∧
    (∀ B w0, B ≤ k → Below B w0 wr → Below B w0 W) ∧ (∀ b s a, k ≠ b → Rdr wr b s a → Rdr W b s a) ∧ (∀ b (x : World), x.heap.size ≤ k → Off b x wr → Off b x W) ∧ (∀ j cs t, j ≠ k → Blk wr j cs t → Blk W j cs t) := by
  refine ⟨_, rfl, ?_, fun B w0 hB h => ?_, fun b s a hb h => ?_, fun b x hx h => ?_, fun j cs t hj h => ?_⟩
  · have hy := ((((((Y.set 0 c0).set 1 c1).set 2 c2).set 3 c3).set 4 c4).set 5 c5)
    simpa using hy
  · exact ((((((h.setCell (p := ⟨k, 0, none⟩) hB _).setCell (p := ⟨k, 1, none⟩) hB _).setCell (p := ⟨k, 2, none⟩) hB _).setCell (p := ⟨k, 3, none⟩) hB _).setCell (p := ⟨k, 4, none⟩) hB _).setCell (p := ⟨k, 5, none⟩) hB _)
  · exact ((((((h.setOther (p := ⟨k, 0, none⟩) hb _).setOther (p := ⟨k, 1, none⟩) hb _).setOther (p := ⟨k, 2, none⟩) hb _).setOther (p := ⟨k, 3, none⟩) hb _).setOther (p := ⟨k, 4, none⟩) hb _).setOther (p := ⟨k, 5, none⟩) hb _)
  · exact (Off.own (Off.own (Off.own (Off.own (Off.own (Off.own h (p := ⟨k, 0, none⟩) hx _) (p := ⟨k, 1, none⟩) hx _) (p := ⟨k, 2, none⟩) hx _) (p := ⟨k, 3, none⟩) hx _) (p := ⟨k, 4, none⟩) hx _) (p := ⟨k, 5, none⟩) hx _)
  · exact ((((((h.setOther (p := ⟨k, 0, none⟩) hj _).setOther (p := ⟨k, 1, none⟩) hj _).setOther (p := ⟨k, 2, none⟩) hj _).setOther (p := ⟨k, 3, none⟩) hj _).setOther (p := ⟨k, 4, none⟩) hj _).setOther (p := ⟨k, 5, none⟩) hj _)

set_option maxRecDepth 100000 in
set_option maxHeartbeats 2000000 in
theorem opRd_calls (b : Nat) (s : ByteArray) (a : Nat) (w : World) (hr : Rdr w b s a) (hs : s.size ≤ maxLen) (ha : a ≤ s.size) :
    Calls Tryz.prog 52 #[.pointer (some ⟨b, 0, none⟩)] w (Reads (rdOp s a) Oo.val b s w) := by
  have hb := hr.lt
  have hr0 := (hr.alloc zOp).alloc zOp
  have O0 := ((Off.refl b w).alloc zOp).alloc zOp
  have X0 := blk_new (w.alloc zOp) (w.heap.size + 1) #[.int .i64 0, .int .i64 0, .int .i64 0, .int .i64 0, .int .i64 0, .float .f64 0] 39 (by simp)
  have Y0 := (blk_new w w.heap.size #[.int .i64 0, .int .i64 0, .int .i64 0, .int .i64 0, .int .i64 0, .float .f64 0] 39 rfl).alloc zOp
  have hn := number_calls b s a _ hr0 hs ha
  go_enter Tryz.func52, Tryz.ntmps52
  go_wp2_with fail
  refine hn.mono ?_
  clear hn
  cases h0 : rdInt s a with
  | error er =>
    have hfin : Hid (rdOp s a = .error er) := by show _ = _; unfold rdOp; rw [h0]
    rintro e wx ⟨rfl, ho⟩
    exact ⟨rfl, by unfold Reads; rw [hfin.out]; exact ⟨rfl, O0.trans ho⟩⟩
  | ok q0 =>
  obtain ⟨n0, a1⟩ := q0
  have l0 := rdInt_le h0
  rintro e w0 ⟨rfl, ho0, hr0'⟩
  have XX0 := X0.off ho0 (by omega)
  have YY0 := Y0.off ho0 (by omega)
  have OO0 := O0.trans ho0
  have c0 := XX0.cell (o := 0) rfl
  have f0 := XX0.frozen (o := 0)
  obtain ⟨W0, hW0, X1, Y1, R1, O1⟩ : ∃ W, (w0.setCell ⟨w.heap.size + 1, 0, none⟩ (.int .i64 n0)) = W ∧ Blk W (w.heap.size + 1) #[.int .i64 n0, .int .i64 0, .int .i64 0, .int .i64 0, .int .i64 0, .float .f64 0] 39 ∧ Blk W w.heap.size #[.int .i64 0, .int .i64 0, .int .i64 0, .int .i64 0, .int .i64 0, .float .f64 0] 39 ∧ Rdr W b s a1 ∧ Off b w W := by
    refine ⟨_, rfl, ?_, ?_, ?_, ?_⟩
    · have hx := XX0.set 0 (.int .i64 n0)
      simpa using hx
    · exact YY0.setOther (p := ⟨w.heap.size + 1, 0, none⟩) (by simp) _
    · exact hr0'.setOther (p := ⟨w.heap.size + 1, 0, none⟩) (by simp; omega) _
    · exact Off.own OO0 (p := ⟨w.heap.size + 1, 0, none⟩) (by simp) _
  have hc := number_calls b s a1 W0 R1 hs l0.2.1
  go_wp2_with fail
  refine hc.mono ?_
  clear hW0 c0 f0 XX0 YY0 OO0 ho0 hr0' hc X0 Y0 O0
  cases h1 : rdInt s a1 with
  | error er =>
    have hfin : Hid (rdOp s a = .error er) := by show _ = _; unfold rdOp; rw [h0]; simp only [rdOp1]; rw [h1]
    rintro e wx ⟨rfl, ho⟩
    exact ⟨rfl, by unfold Reads; rw [hfin.out]; exact ⟨rfl, O1.trans ho⟩⟩
  | ok q1 =>
  obtain ⟨n1, a2⟩ := q1
  have l1 := rdInt_le h1
  rintro e w1 ⟨rfl, ho1, hr1'⟩
  have XX1 := X1.off ho1 (by omega)
  have YY1 := Y1.off ho1 (by omega)
  have OO1 := O1.trans ho1
  have c1 := XX1.cell (o := 1) rfl
  have f1 := XX1.frozen (o := 1)
  obtain ⟨W1, hW1, X2, Y2, R2, O2⟩ : ∃ W, (w1.setCell ⟨w.heap.size + 1, 1, none⟩ (.int .i64 n1)) = W ∧ Blk W (w.heap.size + 1) #[.int .i64 n0, .int .i64 n1, .int .i64 0, .int .i64 0, .int .i64 0, .float .f64 0] 39 ∧ Blk W w.heap.size #[.int .i64 0, .int .i64 0, .int .i64 0, .int .i64 0, .int .i64 0, .float .f64 0] 39 ∧ Rdr W b s a2 ∧ Off b w W := by
    refine ⟨_, rfl, ?_, ?_, ?_, ?_⟩
    · have hx := XX1.set 1 (.int .i64 n1)
      simpa using hx
    · exact YY1.setOther (p := ⟨w.heap.size + 1, 1, none⟩) (by simp) _
    · exact hr1'.setOther (p := ⟨w.heap.size + 1, 1, none⟩) (by simp; omega) _
    · exact Off.own OO1 (p := ⟨w.heap.size + 1, 1, none⟩) (by simp) _
  have hc := number_calls b s a2 W1 R2 hs l1.2.1
  go_wp2_with fail
  refine hc.mono ?_
  clear hW1 c1 f1 XX1 YY1 OO1 ho1 hr1' hc X1 Y1 O1 R1
  cases h2 : rdInt s a2 with
  | error er =>
    have hfin : Hid (rdOp s a = .error er) := by show _ = _; unfold rdOp; rw [h0]; simp only [rdOp1]; rw [h1]; simp only [rdOp2]; rw [h2]
    rintro e wx ⟨rfl, ho⟩
    exact ⟨rfl, by unfold Reads; rw [hfin.out]; exact ⟨rfl, O2.trans ho⟩⟩
  | ok q2 =>
  obtain ⟨n2, a3⟩ := q2
  have l2 := rdInt_le h2
  rintro e w2 ⟨rfl, ho2, hr2'⟩
  have XX2 := X2.off ho2 (by omega)
  have YY2 := Y2.off ho2 (by omega)
  have OO2 := O2.trans ho2
  have c2 := XX2.cell (o := 2) rfl
  have f2 := XX2.frozen (o := 2)
  obtain ⟨W2, hW2, X3, Y3, R3, O3⟩ : ∃ W, (w2.setCell ⟨w.heap.size + 1, 2, none⟩ (.int .i64 n2)) = W ∧ Blk W (w.heap.size + 1) #[.int .i64 n0, .int .i64 n1, .int .i64 n2, .int .i64 0, .int .i64 0, .float .f64 0] 39 ∧ Blk W w.heap.size #[.int .i64 0, .int .i64 0, .int .i64 0, .int .i64 0, .int .i64 0, .float .f64 0] 39 ∧ Rdr W b s a3 ∧ Off b w W := by
    refine ⟨_, rfl, ?_, ?_, ?_, ?_⟩
    · have hx := XX2.set 2 (.int .i64 n2)
      simpa using hx
    · exact YY2.setOther (p := ⟨w.heap.size + 1, 2, none⟩) (by simp) _
    · exact hr2'.setOther (p := ⟨w.heap.size + 1, 2, none⟩) (by simp; omega) _
    · exact Off.own OO2 (p := ⟨w.heap.size + 1, 2, none⟩) (by simp) _
  have hc := number_calls b s a3 W2 R3 hs l2.2.1
  go_wp2_with fail
  refine hc.mono ?_
  clear hW2 c2 f2 XX2 YY2 OO2 ho2 hr2' hc X2 Y2 O2 R2
  cases h3 : rdInt s a3 with
  | error er =>
    have hfin : Hid (rdOp s a = .error er) := by show _ = _; unfold rdOp; rw [h0]; simp only [rdOp1]; rw [h1]; simp only [rdOp2]; rw [h2]; simp only [rdOp3]; rw [h3]
    rintro e wx ⟨rfl, ho⟩
    exact ⟨rfl, by unfold Reads; rw [hfin.out]; exact ⟨rfl, O3.trans ho⟩⟩
  | ok q3 =>
  obtain ⟨n3, a4⟩ := q3
  have l3 := rdInt_le h3
  rintro e w3 ⟨rfl, ho3, hr3'⟩
  have XX3 := X3.off ho3 (by omega)
  have YY3 := Y3.off ho3 (by omega)
  have OO3 := O3.trans ho3
  have c3 := XX3.cell (o := 3) rfl
  have f3 := XX3.frozen (o := 3)
  obtain ⟨W3, hW3, X4, Y4, R4, O4⟩ : ∃ W, (w3.setCell ⟨w.heap.size + 1, 3, none⟩ (.int .i64 n3)) = W ∧ Blk W (w.heap.size + 1) #[.int .i64 n0, .int .i64 n1, .int .i64 n2, .int .i64 n3, .int .i64 0, .float .f64 0] 39 ∧ Blk W w.heap.size #[.int .i64 0, .int .i64 0, .int .i64 0, .int .i64 0, .int .i64 0, .float .f64 0] 39 ∧ Rdr W b s a4 ∧ Off b w W := by
    refine ⟨_, rfl, ?_, ?_, ?_, ?_⟩
    · have hx := XX3.set 3 (.int .i64 n3)
      simpa using hx
    · exact YY3.setOther (p := ⟨w.heap.size + 1, 3, none⟩) (by simp) _
    · exact hr3'.setOther (p := ⟨w.heap.size + 1, 3, none⟩) (by simp; omega) _
    · exact Off.own OO3 (p := ⟨w.heap.size + 1, 3, none⟩) (by simp) _
  have hc := number_calls b s a4 W3 R4 hs l3.2.1
  go_wp2_with fail
  refine hc.mono ?_
  clear hW3 c3 f3 XX3 YY3 OO3 ho3 hr3' hc X3 Y3 O3 R3
  cases h4 : rdInt s a4 with
  | error er =>
    have hfin : Hid (rdOp s a = .error er) := by show _ = _; unfold rdOp; rw [h0]; simp only [rdOp1]; rw [h1]; simp only [rdOp2]; rw [h2]; simp only [rdOp3]; rw [h3]; simp only [rdOp4]; rw [h4]
    rintro e wx ⟨rfl, ho⟩
    exact ⟨rfl, by unfold Reads; rw [hfin.out]; exact ⟨rfl, O4.trans ho⟩⟩
  | ok q4 =>
  obtain ⟨n4, a5⟩ := q4
  have l4 := rdInt_le h4
  rintro e w4 ⟨rfl, ho4, hr4'⟩
  have XX4 := X4.off ho4 (by omega)
  have YY4 := Y4.off ho4 (by omega)
  have OO4 := O4.trans ho4
  have c4 := XX4.cell (o := 4) rfl
  have f4 := XX4.frozen (o := 4)
  obtain ⟨W4, hW4, X5, Y5, R5, O5⟩ : ∃ W, (w4.setCell ⟨w.heap.size + 1, 4, none⟩ (.int .i64 n4)) = W ∧ Blk W (w.heap.size + 1) #[.int .i64 n0, .int .i64 n1, .int .i64 n2, .int .i64 n3, .int .i64 n4, .float .f64 0] 39 ∧ Blk W w.heap.size #[.int .i64 0, .int .i64 0, .int .i64 0, .int .i64 0, .int .i64 0, .float .f64 0] 39 ∧ Rdr W b s a5 ∧ Off b w W := by
    refine ⟨_, rfl, ?_, ?_, ?_, ?_⟩
    · have hx := XX4.set 4 (.int .i64 n4)
      simpa using hx
    · exact YY4.setOther (p := ⟨w.heap.size + 1, 4, none⟩) (by simp) _
    · exact hr4'.setOther (p := ⟨w.heap.size + 1, 4, none⟩) (by simp; omega) _
    · exact Off.own OO4 (p := ⟨w.heap.size + 1, 4, none⟩) (by simp) _
  have hc := price_calls b s a5 W4 R5 hs l4.2.1
  go_wp2_with fail
  refine hc.mono ?_
  clear hW4 c4 f4 XX4 YY4 OO4 ho4 hr4' hc X4 Y4 O4 R4
  cases h5 : rd8 s a5 with
  | error er =>
    have hfin : Hid (rdOp s a = .error er) := by show _ = _; unfold rdOp; rw [h0]; simp only [rdOp1]; rw [h1]; simp only [rdOp2]; rw [h2]; simp only [rdOp3]; rw [h3]; simp only [rdOp4]; rw [h4]; simp only [rdOp5]; rw [h5]
    rintro e wx ⟨rfl, ho⟩
    exact ⟨rfl, by unfold Reads; rw [hfin.out]; exact ⟨rfl, O5.trans ho⟩⟩
  | ok q5 =>
  obtain ⟨p, a6⟩ := q5
  have hfin : Hid (rdOp s a = .ok (⟨n0, n1, n2, n3, n4, p⟩, a6)) := by show _ = _; unfold rdOp; rw [h0]; simp only [rdOp1]; rw [h1]; simp only [rdOp2]; rw [h2]; simp only [rdOp3]; rw [h3]; simp only [rdOp4]; rw [h4]; simp only [rdOp5]; rw [h5]
  clear h0 h1 h2 h3 h4 h5
  rintro e w5 ⟨rfl, ho5, hr5⟩
  have XX := X5.off ho5 (by omega)
  have YY := Y5.off ho5 (by omega)
  have OO := O5.trans ho5
  have c5 := XX.cell (o := 5) rfl
  have f5 := XX.frozen (o := 5)
  obtain ⟨W5, hW5, X6, Y6, R6, O6⟩ : ∃ W, (w5.setCell ⟨w.heap.size + 1, 5, none⟩ (.float .f64 p)) = W ∧ Blk W (w.heap.size + 1) #[.int .i64 n0, .int .i64 n1, .int .i64 n2, .int .i64 n3, .int .i64 n4, .float .f64 p] 39 ∧ Blk W w.heap.size #[.int .i64 0, .int .i64 0, .int .i64 0, .int .i64 0, .int .i64 0, .float .f64 0] 39 ∧ Rdr W b s a6 ∧ Off b w W := by
    refine ⟨_, rfl, ?_, ?_, ?_, ?_⟩
    · have hx := XX.set 5 (.float .f64 p)
      simpa using hx
    · exact YY.setOther (p := ⟨w.heap.size + 1, 5, none⟩) (by simp) _
    · exact hr5.setOther (p := ⟨w.heap.size + 1, 5, none⟩) (by simp; omega) _
    · exact Off.own OO (p := ⟨w.heap.size + 1, 5, none⟩) (by simp) _
  have x0 := X6.cell (o := 0) rfl
  have y0 := Y6.cell (o := 0) rfl
  have g0 := Y6.frozen (o := 0)
  have x1 := X6.cell (o := 1) rfl
  have y1 := Y6.cell (o := 1) rfl
  have g1 := Y6.frozen (o := 1)
  have x2 := X6.cell (o := 2) rfl
  have y2 := Y6.cell (o := 2) rfl
  have g2 := Y6.frozen (o := 2)
  have x3 := X6.cell (o := 3) rfl
  have y3 := Y6.cell (o := 3) rfl
  have g3 := Y6.frozen (o := 3)
  have x4 := X6.cell (o := 4) rfl
  have y4 := Y6.cell (o := 4) rfl
  have g4 := Y6.frozen (o := 4)
  have x5 := X6.cell (o := 5) rfl
  have y5 := Y6.cell (o := 5) rfl
  have g5 := Y6.frozen (o := 5)
  go_wp2
  obtain ⟨WE, hWE, YE, _, hRE, hOE, _⟩ := opOut (c0 := .int .i64 n0) (c1 := .int .i64 n1) (c2 := .int .i64 n2) (c3 := .int .i64 n3) (c4 := .int .i64 n4) (c5 := .float .f64 p) Y6
  rw [hWE]
  have z0 := YE.cell (o := 0) rfl
  have z1 := YE.cell (o := 1) rfl
  have z2 := YE.cell (o := 2) rfl
  have z3 := YE.cell (o := 3) rfl
  have z4 := YE.cell (o := 4) rfl
  have z5 := YE.cell (o := 5) rfl
  refine bodyPost_ret (v := Oo.val ⟨n0, n1, n2, n3, n4, p⟩) (by simp [results, Tryz.results52, go_sem, Oo.val, z0, z1, z2, z3, z4, z5]) rfl ?_
  unfold Reads
  rw [hfin.out]
  exact ⟨rfl, hOE _ _ (Nat.le_refl _) O6, hRE _ _ _ (by omega) R6⟩
end Go.Proofs.YtpekfpfhonechaaGreat

namespace Go.Proofs.YtpekfpfhonechaaGreat
open Go.RowKit
set_option linter.unusedVariables false
set_option linter.unusedSimpArgs false

set_option maxRecDepth 100000 in
set_option maxHeartbeats 1000000 in
theorem ofOp1_panicking (b : Nat) (c0 c1 c2 c3 c4 c5 : Value) (z e0 : Int) (w : World) (X : Blk w b #[c0, c1, c2, c3, c4, c5] 39) (Y : Blk w (b + 1) #[.int .i64 z] 53) :
    CallsD Tryz.prog 49 #[.pointer (some ⟨b, 0, none⟩), .pointer (some ⟨b + 1, 0, none⟩)] (.panicking (gu e0)) w fun e u' w' =>
      e = .returned (.tuple #[]) ∧ u' = .panicking [{ v := .iface 132 (.agg #[.int .i64 e0]), recovered := true }] ∧ Below b w w' ∧
      Blk w' b #[.int .i64 0, .int .i64 0, .int .i64 0, .int .i64 0, .int .i64 0, .float .f64 0] 39 ∧ Blk w' (b + 1) #[.int .i64 e0] 53 := by
  refine callsD_of_wpS Tryz.func49 rfl fun c₀ cs hu => ?_
  apply wpS_seq
  apply wpS_region
  simp [wpOpsS, go_sem, recoverD, hu, gu, Tryz.ntmps49, Exit.thenS]
  show Code.wpS Tryz.prog _ _ { tmps := #[Value.pointer (some ⟨b, 0, none⟩), Value.pointer (some ⟨b + 1, 0, none⟩), .iface 132 (.agg #[.int .i64 e0]), .iface 132 (.agg #[.int .i64 e0]), undef, undef, undef, undef, undef], defers := [] } _ _
  refine wpS_of_wp ?_
  go_wp2_with fail
  refine (reason_calls e0 w).mono ?_
  rintro e w1 ⟨rfl, hb1⟩
  have X1 := X.below hb1
  have Y1 := Y.below hb1
  have hlt := X.lt
  have d0 := X1.cell (o := 0) rfl
  have f0 := X1.frozen (o := 0)
  have d1 := X1.cell (o := 1) rfl
  have f1 := X1.frozen (o := 1)
  have d2 := X1.cell (o := 2) rfl
  have f2 := X1.frozen (o := 2)
  have d3 := X1.cell (o := 3) rfl
  have f3 := X1.frozen (o := 3)
  have d4 := X1.cell (o := 4) rfl
  have f4 := X1.frozen (o := 4)
  have d5 := X1.cell (o := 5) rfl
  have f5 := X1.frozen (o := 5)
  have y0 := Y1.cell (o := 0) rfl
  have g0 := Y1.frozen (o := 0)
  go_wp2
  obtain ⟨W, hW, XW, hBW, _, _, hK⟩ := opOut (c0 := .int .i64 0) (c1 := .int .i64 0) (c2 := .int .i64 0) (c3 := .int .i64 0) (c4 := .int .i64 0) (c5 := .float .f64 0) X1
  rw [hW]
  have YW := hK (b + 1) _ _ (by omega) Y1
  refine ⟨rfl, _, rfl, .tuple #[], by simp [results, Tryz.results49], rfl, rfl, ?_, ?_, ?_⟩
  · exact (hBW b w (Nat.le_refl _) (hb1.mono (Nat.le_of_lt hlt))).setCell (p := ⟨b + 1, 0, none⟩) (by simp) _
  · exact XW.setOther (p := ⟨b + 1, 0, none⟩) (by simp) _
  · have hy := YW.set 0 (.int .i64 e0)
    simpa using hy

theorem ofOp1_idle (p q : Addr) (w : World) :
    CallsD Tryz.prog 49 #[.pointer (some p), .pointer (some q)] .returning w fun e u' w' => e = .returned (.tuple #[]) ∧ u' = .returning ∧ w' = w := by
  refine callsD_of_wpS Tryz.func49 rfl fun c₀ cs hu => ?_
  apply wpS_seq
  apply wpS_region
  simp [wpOpsS, go_sem, recoverD, hu, Tryz.ntmps49, Exit.thenS]
  show Code.wpS Tryz.prog _ _ { tmps := #[Value.pointer (some p), Value.pointer (some q), .nilIface, .nilIface, undef, undef, undef, undef, undef], defers := [] } _ _
  refine wpS_of_wp ?_
  go_wp2
  cases c₀
  simp_all [bodyPostS, results, Tryz.results49]

def zeroOo : Oo := ⟨0, 0, 0, 0, 0, 0⟩
/-- What a reading of a request answers. -/
def opAns (r : Except Int Oo) : Array Value :=
  match r with
  | .ok o => #[o.val, .int .i64 0]
  | .error er => #[zeroOo.val, .int .i64 er]

theorem opCaught {w w' : World} {er : Int} {o : Oo} (X : Blk w' w.heap.size #[.int .i64 o.k, .int .i64 o.g, .int .i64 o.a, .int .i64 o.d, .int .i64 o.i, .float .f64 o.pr] 39) (Y : Blk w' (w.heap.size + 1) #[.int .i64 er] 53) {t : Array Value} (h2 : t.getD 2 undef = .pointer (some ⟨w.heap.size, 0, none⟩)) (h3 : t.getD 3 undef = .pointer (some ⟨w.heap.size + 1, 0, none⟩)) :
    (results Tryz.f45 t).run Tryz.prog w' = .ok (.tuple #[o.val, .int .i64 er]) w' := by
  have a0 := X.cell (o := 0) rfl
  have a1 := X.cell (o := 1) rfl
  have a2 := X.cell (o := 2) rfl
  have a3 := X.cell (o := 3) rfl
  have a4 := X.cell (o := 4) rfl
  have a5 := X.cell (o := 5) rfl
  have y0 := Y.cell (o := 0) rfl
  simp only [Array.getD_eq_getD_getElem?] at h2 h3
  simp [results, Tryz.results45, go_sem, h2, h3, a0, a1, a2, a3, a4, a5, y0, Oo.val]

set_option maxRecDepth 100000 in
set_option maxHeartbeats 2000000 in
theorem ofOp_calls (s : ByteArray) (w : World) (hs : s.size ≤ maxLen) :
    Calls Tryz.prog 45 #[.string s] w fun e w' => e = .returned (.tuple (opAns (ofOpR s))) ∧ Below w.heap.size w w' := by
  have hmf : ∀ (fn : Fn) (first cap : Array Value) (w : World), (Instr.makeFunc fn first cap).run Tryz.prog w = .ok (.func fn first cap) w := fun _ _ _ _ => rfl
  have X0 := (blk_new w w.heap.size #[.int .i64 0, .int .i64 0, .int .i64 0, .int .i64 0, .int .i64 0, .float .f64 0] 39 rfl).alloc (.cells #[.int .i64 0] 53)
  have Y0 := blk_new (w.alloc zOp) (w.heap.size + 1) #[.int .i64 0] 53 (by simp)
  have B0 : Below w.heap.size w ((w.alloc zOp).alloc (.cells #[.int .i64 0] 53)) := by go_grown
  by_cases hbig : 256 < s.size
  · have hfin : Hid (ofOpR s = .error 4) := by show _ = _; unfold ofOpR; rw [if_pos hbig]
    go_enter_defers Tryz.func45, Tryz.ntmps45
    go_wp2_with fail
    refine (readerOf_bad s 256 _ (by omega)).mono ?_
    rintro e w1 ⟨rfl, rfl⟩
    refine leaves_cons (f := 49) (args := #[.pointer (some ⟨w.heap.size, 0, none⟩), .pointer (some ⟨w.heap.size + 1, 0, none⟩)]) (by simp) (by simp [go_sem]) ?_
    refine (ofOp1_panicking w.heap.size _ _ _ _ _ _ 0 4 _ X0 Y0).mono ?_
    rintro e u' w'' ⟨rfl, rfl, hbz, Xz, Yz⟩
    refine ⟨.tuple #[zeroOo.val, .int .i64 4], opCaught (o := zeroOo) Xz Yz rfl rfl, ?_⟩
    rw [hfin.out]
    exact ⟨rfl, (B0).trans hbz⟩
  · go_enter_defers Tryz.func45, Tryz.ntmps45
    go_wp2_with fail
    refine (readerOf_ok s 256 _ (by omega)).mono ?_
    rintro e w1 ⟨rfl, rfl⟩
    have R1 := rdr_new s 0 ((w.alloc zOp).alloc (.cells #[.int .i64 0] 53)) 136 (w.heap.size + 2) (by simp)
    have X1 := X0.alloc (.cells #[.string s, .int .i64 0] 136)
    have Y1 := Y0.alloc (.cells #[.string s, .int .i64 0] 136)
    have B1 := B0.alloc (by simp; omega) (.cells #[.string s, .int .i64 0] 136)
    clear X0 Y0 B0
    go_wp2_with fail
    refine (opRd_calls (w.heap.size + 2) s 0 _ R1 hs (Nat.zero_le _)).mono ?_
    cases hr : rdOp s 0 with
    | error er =>
      have hfin : Hid (ofOpR s = .error er) := by show _ = _; unfold ofOpR; rw [if_neg hbig, hr]
      rintro e w2 ⟨rfl, ho⟩
      refine leaves_cons (f := 49) (args := #[.pointer (some ⟨w.heap.size, 0, none⟩), .pointer (some ⟨w.heap.size + 1, 0, none⟩)]) (by simp) (by simp [go_sem]) ?_
      refine (ofOp1_panicking w.heap.size _ _ _ _ _ _ 0 er _ (X1.off ho (by omega)) (Y1.off ho (by omega))).mono ?_
      rintro e u' w'' ⟨rfl, rfl, hbz, Xz, Yz⟩
      refine ⟨.tuple #[zeroOo.val, .int .i64 er], opCaught (o := zeroOo) Xz Yz rfl rfl, ?_⟩
      rw [hfin.out]
      exact ⟨rfl, (ho.below (by omega) B1 (by simp; omega)).trans hbz⟩
    | ok p =>
      obtain ⟨o, nx⟩ := p
      rintro e w2 ⟨rfl, ho, R2⟩
      have X2 := X1.off ho (by omega)
      have Y2 := Y1.off ho (by omega)
      have B2 := ho.below (by omega) B1 (by simp; omega)
      have hz2 := ho.size
      simp at hz2
      have d0 := X2.cell (o := 0) rfl
      have f0 := X2.frozen (o := 0)
      have d1 := X2.cell (o := 1) rfl
      have f1 := X2.frozen (o := 1)
      have d2 := X2.cell (o := 2) rfl
      have f2 := X2.frozen (o := 2)
      have d3 := X2.cell (o := 3) rfl
      have f3 := X2.frozen (o := 3)
      have d4 := X2.cell (o := 4) rfl
      have f4 := X2.frozen (o := 4)
      have d5 := X2.cell (o := 5) rfl
      have f5 := X2.frozen (o := 5)
      unfold Oo.val
      go_wp2_with fail
      obtain ⟨W3, hW3, X3, hB3, hR3, _, hK3⟩ := opOut (c0 := .int .i64 o.k) (c1 := .int .i64 o.g) (c2 := .int .i64 o.a) (c3 := .int .i64 o.d) (c4 := .int .i64 o.i) (c5 := .float .f64 o.pr) X2
      have Y3 := hK3 (w.heap.size + 1) _ _ (by omega) Y2
      have R3 := hR3 _ _ _ (by omega) R2
      have B3 := hB3 _ _ (Nat.le_refl _) B2
      have Z3 := R3.lt
      rw [hW3]
      clear hW3 X2 Y2 R2 B2 X1 Y1 R1 B1 d0 f0 d1 f1 d2 f2 d3 f3 d4 f4 d5 f5 hB3 hR3 hK3
      refine (end_calls (w.heap.size + 2) s nx _ R3).mono ?_
      by_cases htail : nx < s.size
      · have hfin : Hid (ofOpR s = .error 12) := by show _ = _; unfold ofOpR; rw [if_neg hbig, hr]; simp only [htail, if_true]
        rintro e w4 ⟨h4, ho4, R4⟩
        rw [if_pos htail] at h4
        subst h4
        refine leaves_cons (f := 49) (args := #[.pointer (some ⟨w.heap.size, 0, none⟩), .pointer (some ⟨w.heap.size + 1, 0, none⟩)]) (by simp) (by simp [go_sem]) ?_
        refine (ofOp1_panicking w.heap.size _ _ _ _ _ _ 0 12 _ (X3.off ho4 (by omega)) (Y3.off ho4 (by omega))).mono ?_
        rintro e u' w'' ⟨rfl, rfl, hbz, Xz, Yz⟩
        refine ⟨.tuple #[zeroOo.val, .int .i64 12], opCaught (o := zeroOo) Xz Yz rfl rfl, ?_⟩
        rw [hfin.out]
        exact ⟨rfl, (ho4.below (by omega) B3 (by omega)).trans hbz⟩
      · have hfin : Hid (ofOpR s = .ok o) := by show _ = _; unfold ofOpR; rw [if_neg hbig, hr]; simp only [htail, if_false]
        rintro e w4 ⟨h4, ho4, R4⟩
        rw [if_neg htail] at h4
        subst h4
        have X5 := X3.off ho4 (by omega)
        have Y5 := Y3.off ho4 (by omega)
        have B5 := ho4.below (by omega) B3 (by omega)
        clear X3 Y3 B3 R3 R4
        have d0 := X5.cell (o := 0) rfl
        have f0 := X5.frozen (o := 0)
        have d1 := X5.cell (o := 1) rfl
        have f1 := X5.frozen (o := 1)
        have d2 := X5.cell (o := 2) rfl
        have f2 := X5.frozen (o := 2)
        have d3 := X5.cell (o := 3) rfl
        have f3 := X5.frozen (o := 3)
        have d4 := X5.cell (o := 4) rfl
        have f4 := X5.frozen (o := 4)
        have d5 := X5.cell (o := 5) rfl
        have f5 := X5.frozen (o := 5)
        have y0 := Y5.cell (o := 0) rfl
        have g0 := Y5.frozen (o := 0)
        go_wp2
        obtain ⟨W6, hW6, X6, hB6, _, _, hK6⟩ := opOut (c0 := .int .i64 o.k) (c1 := .int .i64 o.g) (c2 := .int .i64 o.a) (c3 := .int .i64 o.d) (c4 := .int .i64 o.i) (c5 := .float .f64 o.pr) X5
        have Y6 := (hK6 (w.heap.size + 1) _ _ (by omega) Y5).set 0 (.int .i64 0)
        simp only [List.setIfInBounds_toArray, List.set_cons_zero] at Y6
        have X7 := X6.setOther (p := ⟨w.heap.size + 1, 0, none⟩) (by simp) (.int .i64 0)
        have B7 := (hB6 _ _ (Nat.le_refl _) B5).setCell (p := ⟨w.heap.size + 1, 0, none⟩) (by simp) (.int .i64 0)
        rw [hW6]
        refine leaves_cons (f := 49) (args := #[.pointer (some ⟨w.heap.size, 0, none⟩), .pointer (some ⟨w.heap.size + 1, 0, none⟩)]) (by simp) (by simp [go_sem]) ?_
        refine (ofOp1_idle _ _ _).mono ?_
        rintro e u' w'' ⟨rfl, rfl, rfl⟩
        refine ⟨.tuple #[o.val, .int .i64 0], opCaught (o := o) X7 Y6 rfl rfl, ?_⟩
        rw [hfin.out]
        exact ⟨rfl, B7⟩
end Go.Proofs.YtpekfpfhonechaaGreat
