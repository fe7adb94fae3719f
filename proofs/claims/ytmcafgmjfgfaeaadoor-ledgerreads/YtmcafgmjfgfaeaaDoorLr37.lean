/- The document: what is held is free, and a stamp. -/
import Derived.Test.YtmcafgmjfgfaeaaDoorLr36
namespace Go.Proofs.YtmcafgmjfgfaeaaDoor
open Go.RowKit
set_option linter.unusedSimpArgs false
set_option linter.unusedVariables false
variable {g base : Nat} {m l : List Kt}

theorem upd_back0 {l : List Kt} {i f : Nat} {v u : Int} (hi : i < l.length) (hu : u = (kAt l i).n f) : upd (upd l i f v) i f u = l := by
  subst hu
  unfold upd
  rw [kAt_set _ hi, if_pos rfl, List.set_set]
  have e : ((kAt l i).put f v).put f ((kAt l i).n f) = kAt l i := by
    unfold Kt.put
    have : (fun j => if j = f then (kAt l i).n f else if j = f then v else (kAt l i).n j) = (kAt l i).n := by
      funext j
      by_cases h : j = f
      · simp [h]
      · simp [h]
    simp only [this]
  rw [e, kAt_eq hi]
  exact List.set_getElem_self hi

theorem over3_self {i a h : Nat} {n : Int} (p : Part a h) (hi : i < l.length) : over3 l i i a h n = upd l i h ((kAt l i).n h - n) := by
  have h1 : i < (over1 l i h n).length := by rw [over1_len]; exact hi
  unfold over3 over2
  rw [upd_at _ _ h1, if_pos ⟨rfl, rfl⟩]
  exact upd_back0 h1 (by omega)
set_option maxRecDepth 100000 in
set_option maxHeartbeats 2000000 in
theorem loose_ref (w : World) (v : Value) (who pt n : Int) (h : Rm w base v m) (S : Sim m l) (H : Inv g l) (hbase : base ≤ w.heap.size) (r : Int × List Kt) (hr : gate (refPt g l.length pt n [who]) l (looseR l who.toNat (hpf pt.toNat) n) = r) :
    Calls Tryd.prog 22 #[.agg #[.int .i64 g, v], .int .i64 who, .int .i64 pt, .int .i64 n] w (Told r g base w) := by
  have hrr : gate (refPt g l.length pt n [who, who]) l (overR l who.toNat who.toNat (apf pt.toNat) (hpf pt.toNat) n) = r := by
    have e1 : refPt g l.length pt n [who, who] = refPt g l.length pt n [who] := by
      by_cases hw : 0 ≤ who ∧ who < (l.length : Int)
      · exact refPt_two hw
      · rw [refPt_bad hw]
        unfold refPt
        have : decide (0 ≤ who ∧ who < (l.length : Int)) = false := decide_eq_false hw
        simp only [List.all_cons, List.all_nil, this, Bool.false_and, if_true]
    rw [e1, ← hr]
    unfold gate
    by_cases he : refPt g l.length pt n [who] = 0
    · rw [if_pos he, if_pos he]
      have hg4 := H.g4
      obtain ⟨he1, p, rfl, hpg⟩ := refPt_ok he
      obtain ⟨i, rfl, hi, _, _⟩ := refE_one he1
      simp only [Int.toNat_natCast]
      unfold overR looseR
      rw [over3_self (part_of (by omega)) hi]
    · rw [if_neg he, if_neg he]
  have hlen := H.len
  have hpos := H.pos
  have hg4 := H.g4
  have hml := S.len
  have hpm : 0 < m.length := by omega
  have hlm : m.length ≤ 16 := by omega
  have HML : Hid _ := hml
  obtain ⟨q, cap, rfl, hbq, hq, hcap, hc⟩ := h.at hpm
  obtain ⟨W1, hW1, X1, Y1, B1, Z1⟩ : ∃ W1, ((w.alloc (.cells #[.int .i64 g, .slice (some ⟨q, 0, none⟩) m.length cap] 29)).alloc (.cells #[.int .i64 0, .slice none 0 0] 29)) = W1 ∧ Blk W1 w.heap.size (rlA g (.slice (some ⟨q, 0, none⟩) m.length cap)) 29 ∧ Blk W1 (w.heap.size + 1) (rlA 0 (.slice none 0 0)) 29 ∧ Below w.heap.size w W1 ∧ W1.heap.size = w.heap.size + 2 :=
    ⟨_, rfl, (blk_new _ _ _ _ rfl).alloc _, blk_new _ _ _ _ (by simp), by go_grown, by simp⟩
  have c0 : W1.cell? ⟨w.heap.size, 0, none⟩ = some (.int .i64 g) := X1.cell rfl
  have c1 : W1.cell? ⟨w.heap.size, 1, none⟩ = some (.slice (some ⟨q, 0, none⟩) m.length cap) := X1.cell rfl
  have HR1 : Hid _ := h.below B1
  have HX1 : Hid _ := X1
  have HY1 : Hid _ := Y1
  have HZ1 : Hid _ := Z1
  have HC : Hid _ := hc
  clear h X1 Y1 Z1 hc
  have HF : Hid _ := over_ref (base := base) W1 _ who who pt n HR1.out S H (by have := HZ1.out; omega) r hrr
  have hz1 := HZ1.out
  clear hml hr hrr
  go_enter Tryd.func22, Tryd.ntmps22
  go_wp2_with fail
  refine Calls.mono HF.out ?_
  rintro e w2 ⟨q2, cap2, m2, rfl, R2, S2, b2⟩
  have Y2 := Blk.below HY1.out b2
  have z2 := b2.size
  obtain ⟨W9, hW9, Y9, R9, B9⟩ : ∃ W9, w2.setRow (w.heap.size + 1) (rlA g (.slice (some ⟨q2, 0, none⟩) m2.length cap2)) = W9 ∧ Blk W9 (w.heap.size + 1) (rlA g (.slice (some ⟨q2, 0, none⟩) m2.length cap2)) 29 ∧ Rm W9 base (.slice (some ⟨q2, 0, none⟩) m2.length cap2) m2 ∧ Below w.heap.size w W9 := ⟨_, rfl, Blk.setRow Y2 _, Rm.row R2 Y2 _, below_setRow (B1.trans (b2.mono (by omega))) _ _ (by omega)⟩
  have s0 : W9.cell? ⟨w.heap.size + 1, 0, none⟩ = some (.int .i64 g) := Y9.cell rfl
  have s1 : W9.cell? ⟨w.heap.size + 1, 1, none⟩ = some (.slice (some ⟨q2, 0, none⟩) m2.length cap2) := Y9.cell rfl
  go_wp2_with ((with_reducible refine st_row (ty := 29) (cs' := rlA g (.slice (some ⟨q2, 0, none⟩) m2.length cap2)) Y2 (rlA_info _ _) (rlA_same _ _ _ _) (rlA_one _ _ _ _) hW9 ?_ ?_ ?_); rfl; rfl)
  try simp only [Exit.inBlock, Exit.then]
  refine bodyPost_ret (by simp [results, Tryd.results22, go_sem, s0, s1]; rfl) rfl ?_
  exact ⟨q2, cap2, m2, rfl, R9, S2, B9⟩
set_option maxRecDepth 100000 in
set_option maxHeartbeats 4000000 in
theorem mark_ref (w : World) (v : Value) (who s : Int) (t : ByteArray) (h : Rm w base v m) (S : Sim m l) (H : Inv g l) (hbase : base ≤ w.heap.size) (r : Int × List Kt) (hr : markR l who s t = r) :
    Calls Tryd.prog 24 #[.agg #[.int .i64 g, v], .int .i64 who, .int .i64 s, .string t] w (Told r g base w) := by
  have hlen := H.len
  have hpos := H.pos
  have hg4 := H.g4
  have hml := S.len
  have hpm : 0 < m.length := by omega
  have hlm : m.length ≤ 16 := by omega
  have HML : Hid _ := hml
  obtain ⟨q, cap, rfl, hbq, hq, hcap, hc⟩ := h.at hpm
  obtain ⟨W1, hW1, X1, Y1, B1, Z1⟩ : ∃ W1, ((w.alloc (.cells #[.int .i64 g, .slice (some ⟨q, 0, none⟩) m.length cap] 29)).alloc (.cells #[.int .i64 0, .slice none 0 0] 29)) = W1 ∧ Blk W1 w.heap.size (rlA g (.slice (some ⟨q, 0, none⟩) m.length cap)) 29 ∧ Blk W1 (w.heap.size + 1) (rlA 0 (.slice none 0 0)) 29 ∧ Below w.heap.size w W1 ∧ W1.heap.size = w.heap.size + 2 :=
    ⟨_, rfl, (blk_new _ _ _ _ rfl).alloc _, blk_new _ _ _ _ (by simp), by go_grown, by simp⟩
  have c0 : W1.cell? ⟨w.heap.size, 0, none⟩ = some (.int .i64 g) := X1.cell rfl
  have c1 : W1.cell? ⟨w.heap.size, 1, none⟩ = some (.slice (some ⟨q, 0, none⟩) m.length cap) := X1.cell rfl
  have HR1 : Hid _ := h.below B1
  have HX1 : Hid _ := X1
  have HY1 : Hid _ := Y1
  have HZ1 : Hid _ := Z1
  have HC : Hid _ := hc
  clear h X1 Y1 Z1 hc
  have hfrm : (0 ≤ who ∧ who < (l.length : Int)) ↔ (0 ≤ who ∧ who < (m.length : Int)) := by rw [hml]
  have hz1 := HZ1.out
  clear hml
  unfold markR at hr
  by_cases hf : 0 ≤ who ∧ who < (l.length : Int)
  · rw [if_neg (fun e => e hf)] at hr
    have hfm := hfrm.1 hf
    have hd1 : decide (who < 0) = false := decide_eq_false (by omega)
    have hd2 : decide ((m.length : Int) ≤ who) = false := decide_eq_false (by omega)
    obtain ⟨i, rfl⟩ := Int.eq_ofNat_of_zero_le hf.1
    have hi : i < l.length := by omega
    have him : i < m.length := by rw [HML.out]; exact hi
    rw [Int.toNat_natCast] at hr
    by_cases h1 : s < 1 ∨ 1099511627776 < s ∨ 256 < t.size
    · rw [if_pos h1] at hr
      have HE : Hid (r = (1, l)) := hr.symm
      clear hr hfrm hf hfm
      cases e1 : decide (s < 1)
      · cases e2 : decide (1099511627776 < s)
        · have e3 : decide (256 < (t.size : Int)) = true := by simp at e1 e2 ⊢; omega
          have HH : Hid _ := h1
          clear h1
          go_enter Tryd.func24, Tryd.ntmps24
          obtain ⟨W9, hW9, Y9, R9, B9⟩ : ∃ W9, W1.setRow (w.heap.size + 1) (rlA g (.slice (some ⟨q, 0, none⟩) m.length cap)) = W9 ∧ Blk W9 (w.heap.size + 1) (rlA g (.slice (some ⟨q, 0, none⟩) m.length cap)) 29 ∧ Rm W9 base (.slice (some ⟨q, 0, none⟩) m.length cap) m ∧ Below w.heap.size w W9 := ⟨_, rfl, Blk.setRow (HY1.out) _, Rm.row (HR1.out) (HY1.out) _, below_setRow (B1) _ _ (by omega)⟩
          have s0 : W9.cell? ⟨w.heap.size + 1, 0, none⟩ = some (.int .i64 g) := Y9.cell rfl
          have s1 : W9.cell? ⟨w.heap.size + 1, 1, none⟩ = some (.slice (some ⟨q, 0, none⟩) m.length cap) := Y9.cell rfl
          have YY : Blk W1 (w.heap.size + 1) (rlA 0 (.slice none 0 0)) 29 := HY1.out
          go_wp2_with ((with_reducible refine st_row (ty := 29) (cs' := rlA g (.slice (some ⟨q, 0, none⟩) m.length cap)) YY (rlA_info _ _) (rlA_same _ _ _ _) (rlA_one _ _ _ _) hW9 ?_ ?_ ?_); rfl; rfl)
          try simp only [Exit.inBlock, Exit.then]
          refine bodyPost_ret (by simp [results, Tryd.results24, go_sem, s0, s1]; rfl) rfl ?_
          rw [HE.out]
          exact ⟨q, cap, m, rfl, R9, S, B9⟩
        · have HH : Hid _ := h1
          clear h1
          go_enter Tryd.func24, Tryd.ntmps24
          obtain ⟨W9, hW9, Y9, R9, B9⟩ : ∃ W9, W1.setRow (w.heap.size + 1) (rlA g (.slice (some ⟨q, 0, none⟩) m.length cap)) = W9 ∧ Blk W9 (w.heap.size + 1) (rlA g (.slice (some ⟨q, 0, none⟩) m.length cap)) 29 ∧ Rm W9 base (.slice (some ⟨q, 0, none⟩) m.length cap) m ∧ Below w.heap.size w W9 := ⟨_, rfl, Blk.setRow (HY1.out) _, Rm.row (HR1.out) (HY1.out) _, below_setRow (B1) _ _ (by omega)⟩
          have s0 : W9.cell? ⟨w.heap.size + 1, 0, none⟩ = some (.int .i64 g) := Y9.cell rfl
          have s1 : W9.cell? ⟨w.heap.size + 1, 1, none⟩ = some (.slice (some ⟨q, 0, none⟩) m.length cap) := Y9.cell rfl
          have YY : Blk W1 (w.heap.size + 1) (rlA 0 (.slice none 0 0)) 29 := HY1.out
          go_wp2_with ((with_reducible refine st_row (ty := 29) (cs' := rlA g (.slice (some ⟨q, 0, none⟩) m.length cap)) YY (rlA_info _ _) (rlA_same _ _ _ _) (rlA_one _ _ _ _) hW9 ?_ ?_ ?_); rfl; rfl)
          try simp only [Exit.inBlock, Exit.then]
          refine bodyPost_ret (by simp [results, Tryd.results24, go_sem, s0, s1]; rfl) rfl ?_
          rw [HE.out]
          exact ⟨q, cap, m, rfl, R9, S, B9⟩
      · have HH : Hid _ := h1
        clear h1
        go_enter Tryd.func24, Tryd.ntmps24
        obtain ⟨W9, hW9, Y9, R9, B9⟩ : ∃ W9, W1.setRow (w.heap.size + 1) (rlA g (.slice (some ⟨q, 0, none⟩) m.length cap)) = W9 ∧ Blk W9 (w.heap.size + 1) (rlA g (.slice (some ⟨q, 0, none⟩) m.length cap)) 29 ∧ Rm W9 base (.slice (some ⟨q, 0, none⟩) m.length cap) m ∧ Below w.heap.size w W9 := ⟨_, rfl, Blk.setRow (HY1.out) _, Rm.row (HR1.out) (HY1.out) _, below_setRow (B1) _ _ (by omega)⟩
        have s0 : W9.cell? ⟨w.heap.size + 1, 0, none⟩ = some (.int .i64 g) := Y9.cell rfl
        have s1 : W9.cell? ⟨w.heap.size + 1, 1, none⟩ = some (.slice (some ⟨q, 0, none⟩) m.length cap) := Y9.cell rfl
        have YY : Blk W1 (w.heap.size + 1) (rlA 0 (.slice none 0 0)) 29 := HY1.out
        go_wp2_with ((with_reducible refine st_row (ty := 29) (cs' := rlA g (.slice (some ⟨q, 0, none⟩) m.length cap)) YY (rlA_info _ _) (rlA_same _ _ _ _) (rlA_one _ _ _ _) hW9 ?_ ?_ ?_); rfl; rfl)
        try simp only [Exit.inBlock, Exit.then]
        refine bodyPost_ret (by simp [results, Tryd.results24, go_sem, s0, s1]; rfl) rfl ?_
        rw [HE.out]
        exact ⟨q, cap, m, rfl, R9, S, B9⟩
    · rw [if_neg h1] at hr
      have e1 : decide (s < 1) = false := decide_eq_false (by omega)
      have e2 : decide (1099511627776 < s) = false := decide_eq_false (by omega)
      have e3 : decide (256 < (t.size : Int)) = false := decide_eq_false (by omega)
      have st := S.stamp i hi
      obtain ⟨dn, _, _⟩ := HC.out i him
      have dx : W1.cell? ⟨q, i * 12 + 10, none⟩ = some (.int .i64 ((kAt m i).n 10)) := (B1.cell (p := ⟨q, i * 12 + 10, none⟩) hq).trans (dn 10 (by omega))
      clear dn
      by_cases h2 : s ≤ (kAt l i).n 10
      · rw [if_pos h2] at hr
        have HE : Hid (r = (91, l)) := hr.symm
        have e4 : decide (s ≤ (kAt m i).n 10) = true := decide_eq_true (by omega)
        clear hr hfrm hf hfm st
        go_enter Tryd.func24, Tryd.ntmps24
        obtain ⟨W9, hW9, Y9, R9, B9⟩ : ∃ W9, W1.setRow (w.heap.size + 1) (rlA g (.slice (some ⟨q, 0, none⟩) m.length cap)) = W9 ∧ Blk W9 (w.heap.size + 1) (rlA g (.slice (some ⟨q, 0, none⟩) m.length cap)) 29 ∧ Rm W9 base (.slice (some ⟨q, 0, none⟩) m.length cap) m ∧ Below w.heap.size w W9 := ⟨_, rfl, Blk.setRow (HY1.out) _, Rm.row (HR1.out) (HY1.out) _, below_setRow (B1) _ _ (by omega)⟩
        have s0 : W9.cell? ⟨w.heap.size + 1, 0, none⟩ = some (.int .i64 g) := Y9.cell rfl
        have s1 : W9.cell? ⟨w.heap.size + 1, 1, none⟩ = some (.slice (some ⟨q, 0, none⟩) m.length cap) := Y9.cell rfl
        have YY : Blk W1 (w.heap.size + 1) (rlA 0 (.slice none 0 0)) 29 := HY1.out
        go_wp2_with ((with_reducible refine st_row (ty := 29) (cs' := rlA g (.slice (some ⟨q, 0, none⟩) m.length cap)) YY (rlA_info _ _) (rlA_same _ _ _ _) (rlA_one _ _ _ _) hW9 ?_ ?_ ?_); rfl; rfl)
        try simp only [Exit.inBlock, Exit.then]
        refine bodyPost_ret (by simp [results, Tryd.results24, go_sem, s0, s1]; rfl) rfl ?_
        rw [HE.out]
        exact ⟨q, cap, m, rfl, R9, S, B9⟩
      · rw [if_neg h2] at hr
        have HE : Hid (r = (0, markL l i s t)) := hr.symm
        have HSm : Hid _ := S.mark s t hi
        have e4 : decide (s ≤ (kAt m i).n 10) = false := decide_eq_false (by omega)
        clear hr hfrm hf hfm st
        have HK : Hid _ := copy_ref (g := g) W1 _ HR1.out (by omega) (by omega)
        go_enter Tryd.func24, Tryd.ntmps24
        go_wp2_with fail
        refine Calls.mono HK.out ?_
        rintro e w4 ⟨q2, cap2, rfl, R4, b4⟩
        have z4 := b4.size
        obtain ⟨W5, hW5, X5, B5, Z5⟩ : ∃ W5, (w4.alloc (.cells #[.int .i64 g, .slice (some ⟨q2, 0, none⟩) m.length cap2] 29)) = W5 ∧ Blk W5 w4.heap.size (rlA g (.slice (some ⟨q2, 0, none⟩) m.length cap2)) 29 ∧ Below w4.heap.size w4 W5 ∧ W5.heap.size = w4.heap.size + 1 := ⟨_, rfl, blk_new _ _ _ _ rfl, by go_grown, by simp⟩
        have R5 := R4.below B5
        have Y5 := (Blk.below HY1.out b4).below B5
        have ap1 := R5.apart X5
        have ap2 := R5.apart Y5
        obtain ⟨q5, cap5, hv5, hb5, hq5, hc5, hcc⟩ := R5.at (by omega)
        injection hv5 with u1 u2 u3
        injection u1 with u1
        injection u1 with u1
        subst u1 u3
        obtain ⟨dn5, rp5, fr5⟩ := hcc i him
        have g1 : W5.cell? ⟨w4.heap.size, 1, none⟩ = some (.slice (some ⟨q2, 0, none⟩) m.length cap2) := X5.cell rfl
        have n1 : W5.cell? ⟨q2, i * 12 + 10, none⟩ = some (.int .i64 ((kAt m i).n 10)) := dn5 10 (by omega)
        have n2 : W5.frozen? ⟨q2, i * 12 + 10, none⟩ = false := fr5 _
        obtain ⟨W6, hW6, X6, v11, f11⟩ : ∃ W6, W5.setCell ⟨q2, i * 12 + 10, none⟩ (.int .i64 s) = W6 ∧ Blk W6 w4.heap.size (rlA g (.slice (some ⟨q2, 0, none⟩) m.length cap2)) 29 ∧ W6.cell? ⟨q2, i * 12 + 11, none⟩ = some (.string (kAt m i).reply) ∧ W6.frozen? ⟨q2, i * 12 + 11, none⟩ = false :=
          ⟨_, rfl, X5.setOther (p := ⟨q2, i * 12 + 10, none⟩) (Ne.symm ap1) _, by rw [World.cell?_setCell_other _ _ _ _ (by simp)]; exact rp5, by rw [World.frozen?_setCell]; exact fr5 _⟩
        have g6 : W6.cell? ⟨w4.heap.size, 1, none⟩ = some (.slice (some ⟨q2, 0, none⟩) m.length cap2) := X6.cell rfl
        obtain ⟨W7, hW7, R7, X7, Y7, B7⟩ : ∃ W7, W6.setCell ⟨q2, i * 12 + 11, none⟩ (.string t) = W7 ∧ Rm W7 W1.heap.size (.slice (some ⟨q2, 0, none⟩) m.length cap2) (markL m i s t) ∧ Blk W7 w4.heap.size (rlA g (.slice (some ⟨q2, 0, none⟩) m.length cap2)) 29 ∧ Blk W7 (w.heap.size + 1) (rlA 0 (.slice none 0 0)) 29 ∧ Below w.heap.size w W7 := by
          refine ⟨_, rfl, ?_, X6.setOther (p := ⟨q2, i * 12 + 11, none⟩) (Ne.symm ap1) _, ?_, ?_⟩
          · rw [← hW6]; exact R5.setR s t him
          · rw [← hW6]; exact (Y5.setOther (p := ⟨q2, i * 12 + 10, none⟩) (Ne.symm ap2) _).setOther (p := ⟨q2, i * 12 + 11, none⟩) (Ne.symm ap2) _
          · rw [← hW6]
            exact (((B1.trans (b4.mono (by omega))).trans (B5.mono (by omega))).setCell (p := ⟨q2, i * 12 + 10, none⟩) (show w.heap.size ≤ q2 by omega) _).setCell (p := ⟨q2, i * 12 + 11, none⟩) (show w.heap.size ≤ q2 by omega) _
        have k0 : W7.cell? ⟨w4.heap.size, 0, none⟩ = some (.int .i64 g) := X7.cell rfl
        have k1 : W7.cell? ⟨w4.heap.size, 1, none⟩ = some (.slice (some ⟨q2, 0, none⟩) m.length cap2) := X7.cell rfl
        have hil : (i : Int) < (m.length : Int) := by omega
        have YY : Blk W7 (w.heap.size + 1) (rlA 0 (.slice none 0 0)) 29 := Y7
        obtain ⟨W9, hW9, Y9, R9, B9⟩ : ∃ W9, W7.setRow (w.heap.size + 1) (rlA g (.slice (some ⟨q2, 0, none⟩) m.length cap2)) = W9 ∧ Blk W9 (w.heap.size + 1) (rlA g (.slice (some ⟨q2, 0, none⟩) m.length cap2)) 29 ∧ Rm W9 base (.slice (some ⟨q2, 0, none⟩) m.length cap2) (markL m i s t) ∧ Below w.heap.size w W9 := ⟨_, rfl, Blk.setRow YY _, Rm.row (Rm.weak R7 (by omega)) YY _, below_setRow B7 _ _ (by omega)⟩
        have s0 : W9.cell? ⟨w.heap.size + 1, 0, none⟩ = some (.int .i64 g) := Y9.cell rfl
        have s1 : W9.cell? ⟨w.heap.size + 1, 1, none⟩ = some (.slice (some ⟨q2, 0, none⟩) m.length cap2) := Y9.cell rfl
        have HR9 : Hid _ := R9
        clear R9 R7 R5 R4 X5 X6 X7 hcc dn5 fr5 rp5
        generalize (kAt m i).n 10 = x at *
        go_wp2_with ((with_reducible refine st_row (ty := 29) (cs' := rlA g (.slice (some ⟨q2, 0, none⟩) m.length cap2)) YY (rlA_info _ _) (rlA_same _ _ _ _) (rlA_one _ _ _ _) hW9 ?_ ?_ ?_); rfl; rfl)
        try simp only [Exit.inBlock, Exit.then]
        refine bodyPost_ret (by simp [results, Tryd.results24, go_sem, s0, s1]; rfl) rfl ?_
        rw [HE.out]
        exact ⟨q2, cap2, _, by rw [markL_len], by rw [markL_len]; exact HR9.out, HSm.out, B9⟩
  · rw [if_pos hf] at hr
    have HE : Hid (r = (60, l)) := hr.symm
    have hfm : ¬ (0 ≤ who ∧ who < (m.length : Int)) := fun h => hf (hfrm.2 h)
    clear hr hfrm hf
    cases d1 : decide (who < 0)
    · have d2 : decide ((m.length : Int) ≤ who) = true := decide_eq_true (by simp at d1; omega)
      go_enter Tryd.func24, Tryd.ntmps24
      obtain ⟨W9, hW9, Y9, R9, B9⟩ : ∃ W9, W1.setRow (w.heap.size + 1) (rlA g (.slice (some ⟨q, 0, none⟩) m.length cap)) = W9 ∧ Blk W9 (w.heap.size + 1) (rlA g (.slice (some ⟨q, 0, none⟩) m.length cap)) 29 ∧ Rm W9 base (.slice (some ⟨q, 0, none⟩) m.length cap) m ∧ Below w.heap.size w W9 := ⟨_, rfl, Blk.setRow (HY1.out) _, Rm.row (HR1.out) (HY1.out) _, below_setRow (B1) _ _ (by omega)⟩
      have s0 : W9.cell? ⟨w.heap.size + 1, 0, none⟩ = some (.int .i64 g) := Y9.cell rfl
      have s1 : W9.cell? ⟨w.heap.size + 1, 1, none⟩ = some (.slice (some ⟨q, 0, none⟩) m.length cap) := Y9.cell rfl
      have YY : Blk W1 (w.heap.size + 1) (rlA 0 (.slice none 0 0)) 29 := HY1.out
      go_wp2_with ((with_reducible refine st_row (ty := 29) (cs' := rlA g (.slice (some ⟨q, 0, none⟩) m.length cap)) YY (rlA_info _ _) (rlA_same _ _ _ _) (rlA_one _ _ _ _) hW9 ?_ ?_ ?_); rfl; rfl)
      try simp only [Exit.inBlock, Exit.then]
      refine bodyPost_ret (by simp [results, Tryd.results24, go_sem, s0, s1]; rfl) rfl ?_
      rw [HE.out]
      exact ⟨q, cap, m, rfl, R9, S, B9⟩
    · go_enter Tryd.func24, Tryd.ntmps24
      obtain ⟨W9, hW9, Y9, R9, B9⟩ : ∃ W9, W1.setRow (w.heap.size + 1) (rlA g (.slice (some ⟨q, 0, none⟩) m.length cap)) = W9 ∧ Blk W9 (w.heap.size + 1) (rlA g (.slice (some ⟨q, 0, none⟩) m.length cap)) 29 ∧ Rm W9 base (.slice (some ⟨q, 0, none⟩) m.length cap) m ∧ Below w.heap.size w W9 := ⟨_, rfl, Blk.setRow (HY1.out) _, Rm.row (HR1.out) (HY1.out) _, below_setRow (B1) _ _ (by omega)⟩
      have s0 : W9.cell? ⟨w.heap.size + 1, 0, none⟩ = some (.int .i64 g) := Y9.cell rfl
      have s1 : W9.cell? ⟨w.heap.size + 1, 1, none⟩ = some (.slice (some ⟨q, 0, none⟩) m.length cap) := Y9.cell rfl
      have YY : Blk W1 (w.heap.size + 1) (rlA 0 (.slice none 0 0)) 29 := HY1.out
      go_wp2_with ((with_reducible refine st_row (ty := 29) (cs' := rlA g (.slice (some ⟨q, 0, none⟩) m.length cap)) YY (rlA_info _ _) (rlA_same _ _ _ _) (rlA_one _ _ _ _) hW9 ?_ ?_ ?_); rfl; rfl)
      try simp only [Exit.inBlock, Exit.then]
      refine bodyPost_ret (by simp [results, Tryd.results24, go_sem, s0, s1]; rfl) rfl ?_
      rw [HE.out]
      exact ⟨q, cap, m, rfl, R9, S, B9⟩
end Go.Proofs.YtmcafgmjfgfaeaaDoor
