/- The document: what is free is held, what is held goes over, a stamp. -/
import Derived.Test.YtmcafgmjfgfaeaaDoorLr35
namespace Go.Proofs.YtmcafgmjfgfaeaaDoor
open Go.RowKit
set_option linter.unusedSimpArgs false
set_option linter.unusedVariables false
variable {g base : Nat} {m l : List Kt}

theorem upd_comm {i f f' : Nat} {v v' : Int} (hi : i < m.length) (hf : f ≠ f') : upd (upd m i f v) i f' v' = upd (upd m i f' v') i f v := by
  unfold upd
  rw [kAt_set _ hi, if_pos rfl, kAt_set _ hi, if_pos rfl, List.set_set, List.set_set]
  have e : ((kAt m i).put f v).put f' v' = ((kAt m i).put f' v').put f v := by
    unfold Kt.put
    have : (fun j => if j = f' then v' else if j = f then v else (kAt m i).n j) = (fun j => if j = f then v else if j = f' then v' else (kAt m i).n j) := by
      funext j
      by_cases h1 : j = f
      · subst h1; simp [hf]
      · simp [h1]
    simp only [this]
  rw [e]
theorem Sim.keep (S : Sim m l) {i p : Nat} (n : Int) (hi : i < l.length) (hp : p ≤ 4) : Sim (upd (upd m i p ((kAt m i).n p - n)) i (5 + p) ((kAt m i).n (5 + p) + n)) (upd l i (hpf p) ((kAt l i).n (hpf p) + n)) := by
  rw [upd_comm (by rw [S.len]; exact hi) (by omega)]
  have := S.shift (-n) hi hp
  simpa [Int.sub_eq_add_neg] using this
theorem keep_gate {e : Int} {who : Int} {a h : Nat} {n : Int} : (gate e l (keepR l who.toNat a h n)).1 = (gate e l (outR l who.toNat a h n)).1 := by
  unfold gate keepR outR
  by_cases h1 : e = 0
  · rw [if_pos h1, if_pos h1]
    split <;> rfl
  · rw [if_neg h1, if_neg h1]

set_option maxRecDepth 100000 in
set_option maxHeartbeats 4000000 in
theorem keep_ref (w : World) (v : Value) (who pt n : Int) (h : Rm w base v m) (S : Sim m l) (H : Inv g l) (hbase : base ≤ w.heap.size) (r : Int × List Kt) (hr : gate (refPt g l.length pt n [who]) l (keepR l who.toNat (apf pt.toNat) (hpf pt.toNat) n) = r) :
    Calls Tryd.prog 21 #[.agg #[.int .i64 g, v], .int .i64 who, .int .i64 pt, .int .i64 n] w (Told r g base w) := by
  have hlen := H.len
  have hpos := H.pos
  have hg4 := H.g4
  have hml := S.len
  have hpm : 0 < m.length := by omega
  have hlm : m.length ≤ 16 := by omega
  have HML : Hid _ := hml
  obtain ⟨q, cap, rfl, hbq, hq, hcap, hc⟩ := h.at hpm
  obtain ⟨W1, hW1, X1, Y1, B1, Z1⟩ : ∃ W1, ((w.alloc (.cells #[.int .i64 g, .slice (some ⟨q, 0, none⟩) m.length cap] 29)).alloc (.cells #[.int .i64 0, .slice none 0 0] 29)) = W1 ∧ Blk W1 w.heap.size (rlA g (.slice (some ⟨q, 0, none⟩) m.length cap)) 29 ∧ Blk W1 (w.heap.size + 1) (rlA 0 (.slice none 0 0)) 29 ∧ Below w.heap.size w W1 ∧ W1.heap.size = w.heap.size + 2 :=
    ⟨_, rfl, (blk_new _ _ _ _ rfl).alloc _, blk_new _ _ _ _ (by simp), by go_grown, by simp⟩
  have c0 : W1.cell? ⟨w.heap.size, 0, none⟩ = some (.int .i64 g) := X1.cell rfl
  have c1 : W1.cell? ⟨w.heap.size, 1, none⟩ = some (.slice (some ⟨q, 0, none⟩) m.length cap) := X1.cell rfl
  have HR1 : Hid _ := h.below B1
  have HX1 : Hid _ := X1
  have HY1 : Hid _ := Y1
  have HZ1 : Hid _ := Z1
  have HC : Hid _ := hc
  clear h X1 Y1 Z1 hc
  have HF : Hid _ := out_ref (base := base) W1 _ who pt n HR1.out S H (by have := HZ1.out; omega) _ rfl
  have HG := keep_gate (l := l) (e := refPt g l.length pt n [who]) (who := who) (a := apf pt.toNat) (h := hpf pt.toNat) (n := n)
  have hz1 := HZ1.out
  clear hml
  by_cases h0 : (gate (refPt g l.length pt n [who]) l (outR l who.toNat (apf pt.toNat) (hpf pt.toNat) n)).1 = 0
  · have hk0 := HG.trans h0
    obtain ⟨he, e⟩ := gate_ok hk0
    obtain ⟨he1, p, rfl, hpg⟩ := refPt_ok he
    obtain ⟨i, rfl, hi, hn1, hn2⟩ := refE_one he1
    have him : i < m.length := by rw [HML.out]; exact hi
    have hp4 : p ≤ 4 := by omega
    simp only [Int.toNat_natCast] at *
    rw [e] at hk0 hr
    obtain ⟨hne, e3⟩ := if_ok (by decide) hk0
    have HE : Hid (r = (0, upd l i (hpf p) ((kAt l i).n (hpf p) + n))) := by
      show _ = _
      rw [← hr]; unfold keepR; rw [if_neg hne]
    have HSm : Hid _ := S.keep n hi hp4
    have sn := S.nums H hi hp4
    have sx : 0 ≤ (kAt m i).n (5 + p) ∧ (kAt m i).n (5 + p) ≤ 1099511627776 := by omega
    have eu : (kAt (upd m i p ((kAt m i).n p - n)) i).n (5 + p) = (kAt m i).n (5 + p) := by rw [upd_at _ _ him, if_neg (by omega)]
    have EU : Hid _ := eu
    have H0 : Hid _ := h0
    clear sn hr e e3 hk0 HG he he1 hne eu h0
    go_enter Tryd.func21, Tryd.ntmps21
    go_wp2_with fail
    refine Calls.mono HF.out ?_
    rintro e w2 hY
    rcases hY with ⟨h1, _⟩ | ⟨h1, q2, cap2, rfl, R2, b2⟩
    · exact absurd H0.out h1
    rw [h1]
    clear h1
    have z2 := b2.size
    have X2 := Blk.below HX1.out b2
    have Y2 := Blk.below HY1.out b2
    obtain ⟨W5, hW5, X5, B5, Z5⟩ : ∃ W5, (w2.alloc (.cells #[.int .i64 g, .slice (some ⟨q2, 0, none⟩) m.length cap2] 29)) = W5 ∧ Blk W5 w2.heap.size (rlA g (.slice (some ⟨q2, 0, none⟩) m.length cap2)) 29 ∧ Below w2.heap.size w2 W5 ∧ W5.heap.size = w2.heap.size + 1 := ⟨_, rfl, blk_new _ _ _ _ rfl, by go_grown, by simp⟩
    have R5 := R2.below B5
    have Y5 := Y2.below B5
    obtain ⟨q5, cap5, hv5, hb5, hq5, hc5, hcc⟩ := R5.at (by rw [upd_len]; exact hpm)
    injection hv5 with u1 u2 u3
    injection u1 with u1
    injection u1 with u1
    subst u1 u3
    clear u2 hc5
    obtain ⟨dn5, _, fr5⟩ := hcc i (by rw [upd_len]; exact him)
    have g1 : W5.cell? ⟨w2.heap.size, 1, none⟩ = some (.slice (some ⟨q2, 0, none⟩) m.length cap2) := X5.cell rfl
    have n1 : W5.cell? ⟨q2, i * 12 + 5 + p, none⟩ = some (.int .i64 ((kAt m i).n (5 + p))) := by
      have := dn5 (5 + p) (by omega)
      rw [← Nat.add_assoc, EU.out] at this
      exact this
    have n2 : W5.frozen? ⟨q2, i * 12 + 5 + p, none⟩ = false := fr5 _
    have RS : Rm (W5.setCell ⟨q2, i * 12 + 5 + p, none⟩ (.int .i64 ((kAt m i).n (5 + p) + n))) W1.heap.size (.slice (some ⟨q2, 0, none⟩) m.length cap2) (upd (upd m i p ((kAt m i).n p - n)) i (5 + p) ((kAt m i).n (5 + p) + n)) := by
      have R5' : Rm W5 W1.heap.size (.slice (some ⟨q2, 0, none⟩) (upd m i p ((kAt m i).n p - n)).length cap2) (upd m i p ((kAt m i).n p - n)) := by rw [upd_len]; exact R5
      have := R5'.set (i := i) (j := 5 + p) ((kAt m i).n (5 + p) + n) (by rw [upd_len]; exact him) (by omega)
      rw [← Nat.add_assoc, upd_len] at this
      exact this
    obtain ⟨W6, hW6, R6, X6, Y6, B6⟩ : ∃ W6, W5.setCell ⟨q2, i * 12 + 5 + p, none⟩ (.int .i64 ((kAt m i).n (5 + p) + n)) = W6 ∧ Rm W6 W1.heap.size (.slice (some ⟨q2, 0, none⟩) m.length cap2) (upd (upd m i p ((kAt m i).n p - n)) i (5 + p) ((kAt m i).n (5 + p) + n)) ∧ Blk W6 w2.heap.size (rlA g (.slice (some ⟨q2, 0, none⟩) m.length cap2)) 29 ∧ Blk W6 (w.heap.size + 1) (rlA 0 (.slice none 0 0)) 29 ∧ Below w.heap.size w W6 :=
      ⟨_, rfl, RS, X5.setOther (p := ⟨q2, i * 12 + 5 + p, none⟩) (Ne.symm (R5.apart X5)) _, Y5.setOther (p := ⟨q2, i * 12 + 5 + p, none⟩) (Ne.symm (R5.apart Y5)) _, ((B1.trans (b2.mono (by omega))).trans (B5.mono (by omega))).setCell (p := ⟨q2, i * 12 + 5 + p, none⟩) (show w.heap.size ≤ q2 by omega) _⟩
    have k0 : W6.cell? ⟨w2.heap.size, 0, none⟩ = some (.int .i64 g) := X6.cell rfl
    have k1 : W6.cell? ⟨w2.heap.size, 1, none⟩ = some (.slice (some ⟨q2, 0, none⟩) m.length cap2) := X6.cell rfl
    have hil : (i : Int) < (m.length : Int) := by omega
    have YY : Blk W6.drew (w.heap.size + 1) (rlA 0 (.slice none 0 0)) 29 := Y6.drew
    obtain ⟨W9, hW9, Y9, R9, B9⟩ : ∃ W9, W6.drew.setRow (w.heap.size + 1) (rlA g (.slice (some ⟨q2, 0, none⟩) m.length cap2)) = W9 ∧ Blk W9 (w.heap.size + 1) (rlA g (.slice (some ⟨q2, 0, none⟩) m.length cap2)) 29 ∧ Rm W9 base (.slice (some ⟨q2, 0, none⟩) m.length cap2) (upd (upd m i p ((kAt m i).n p - n)) i (5 + p) ((kAt m i).n (5 + p) + n)) ∧ Below w.heap.size w W9 := ⟨_, rfl, Blk.setRow YY _, Rm.row (Rm.weak (show Rm W6.drew _ _ _ from R6) (by omega)) YY _, below_setRow B6.drew _ _ (by omega)⟩
    have s0 : W9.cell? ⟨w.heap.size + 1, 0, none⟩ = some (.int .i64 g) := Y9.cell rfl
    have s1 : W9.cell? ⟨w.heap.size + 1, 1, none⟩ = some (.slice (some ⟨q2, 0, none⟩) m.length cap2) := Y9.cell rfl
    have HR9 : Hid _ := R9
    clear R9 R6 R5 R2 RS X5 X6 hcc dn5 fr5
    generalize (kAt m i).n (5 + p) = x at *
    go_wp2
    go_region
    go_wp2_with ((with_reducible refine st_row (ty := 29) (cs' := rlA g (.slice (some ⟨q2, 0, none⟩) m.length cap2)) YY (rlA_info _ _) (rlA_same _ _ _ _) (rlA_one _ _ _ _) hW9 ?_ ?_ ?_); rfl; rfl)
    try simp only [Exit.inBlock, Exit.then]
    refine bodyPost_ret (by simp [results, Tryd.results21, go_sem, s0, s1]; rfl) rfl ?_
    rw [HE.out]
    exact ⟨q2, cap2, _, by rw [upd_len, upd_len], by rw [upd_len, upd_len]; exact HR9.out, HSm.out, B9⟩
  · have HE : Hid (r = ((gate (refPt g l.length pt n [who]) l (outR l who.toNat (apf pt.toNat) (hpf pt.toNat) n)).1, l)) := by
      show _ = _
      rw [← hr, ← HG]
      have h1 : (gate (refPt g l.length pt n [who]) l (keepR l who.toNat (apf pt.toNat) (hpf pt.toNat) n)).1 ≠ 0 := by rw [HG]; exact h0
      exact Prod.ext rfl (gate_not (fun h => if_not h) h1)
    clear HG hr
    generalize gate (refPt g l.length pt n [who]) l (outR l who.toNat (apf pt.toNat) (hpf pt.toNat) n) = rr at *
    have hb0 : (rr.1 == 0) = false := by simpa using h0
    go_enter Tryd.func21, Tryd.ntmps21
    go_wp2_with fail
    refine Calls.mono HF.out ?_
    rintro e w2 hY
    rcases hY with ⟨_, _, rfl, R2, b2⟩ | ⟨h1, _⟩
    rotate_left
    · exact absurd h1 h0
    have z2 := b2.size
    have Y2 := Blk.below HY1.out b2
    obtain ⟨W5, hW5, X5, B5, Z5⟩ : ∃ W5, (w2.alloc (.cells #[.int .i64 g, .slice (some ⟨q, 0, none⟩) m.length cap] 29)) = W5 ∧ Blk W5 w2.heap.size (rlA g (.slice (some ⟨q, 0, none⟩) m.length cap)) 29 ∧ Below w2.heap.size w2 W5 ∧ W5.heap.size = w2.heap.size + 1 := ⟨_, rfl, blk_new _ _ _ _ rfl, by go_grown, by simp⟩
    have R5 := R2.below B5
    have Y5 := Y2.below B5
    have k0 : W5.cell? ⟨w2.heap.size, 0, none⟩ = some (.int .i64 g) := X5.cell rfl
    have k1 : W5.cell? ⟨w2.heap.size, 1, none⟩ = some (.slice (some ⟨q, 0, none⟩) m.length cap) := X5.cell rfl
    obtain ⟨W9, hW9, Y9, R9, B9⟩ : ∃ W9, W5.setRow (w.heap.size + 1) (rlA g (.slice (some ⟨q, 0, none⟩) m.length cap)) = W9 ∧ Blk W9 (w.heap.size + 1) (rlA g (.slice (some ⟨q, 0, none⟩) m.length cap)) 29 ∧ Rm W9 base (.slice (some ⟨q, 0, none⟩) m.length cap) m ∧ Below w.heap.size w W9 := ⟨_, rfl, Blk.setRow (Y5) _, Rm.row (R5) (Y5) _, below_setRow ((B1.trans (b2.mono (by omega))).trans (B5.mono (by omega))) _ _ (by omega)⟩
    have s0 : W9.cell? ⟨w.heap.size + 1, 0, none⟩ = some (.int .i64 g) := Y9.cell rfl
    have s1 : W9.cell? ⟨w.heap.size + 1, 1, none⟩ = some (.slice (some ⟨q, 0, none⟩) m.length cap) := Y9.cell rfl
    have YY : Blk W5 (w.heap.size + 1) (rlA 0 (.slice none 0 0)) 29 := Y5
    go_wp2_with ((with_reducible refine st_row (ty := 29) (cs' := rlA g (.slice (some ⟨q, 0, none⟩) m.length cap)) YY (rlA_info _ _) (rlA_same _ _ _ _) (rlA_one _ _ _ _) hW9 ?_ ?_ ?_); rfl; rfl)
    try simp only [Exit.inBlock, Exit.then]
    refine bodyPost_ret (by simp [results, Tryd.results21, go_sem, s0, s1]; rfl) rfl ?_
    rw [HE.out]
    exact ⟨q, cap, m, rfl, R9, S, B9⟩

theorem refPt_two {c : Nat} {pt n y z : Int} (hz : 0 ≤ z ∧ z < c) : refPt g c pt n [z, y] = refPt g c pt n [y] := by
  unfold refPt
  have : decide (0 ≤ z ∧ z < (c : Int)) = true := decide_eq_true hz
  simp only [List.all_cons, List.all_nil, this, Bool.true_and]
  rfl
theorem refPt_bad {c : Nat} {pt n y z : Int} (hz : ¬ (0 ≤ z ∧ z < c)) : refPt g c pt n [z, y] = 60 := by
  unfold refPt
  have : decide (0 ≤ z ∧ z < (c : Int)) = false := decide_eq_false hz
  simp only [List.all_cons, List.all_nil, this, Bool.false_and, if_true]

set_option maxRecDepth 100000 in
set_option maxHeartbeats 4000000 in
theorem over_ref (w : World) (v : Value) (frm dst pt n : Int) (h : Rm w base v m) (S : Sim m l) (H : Inv g l) (hbase : base ≤ w.heap.size) (r : Int × List Kt) (hr : gate (refPt g l.length pt n [frm, dst]) l (overR l frm.toNat dst.toNat (apf pt.toNat) (hpf pt.toNat) n) = r) :
    Calls Tryd.prog 23 #[.agg #[.int .i64 g, v], .int .i64 frm, .int .i64 dst, .int .i64 pt, .int .i64 n] w (Told r g base w) := by
  have hlen := H.len
  have hpos := H.pos
  have hg4 := H.g4
  have hml := S.len
  have hpm : 0 < m.length := by omega
  have hlm : m.length ≤ 16 := by omega
  have HML : Hid _ := hml
  obtain ⟨q, cap, rfl, hbq, hq, hcap, hc⟩ := h.at hpm
  obtain ⟨W1, hW1, X1, Y1, B1, Z1⟩ : ∃ W1, ((w.alloc (.cells #[.int .i64 g, .slice (some ⟨q, 0, none⟩) m.length cap] 29)).alloc (.cells #[.int .i64 0, .slice none 0 0] 29)) = W1 ∧ Blk W1 w.heap.size (rlA g (.slice (some ⟨q, 0, none⟩) m.length cap)) 29 ∧ Blk W1 (w.heap.size + 1) (rlA 0 (.slice none 0 0)) 29 ∧ Below w.heap.size w W1 ∧ W1.heap.size = w.heap.size + 2 :=
    ⟨_, rfl, (blk_new _ _ _ _ rfl).alloc _, blk_new _ _ _ _ (by simp), by go_grown, by simp⟩
  have c0 : W1.cell? ⟨w.heap.size, 0, none⟩ = some (.int .i64 g) := X1.cell rfl
  have c1 : W1.cell? ⟨w.heap.size, 1, none⟩ = some (.slice (some ⟨q, 0, none⟩) m.length cap) := X1.cell rfl
  have HR1 : Hid _ := h.below B1
  have HX1 : Hid _ := X1
  have HY1 : Hid _ := Y1
  have HZ1 : Hid _ := Z1
  have HC : Hid _ := hc
  clear h X1 Y1 Z1 hc
  have HF : Hid _ := refused_ref (g := g) W1 q cap m.length dst pt n (by omega)
  rw [show refPt g m.length pt n [dst] = refPt g l.length pt n [dst] by rw [hml]] at HF
  have hfrm : (0 ≤ frm ∧ frm < (l.length : Int)) ↔ (0 ≤ frm ∧ frm < (m.length : Int)) := by rw [hml]
  have hz1 := HZ1.out
  clear hml
  by_cases hf : 0 ≤ frm ∧ frm < (l.length : Int)
  · rw [refPt_two hf] at hr
    have hfm := hfrm.1 hf
    have hd1 : decide (frm < 0) = false := decide_eq_false (by omega)
    have hd2 : decide ((m.length : Int) ≤ frm) = false := decide_eq_false (by omega)
    have HO : Hid _ := hr
    clear hr
    by_cases he : refPt g l.length pt n [dst] = 0
    · rw [he] at HF
      obtain ⟨he1, p, rfl, hpg⟩ := refPt_ok he
      obtain ⟨j, rfl, hj, hn1, hn2⟩ := refE_one he1
      obtain ⟨i, rfl⟩ := Int.eq_ofNat_of_zero_le hf.1
      have hi : i < l.length := by omega
      have him : i < m.length := by rw [HML.out]; exact hi
      have hjm : j < m.length := by rw [HML.out]; exact hj
      have hp4 : p ≤ 4 := by omega
      have hbody : r = overR l i j (apf p) (hpf p) n := by
        have := HO.out
        rw [he] at this
        unfold gate at this
        rw [if_pos rfl] at this
        rw [← this]
        simp
      have sk := S.kept i hi p hp4
      have sn := S.nums H hi hp4
      have sj := S.nums H hj hp4
      have sx : 0 ≤ (kAt m i).n (5 + p) ∧ (kAt m i).n (5 + p) ≤ 1099511627776 := by omega
      have sy : 0 ≤ (kAt m j).n p ∧ (kAt m j).n p ≤ 1099511627776 := by omega
      by_cases hq0 : (kAt l i).n (hpf p) < n
      · have hres : r = (61, l) := by rw [hbody]; unfold overR; rw [if_pos hq0]
        have HE : Hid _ := hres
        have hd : decide ((kAt m i).n (5 + p) < n) = true := decide_eq_true (by omega)
        clear hbody hres HO he he1 sk sn sj hfrm hf hfm
        go_enter Tryd.func23, Tryd.ntmps23
        go_wp2_with fail
        refine Calls.mono HF.out ?_
        rintro e w2 ⟨rfl, b2⟩
        have z2 := b2.size
        have X2 := Blk.below HX1.out b2
        have R2 := Rm.below HR1.out b2
        have Y3 := Blk.below HY1.out b2
        have e0 : w2.cell? ⟨w.heap.size, 0, none⟩ = some (.int .i64 g) := X2.cell rfl
        have e1 : w2.cell? ⟨w.heap.size, 1, none⟩ = some (.slice (some ⟨q, 0, none⟩) m.length cap) := X2.cell rfl
        obtain ⟨dn, _, _⟩ := HC.out i him
        have B3 : Below w.heap.size w w2 := B1.trans (b2.mono (by omega))
        have dx : w2.cell? ⟨q, i * 12 + 5 + p, none⟩ = some (.int .i64 ((kAt m i).n (5 + p))) := by
          have := (B3.cell (p := ⟨q, i * 12 + (5 + p), none⟩) hq).trans (dn (5 + p) (by omega))
          rw [← Nat.add_assoc] at this
          exact this
        clear dn
        obtain ⟨W9, hW9, Y9, R9, B9⟩ : ∃ W9, w2.setRow (w.heap.size + 1) (rlA g (.slice (some ⟨q, 0, none⟩) m.length cap)) = W9 ∧ Blk W9 (w.heap.size + 1) (rlA g (.slice (some ⟨q, 0, none⟩) m.length cap)) 29 ∧ Rm W9 base (.slice (some ⟨q, 0, none⟩) m.length cap) m ∧ Below w.heap.size w W9 := ⟨_, rfl, Blk.setRow (Y3) _, Rm.row (R2) (Y3) _, below_setRow (B3) _ _ (by omega)⟩
        have s0 : W9.cell? ⟨w.heap.size + 1, 0, none⟩ = some (.int .i64 g) := Y9.cell rfl
        have s1 : W9.cell? ⟨w.heap.size + 1, 1, none⟩ = some (.slice (some ⟨q, 0, none⟩) m.length cap) := Y9.cell rfl
        have YY : Blk w2 (w.heap.size + 1) (rlA 0 (.slice none 0 0)) 29 := Y3
        go_wp2_with ((with_reducible refine st_row (ty := 29) (cs' := rlA g (.slice (some ⟨q, 0, none⟩) m.length cap)) YY (rlA_info _ _) (rlA_same _ _ _ _) (rlA_one _ _ _ _) hW9 ?_ ?_ ?_); rfl; rfl)
        try simp only [Exit.inBlock, Exit.then]
        refine bodyPost_ret (by simp [results, Tryd.results23, go_sem, s0, s1]; rfl) rfl ?_
        rw [HE.out]
        exact ⟨q, cap, m, rfl, R9, S, B9⟩
      · have hres : r = (0, over3 l i j (apf p) (hpf p) n) := by rw [hbody]; unfold overR; rw [if_neg hq0]
        have HE : Hid _ := hres
        have HSm : Hid _ := S.over (k := j) n hi hj hp4
        have hd : decide ((kAt m i).n (5 + p) < n) = false := decide_eq_false (by omega)
        have ef : (kAt (upd m i (5 + p) ((kAt m i).n (5 + p) - n)) j).n p = (kAt m j).n p := by rw [upd_at _ _ him, if_neg (by omega)]
        rw [ef] at HSm
        have EF : Hid _ := ef
        clear hbody hres HO he he1 sk sn sj hfrm hf hfm ef
        go_enter Tryd.func23, Tryd.ntmps23
        go_wp2_with fail
        refine Calls.mono HF.out ?_
        rintro e w2 ⟨rfl, b2⟩
        have z2 := b2.size
        have X2 := Blk.below HX1.out b2
        have R2 := Rm.below HR1.out b2
        have Y3 := Blk.below HY1.out b2
        have e0 : w2.cell? ⟨w.heap.size, 0, none⟩ = some (.int .i64 g) := X2.cell rfl
        have e1 : w2.cell? ⟨w.heap.size, 1, none⟩ = some (.slice (some ⟨q, 0, none⟩) m.length cap) := X2.cell rfl
        obtain ⟨dn, _, _⟩ := HC.out i him
        have B3 : Below w.heap.size w w2 := B1.trans (b2.mono (by omega))
        have dx : w2.cell? ⟨q, i * 12 + 5 + p, none⟩ = some (.int .i64 ((kAt m i).n (5 + p))) := by
          have := (B3.cell (p := ⟨q, i * 12 + (5 + p), none⟩) hq).trans (dn (5 + p) (by omega))
          rw [← Nat.add_assoc] at this
          exact this
        clear dn
        have HK : Hid _ := copy_ref (g := g) w2 _ R2 (by omega) (by omega)
        go_wp2_with fail
        refine Calls.mono HK.out ?_
        rintro e w4 ⟨q2, cap2, rfl, R4, b4⟩
        have z4 := b4.size
        obtain ⟨W5, hW5, X5, B5, Z5⟩ : ∃ W5, (w4.alloc (.cells #[.int .i64 g, .slice (some ⟨q2, 0, none⟩) m.length cap2] 29)) = W5 ∧ Blk W5 w4.heap.size (rlA g (.slice (some ⟨q2, 0, none⟩) m.length cap2)) 29 ∧ Below w4.heap.size w4 W5 ∧ W5.heap.size = w4.heap.size + 1 := ⟨_, rfl, blk_new _ _ _ _ rfl, by go_grown, by simp⟩
        have R5 := R4.below B5
        have Y5 := (Y3.below b4).below B5
        have ap1 := R5.apart X5
        have ap2 := R5.apart Y5
        obtain ⟨q5, cap5, hv5, hb5, hq5, hc5, hcc⟩ := R5.at (by omega)
        injection hv5 with u1 u2 u3
        injection u1 with u1
        injection u1 with u1
        subst u1 u3
        obtain ⟨dn5, _, fr5⟩ := hcc i him
        have g1 : W5.cell? ⟨w4.heap.size, 1, none⟩ = some (.slice (some ⟨q2, 0, none⟩) m.length cap2) := X5.cell rfl
        have n1 : W5.cell? ⟨q2, i * 12 + 5 + p, none⟩ = some (.int .i64 ((kAt m i).n (5 + p))) := by
          have := dn5 (5 + p) (by omega)
          rw [← Nat.add_assoc] at this
          exact this
        have n2 : W5.frozen? ⟨q2, i * 12 + 5 + p, none⟩ = false := fr5 _
        have RS : Rm (W5.setCell ⟨q2, i * 12 + 5 + p, none⟩ (.int .i64 ((kAt m i).n (5 + p) - n))) w2.heap.size (.slice (some ⟨q2, 0, none⟩) m.length cap2) (upd m i (5 + p) ((kAt m i).n (5 + p) - n)) := by
          have := R5.set (i := i) (j := 5 + p) ((kAt m i).n (5 + p) - n) him (by omega)
          rw [← Nat.add_assoc] at this
          exact this
        obtain ⟨W6, hW6, R6, X6, Y6, B6⟩ : ∃ W6, W5.setCell ⟨q2, i * 12 + 5 + p, none⟩ (.int .i64 ((kAt m i).n (5 + p) - n)) = W6 ∧ Rm W6 w2.heap.size (.slice (some ⟨q2, 0, none⟩) m.length cap2) (upd m i (5 + p) ((kAt m i).n (5 + p) - n)) ∧ Blk W6 w4.heap.size (rlA g (.slice (some ⟨q2, 0, none⟩) m.length cap2)) 29 ∧ Blk W6 (w.heap.size + 1) (rlA 0 (.slice none 0 0)) 29 ∧ Below w.heap.size w W6 :=
          ⟨_, rfl, RS, X5.setOther (p := ⟨q2, i * 12 + 5 + p, none⟩) (Ne.symm ap1) _, Y5.setOther (p := ⟨q2, i * 12 + 5 + p, none⟩) (Ne.symm ap2) _, ((B3.trans (b4.mono (by omega))).trans (B5.mono (by omega))).setCell (p := ⟨q2, i * 12 + 5 + p, none⟩) (show w.heap.size ≤ q2 by omega) _⟩
        have R6' : Rm W6 w2.heap.size (.slice (some ⟨q2, 0, none⟩) (upd m i (5 + p) ((kAt m i).n (5 + p) - n)).length cap2) (upd m i (5 + p) ((kAt m i).n (5 + p) - n)) := by rw [upd_len]; exact R6
        obtain ⟨q6, cap6, hv6, hb6, hq6, hc6, hcc6⟩ := R6'.at (by rw [upd_len]; exact hpm)
        injection hv6 with u1 u2 u3
        injection u1 with u1
        injection u1 with u1
        subst u1 u3
        obtain ⟨dn6, _, fr6⟩ := hcc6 j (by rw [upd_len]; exact hjm)
        have j1 : W6.cell? ⟨w4.heap.size, 1, none⟩ = some (.slice (some ⟨q2, 0, none⟩) m.length cap2) := X6.cell rfl
        have o1 : W6.cell? ⟨q2, j * 12 + p, none⟩ = some (.int .i64 ((kAt m j).n p)) := by rw [← EF.out]; exact dn6 p (by omega)
        have o2 : W6.frozen? ⟨q2, j * 12 + p, none⟩ = false := fr6 _
        have RT : Rm (W6.setCell ⟨q2, j * 12 + p, none⟩ (.int .i64 ((kAt m j).n p + n))) w2.heap.size (.slice (some ⟨q2, 0, none⟩) m.length cap2) (upd (upd m i (5 + p) ((kAt m i).n (5 + p) - n)) j p ((kAt m j).n p + n)) := by
          have := R6'.set (i := j) (j := p) ((kAt m j).n p + n) (by rw [upd_len]; exact hjm) (by omega)
          rw [upd_len] at this
          exact this
        obtain ⟨W7, hW7, R7, X7, Y7, B7⟩ : ∃ W7, W6.setCell ⟨q2, j * 12 + p, none⟩ (.int .i64 ((kAt m j).n p + n)) = W7 ∧ Rm W7 w2.heap.size (.slice (some ⟨q2, 0, none⟩) m.length cap2) (upd (upd m i (5 + p) ((kAt m i).n (5 + p) - n)) j p ((kAt m j).n p + n)) ∧ Blk W7 w4.heap.size (rlA g (.slice (some ⟨q2, 0, none⟩) m.length cap2)) 29 ∧ Blk W7 (w.heap.size + 1) (rlA 0 (.slice none 0 0)) 29 ∧ Below w.heap.size w W7 :=
          ⟨_, rfl, RT, X6.setOther (p := ⟨q2, j * 12 + p, none⟩) (Ne.symm ap1) _, Y6.setOther (p := ⟨q2, j * 12 + p, none⟩) (Ne.symm ap2) _, B6.setCell (p := ⟨q2, j * 12 + p, none⟩) (show w.heap.size ≤ q2 by omega) _⟩
        have k0 : W7.cell? ⟨w4.heap.size, 0, none⟩ = some (.int .i64 g) := X7.cell rfl
        have k1 : W7.cell? ⟨w4.heap.size, 1, none⟩ = some (.slice (some ⟨q2, 0, none⟩) m.length cap2) := X7.cell rfl
        have hil : (i : Int) < (m.length : Int) := by omega
        have hjl : (j : Int) < (m.length : Int) := by omega
        have YY : Blk W7.drew.drew (w.heap.size + 1) (rlA 0 (.slice none 0 0)) 29 := Y7.drew.drew
        obtain ⟨W9, hW9, Y9, R9, B9⟩ : ∃ W9, W7.drew.drew.setRow (w.heap.size + 1) (rlA g (.slice (some ⟨q2, 0, none⟩) m.length cap2)) = W9 ∧ Blk W9 (w.heap.size + 1) (rlA g (.slice (some ⟨q2, 0, none⟩) m.length cap2)) 29 ∧ Rm W9 base (.slice (some ⟨q2, 0, none⟩) m.length cap2) (upd (upd m i (5 + p) ((kAt m i).n (5 + p) - n)) j p ((kAt m j).n p + n)) ∧ Below w.heap.size w W9 := ⟨_, rfl, Blk.setRow YY _, Rm.row (Rm.weak (show Rm W7.drew.drew _ _ _ from R7) (by omega)) YY _, below_setRow B7.drew.drew _ _ (by omega)⟩
        have s0 : W9.cell? ⟨w.heap.size + 1, 0, none⟩ = some (.int .i64 g) := Y9.cell rfl
        have s1 : W9.cell? ⟨w.heap.size + 1, 1, none⟩ = some (.slice (some ⟨q2, 0, none⟩) m.length cap2) := Y9.cell rfl
        have HR9 : Hid _ := R9
        clear R9 R7 RT R6 R6' R5 R4 R2 RS X5 X6 X7 hcc dn5 fr5 hcc6 dn6 fr6
        generalize (kAt m i).n (5 + p) = x at *
        generalize (kAt m j).n p = y at *
        go_wp2
        go_region
        go_wp2
        go_region
        go_wp2_with ((with_reducible refine st_row (ty := 29) (cs' := rlA g (.slice (some ⟨q2, 0, none⟩) m.length cap2)) YY (rlA_info _ _) (rlA_same _ _ _ _) (rlA_one _ _ _ _) hW9 ?_ ?_ ?_); rfl; rfl)
        try simp only [Exit.inBlock, Exit.then]
        refine bodyPost_ret (by simp [results, Tryd.results23, go_sem, s0, s1]; rfl) rfl ?_
        rw [HE.out]
        exact ⟨q2, cap2, _, by rw [upd_len, upd_len], by rw [upd_len, upd_len]; exact HR9.out, HSm.out, B9⟩
    · have hres : r = (refPt g l.length pt n [dst], l) := by
        have := HO.out
        unfold gate at this
        rw [if_neg he] at this
        exact this.symm
      have HE : Hid _ := hres
      clear hres HO hfrm hf hfm
      generalize refPt g l.length pt n [dst] = zz at *
      have hb0 : (zz == 0) = false := by simpa using he
      go_enter Tryd.func23, Tryd.ntmps23
      go_wp2_with fail
      refine Calls.mono HF.out ?_
      rintro e w2 ⟨rfl, b2⟩
      have z2 := b2.size
      have X2 := Blk.below HX1.out b2
      have R2 := Rm.below HR1.out b2
      have Y3 := Blk.below HY1.out b2
      have e0 : w2.cell? ⟨w.heap.size, 0, none⟩ = some (.int .i64 g) := X2.cell rfl
      have e1 : w2.cell? ⟨w.heap.size, 1, none⟩ = some (.slice (some ⟨q, 0, none⟩) m.length cap) := X2.cell rfl
      obtain ⟨W9, hW9, Y9, R9, B9⟩ : ∃ W9, w2.setRow (w.heap.size + 1) (rlA g (.slice (some ⟨q, 0, none⟩) m.length cap)) = W9 ∧ Blk W9 (w.heap.size + 1) (rlA g (.slice (some ⟨q, 0, none⟩) m.length cap)) 29 ∧ Rm W9 base (.slice (some ⟨q, 0, none⟩) m.length cap) m ∧ Below w.heap.size w W9 := ⟨_, rfl, Blk.setRow (Y3) _, Rm.row (R2) (Y3) _, below_setRow (B1.trans (b2.mono (by omega))) _ _ (by omega)⟩
      have s0 : W9.cell? ⟨w.heap.size + 1, 0, none⟩ = some (.int .i64 g) := Y9.cell rfl
      have s1 : W9.cell? ⟨w.heap.size + 1, 1, none⟩ = some (.slice (some ⟨q, 0, none⟩) m.length cap) := Y9.cell rfl
      have YY : Blk w2 (w.heap.size + 1) (rlA 0 (.slice none 0 0)) 29 := Y3
      go_wp2_with ((with_reducible refine st_row (ty := 29) (cs' := rlA g (.slice (some ⟨q, 0, none⟩) m.length cap)) YY (rlA_info _ _) (rlA_same _ _ _ _) (rlA_one _ _ _ _) hW9 ?_ ?_ ?_); rfl; rfl)
      try simp only [Exit.inBlock, Exit.then]
      refine bodyPost_ret (by simp [results, Tryd.results23, go_sem, s0, s1]; rfl) rfl ?_
      rw [HE.out]
      exact ⟨q, cap, m, rfl, R9, S, B9⟩
  · rw [refPt_bad hf] at hr
    have HE : Hid (r = (60, l)) := by show _ = _; rw [← hr]; rfl
    have hfm : ¬ (0 ≤ frm ∧ frm < (m.length : Int)) := fun h => hf (hfrm.2 h)
    clear hr hfrm hf HF
    cases d1 : decide (frm < 0)
    · have d2 : decide ((m.length : Int) ≤ frm) = true := decide_eq_true (by simp at d1; omega)
      go_enter Tryd.func23, Tryd.ntmps23
      obtain ⟨W9, hW9, Y9, R9, B9⟩ : ∃ W9, W1.setRow (w.heap.size + 1) (rlA g (.slice (some ⟨q, 0, none⟩) m.length cap)) = W9 ∧ Blk W9 (w.heap.size + 1) (rlA g (.slice (some ⟨q, 0, none⟩) m.length cap)) 29 ∧ Rm W9 base (.slice (some ⟨q, 0, none⟩) m.length cap) m ∧ Below w.heap.size w W9 := ⟨_, rfl, Blk.setRow (HY1.out) _, Rm.row (HR1.out) (HY1.out) _, below_setRow (B1) _ _ (by omega)⟩
      have s0 : W9.cell? ⟨w.heap.size + 1, 0, none⟩ = some (.int .i64 g) := Y9.cell rfl
      have s1 : W9.cell? ⟨w.heap.size + 1, 1, none⟩ = some (.slice (some ⟨q, 0, none⟩) m.length cap) := Y9.cell rfl
      have YY : Blk W1 (w.heap.size + 1) (rlA 0 (.slice none 0 0)) 29 := HY1.out
      go_wp2_with ((with_reducible refine st_row (ty := 29) (cs' := rlA g (.slice (some ⟨q, 0, none⟩) m.length cap)) YY (rlA_info _ _) (rlA_same _ _ _ _) (rlA_one _ _ _ _) hW9 ?_ ?_ ?_); rfl; rfl)
      try simp only [Exit.inBlock, Exit.then]
      refine bodyPost_ret (by simp [results, Tryd.results23, go_sem, s0, s1]; rfl) rfl ?_
      rw [HE.out]
      exact ⟨q, cap, m, rfl, R9, S, B9⟩
    · go_enter Tryd.func23, Tryd.ntmps23
      obtain ⟨W9, hW9, Y9, R9, B9⟩ : ∃ W9, W1.setRow (w.heap.size + 1) (rlA g (.slice (some ⟨q, 0, none⟩) m.length cap)) = W9 ∧ Blk W9 (w.heap.size + 1) (rlA g (.slice (some ⟨q, 0, none⟩) m.length cap)) 29 ∧ Rm W9 base (.slice (some ⟨q, 0, none⟩) m.length cap) m ∧ Below w.heap.size w W9 := ⟨_, rfl, Blk.setRow (HY1.out) _, Rm.row (HR1.out) (HY1.out) _, below_setRow (B1) _ _ (by omega)⟩
      have s0 : W9.cell? ⟨w.heap.size + 1, 0, none⟩ = some (.int .i64 g) := Y9.cell rfl
      have s1 : W9.cell? ⟨w.heap.size + 1, 1, none⟩ = some (.slice (some ⟨q, 0, none⟩) m.length cap) := Y9.cell rfl
      have YY : Blk W1 (w.heap.size + 1) (rlA 0 (.slice none 0 0)) 29 := HY1.out
      go_wp2_with ((with_reducible refine st_row (ty := 29) (cs' := rlA g (.slice (some ⟨q, 0, none⟩) m.length cap)) YY (rlA_info _ _) (rlA_same _ _ _ _) (rlA_one _ _ _ _) hW9 ?_ ?_ ?_); rfl; rfl)
      try simp only [Exit.inBlock, Exit.then]
      refine bodyPost_ret (by simp [results, Tryd.results23, go_sem, s0, s1]; rfl) rfl ?_
      rw [HE.out]
      exact ⟨q, cap, m, rfl, R9, S, B9⟩
end Go.Proofs.YtmcafgmjfgfaeaaDoor
