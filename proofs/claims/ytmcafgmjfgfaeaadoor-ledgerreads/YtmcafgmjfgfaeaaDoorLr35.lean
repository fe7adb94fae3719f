/- The document: more, and less, of a part. -/
import Derived.Test.YtmcafgmjfgfaeaaDoorLr34
namespace Go.Proofs.YtmcafgmjfgfaeaaDoor
open Go.RowKit
set_option linter.unusedSimpArgs false
set_option linter.unusedVariables false
variable {g base : Nat} {m l : List Kt}

/-- What the document makes of a call: its ledger tells what the program's has then. -/
def Told (r : Int × List Kt) (g base : Nat) (w : World) (e : Ending) (w' : World) : Prop :=
  ∃ q cap m', e = .returned (.tuple #[.agg #[.int .i64 g, .slice (some ⟨q, 0, none⟩) m'.length cap], .int .i64 r.1]) ∧ Rm w' base (.slice (some ⟨q, 0, none⟩) m'.length cap) m' ∧ Sim m' r.2 ∧ Below w.heap.size w w'
/-- The same, with the list that it makes: the ledger itself, where it is refused; else a new row. -/
def ToldY (r : Int × List Kt) (m m2 : List Kt) (v : Value) (g base : Nat) (w : World) (e : Ending) (w' : World) : Prop :=
  (r.1 ≠ 0 ∧ r.2 = r.2 ∧ e = .returned (.tuple #[.agg #[.int .i64 g, v], .int .i64 r.1]) ∧ Rm w' base v m ∧ Below w.heap.size w w') ∨
  (r.1 = 0 ∧ ∃ q cap, e = .returned (.tuple #[.agg #[.int .i64 g, .slice (some ⟨q, 0, none⟩) m.length cap], .int .i64 r.1]) ∧ Rm w' w.heap.size (.slice (some ⟨q, 0, none⟩) m.length cap) m2 ∧ Below w.heap.size w w')
theorem Rm.row {w : World} {v : Value} (h : Rm w base v m) {k : Nat} {g0 : Int} {u : Value} (Y : Blk w k (rlA g0 u) 29) (cs : Array Value) : Rm (w.setRow k cs) base v m := by
  refine World.ownsRow.kept h (row := some k) ⟨rfl, rfl, rfl, by simp, fun j _ hj => setRow_other w _ j _ (fun e => hj (by rw [e]))⟩ ?_
  obtain ⟨_, ⟨rfl, _⟩ | ⟨q', cap', cur, rfl, _, hh, _⟩⟩ := h
  · exact Or.inl rfl
  · refine Or.inr ?_
    simp only [Value.ownBlock, ne_eq, Option.some.injEq]
    intro e
    unfold Blk at Y
    rw [← e, hh] at Y
    injection Y with Y
    injection Y with _ e2
    revert e2; decide
/-- The copy's block is not that of the struct that holds it. -/
theorem Rm.apart {w : World} {q n cap : Nat} (h : Rm w base (.slice (some ⟨q, 0, none⟩) n cap) m) {k : Nat} {g0 : Int} {u : Value} (Y : Blk w k (rlA g0 u) 29) : q ≠ k := by
  obtain ⟨_, ⟨h2, _⟩ | ⟨q', cap', cur, hv, _, hh, _⟩⟩ := h
  · cases h2
  · injection hv with e1
    injection e1 with e1
    injection e1 with e1
    subst e1
    intro e
    unfold Blk at Y
    rw [← e, hh] at Y
    injection Y with Y
    injection Y with _ e2
    revert e2; decide

set_option maxRecDepth 100000 in
set_option maxHeartbeats 4000000 in
theorem in_ref (w : World) (v : Value) (who pt n : Int) (h : Rm w base v m) (S : Sim m l) (H : Inv g l) (hbase : base ≤ w.heap.size) (r : Int × List Kt) (hr : gate (refPt g l.length pt n [who]) l (inR l who.toNat (apf pt.toNat) n) = r) :
    Calls Tryd.prog 18 #[.agg #[.int .i64 g, v], .int .i64 who, .int .i64 pt, .int .i64 n] w (Told r g base w) := by
  have hlen := H.len
  have hpos := H.pos
  have hg4 := H.g4
  have hml := S.len
  have hpm : 0 < m.length := by omega
  have hlm : m.length ≤ 16 := by omega
  have HML : Hid _ := hml
  obtain ⟨q, cap, rfl, hbq, hq, hcap, hc⟩ := h.at hpm
  obtain ⟨W1, hW1, X1, Y1, B1, Z1⟩ : ∃ W1, ((w.alloc (.cells #[.int .i64 g, .slice (some ⟨q, 0, none⟩) m.length cap] 29)).alloc (.cells #[.int .i64 0, .slice none 0 0] 29)) = W1 ∧ Blk W1 w.heap.size (rlA g (.slice (some ⟨q, 0, none⟩) m.length cap)) 29 ∧ Blk W1 (w.heap.size + 1) (rlA 0 (.slice none 0 0)) 29 ∧ Below w.heap.size w W1 ∧ W1.heap.size = w.heap.size + 2 :=
    ⟨_, rfl, (blk_new _ _ _ _ rfl).alloc _, blk_new _ _ _ _ (by simp), by go_grown, by simp⟩
  have c0 : W1.cell? ⟨w.heap.size, 0, none⟩ = some (.int .i64 g) := X1.cell rfl
  have c1 : W1.cell? ⟨w.heap.size, 1, none⟩ = some (.slice (some ⟨q, 0, none⟩) m.length cap) := X1.cell rfl
  have HR1 : Hid _ := h.below B1
  have HX1 : Hid _ := X1
  have HY1 : Hid _ := Y1
  have HZ1 : Hid _ := Z1
  have HC : Hid _ := hc
  clear h X1 Y1 Z1 hc
  have HF : Hid _ := refused_ref (g := g) W1 q cap m.length who pt n (by omega)
  rw [show refPt g m.length pt n [who] = refPt g l.length pt n [who] by rw [hml]] at HF
  clear hml
  have HO : Hid _ := hr
  clear hr
  have hz1 := HZ1.out
  by_cases he : refPt g l.length pt n [who] = 0
  · rw [he] at HF
    obtain ⟨he1, p, rfl, hpg⟩ := refPt_ok he
    obtain ⟨i, rfl, hi, hn1, hn2⟩ := refE_one he1
    have hp4 : p ≤ 4 := by omega
    have him : i < m.length := by rw [HML.out]; exact hi
    have hbody : r = inR l i (apf p) n := by
      have := HO.out
      rw [he] at this
      unfold gate at this
      rw [if_pos rfl] at this
      rw [← this]
      simp
    have hg1 := H.g1
    have z := H.le (part_of hp4) hi
    have t := H.sums l.length (Nat.le_refl _) (part_of hp4)
    rw [List.take_length] at t
    have sn := S.nums H hi hp4
    have sf := S.free i hi p hp4
    by_cases hq0 : 1099511627776 < tot l (apf p) + n
    · have hres : r = (62, l) := by rw [hbody]; unfold inR; rw [if_pos hq0]
      have HE : Hid _ := hres
      clear hbody hres HO he he1
      have hd : decide (1099511627776 - n < tot l (apf p)) = true := decide_eq_true (by omega)
      have sx : 0 ≤ (kAt m i).n p ∧ (kAt m i).n p ≤ 1099511627776 := by omega
      clear sf sn
      go_enter Tryd.func18, Tryd.ntmps18
      go_wp2_with fail
      refine Calls.mono HF.out ?_
      rintro e w2 ⟨rfl, b2⟩
      have z2 := b2.size
      have X2 := Blk.below HX1.out b2
      have R2 := Rm.below HR1.out b2
      have e0 : w2.cell? ⟨w.heap.size, 0, none⟩ = some (.int .i64 g) := X2.cell rfl
      have e1 : w2.cell? ⟨w.heap.size, 1, none⟩ = some (.slice (some ⟨q, 0, none⟩) m.length cap) := X2.cell rfl
      have HT : Hid _ := total_ref w2 _ p p rfl R2 S H hp4
      go_wp2_with fail
      refine Calls.mono HT.out ?_
      rintro e w3 ⟨rfl, b3⟩
      have z3 := b3.size
      have X3 := X2.below b3
      have R3 := R2.below b3
      have Y3 := (Blk.below HY1.out b2).below b3
      have B3 : Below w.heap.size w w3 := (B1.trans (b2.mono (by omega))).trans (b3.mono (by omega))
      have f0 : w3.cell? ⟨w.heap.size, 0, none⟩ = some (.int .i64 g) := X3.cell rfl
      have f1 : w3.cell? ⟨w.heap.size, 1, none⟩ = some (.slice (some ⟨q, 0, none⟩) m.length cap) := X3.cell rfl
      obtain ⟨W9, hW9, Y9, R9, B9⟩ : ∃ W9, w3.setRow (w.heap.size + 1) (rlA g (.slice (some ⟨q, 0, none⟩) m.length cap)) = W9 ∧ Blk W9 (w.heap.size + 1) (rlA g (.slice (some ⟨q, 0, none⟩) m.length cap)) 29 ∧ Rm W9 base (.slice (some ⟨q, 0, none⟩) m.length cap) m ∧ Below w.heap.size w W9 := ⟨_, rfl, Blk.setRow (Y3) _, Rm.row (R3) (Y3) _, below_setRow (B3) _ _ (by omega)⟩
      have s0 : W9.cell? ⟨w.heap.size + 1, 0, none⟩ = some (.int .i64 g) := Y9.cell rfl
      have s1 : W9.cell? ⟨w.heap.size + 1, 1, none⟩ = some (.slice (some ⟨q, 0, none⟩) m.length cap) := Y9.cell rfl
      have YY : Blk w3 (w.heap.size + 1) (rlA 0 (.slice none 0 0)) 29 := Y3
      go_wp2_with ((with_reducible refine st_row (ty := 29) (cs' := rlA g (.slice (some ⟨q, 0, none⟩) m.length cap)) YY (rlA_info _ _) (rlA_same _ _ _ _) (rlA_one _ _ _ _) hW9 ?_ ?_ ?_); rfl; rfl)
      try simp only [Exit.inBlock, Exit.then]
      refine bodyPost_ret (by simp [results, Tryd.results18, go_sem, s0, s1]; rfl) rfl ?_
      rw [HE.out]
      exact ⟨q, cap, m, rfl, R9, S, B9⟩
    · have hres : r = (0, upd l i (apf p) ((kAt l i).n (apf p) + n)) := by rw [hbody]; unfold inR; rw [if_neg hq0]
      have HE : Hid _ := hres
      have HSm : Hid (Sim (upd m i p ((kAt m i).n p + n)) (upd l i (apf p) ((kAt l i).n (apf p) + n))) := by
        show Sim _ _
        have := S.addFree (n) hi hp4
        simpa [Int.sub_eq_add_neg] using this
      clear hbody hres HO he he1
      have hd : decide (1099511627776 - n < tot l (apf p)) = false := decide_eq_false (by omega)
      have sx : 0 ≤ (kAt m i).n p ∧ (kAt m i).n p ≤ 1099511627776 := by omega
      clear sf sn
      go_enter Tryd.func18, Tryd.ntmps18
      go_wp2_with fail
      refine Calls.mono HF.out ?_
      rintro e w2 ⟨rfl, b2⟩
      have z2 := b2.size
      have X2 := Blk.below HX1.out b2
      have R2 := Rm.below HR1.out b2
      have e0 : w2.cell? ⟨w.heap.size, 0, none⟩ = some (.int .i64 g) := X2.cell rfl
      have e1 : w2.cell? ⟨w.heap.size, 1, none⟩ = some (.slice (some ⟨q, 0, none⟩) m.length cap) := X2.cell rfl
      have HT : Hid _ := total_ref w2 _ p p rfl R2 S H hp4
      go_wp2_with fail
      refine Calls.mono HT.out ?_
      rintro e w3 ⟨rfl, b3⟩
      have z3 := b3.size
      have X3 := X2.below b3
      have R3 := R2.below b3
      have Y3 := (Blk.below HY1.out b2).below b3
      have B3 : Below w.heap.size w w3 := (B1.trans (b2.mono (by omega))).trans (b3.mono (by omega))
      have f0 : w3.cell? ⟨w.heap.size, 0, none⟩ = some (.int .i64 g) := X3.cell rfl
      have f1 : w3.cell? ⟨w.heap.size, 1, none⟩ = some (.slice (some ⟨q, 0, none⟩) m.length cap) := X3.cell rfl
      have HK : Hid _ := copy_ref (g := g) w3 _ R3 (by omega) (by omega)
      go_wp2_with fail
      refine Calls.mono HK.out ?_
      rintro e w4 ⟨q2, cap2, rfl, R4, b4⟩
      have z4 := b4.size
      obtain ⟨W5, hW5, X5, B5, Z5⟩ : ∃ W5, (w4.alloc (.cells #[.int .i64 g, .slice (some ⟨q2, 0, none⟩) m.length cap2] 29)) = W5 ∧ Blk W5 w4.heap.size (rlA g (.slice (some ⟨q2, 0, none⟩) m.length cap2)) 29 ∧ Below w4.heap.size w4 W5 ∧ W5.heap.size = w4.heap.size + 1 := ⟨_, rfl, blk_new _ _ _ _ rfl, by go_grown, by simp⟩
      have R5 := R4.below B5
      have Y5 := (Y3.below b4).below B5
      obtain ⟨q5, cap5, hv5, hb5, hq5, hc5, hcc⟩ := R5.at (by omega)
      injection hv5 with u1 u2 u3
      injection u1 with u1
      injection u1 with u1
      subst u1 u3
      obtain ⟨dn5, _, fr5⟩ := hcc i (by omega)
      have g1 : W5.cell? ⟨w4.heap.size, 1, none⟩ = some (.slice (some ⟨q2, 0, none⟩) m.length cap2) := X5.cell rfl
      have n1 : W5.cell? ⟨q2, i * 12 + p, none⟩ = some (.int .i64 ((kAt m i).n p)) := dn5 p (by omega)
      have n2 : W5.frozen? ⟨q2, i * 12 + p, none⟩ = false := fr5 _
      obtain ⟨W6, hW6, R6, X6, Y6, B6⟩ : ∃ W6, W5.setCell ⟨q2, i * 12 + p, none⟩ (.int .i64 ((kAt m i).n p + n)) = W6 ∧ Rm W6 w3.heap.size (.slice (some ⟨q2, 0, none⟩) m.length cap2) (upd m i p ((kAt m i).n p + n)) ∧ Blk W6 w4.heap.size (rlA g (.slice (some ⟨q2, 0, none⟩) m.length cap2)) 29 ∧ Blk W6 (w.heap.size + 1) (rlA 0 (.slice none 0 0)) 29 ∧ Below w.heap.size w W6 :=
        ⟨_, rfl, R5.set _ (by omega) (by omega), X5.setOther (p := ⟨q2, i * 12 + p, none⟩) (Ne.symm (R5.apart X5)) _, Y5.setOther (p := ⟨q2, i * 12 + p, none⟩) (Ne.symm (R5.apart Y5)) _, ((B3.trans (b4.mono (by omega))).trans (B5.mono (by omega))).setCell (p := ⟨q2, i * 12 + p, none⟩) (show w.heap.size ≤ q2 by omega) _⟩
      have k0 : W6.cell? ⟨w4.heap.size, 0, none⟩ = some (.int .i64 g) := X6.cell rfl
      have k1 : W6.cell? ⟨w4.heap.size, 1, none⟩ = some (.slice (some ⟨q2, 0, none⟩) m.length cap2) := X6.cell rfl
      have hil : (i : Int) < (m.length : Int) := by omega
      have YY : Blk W6.drew (w.heap.size + 1) (rlA 0 (.slice none 0 0)) 29 := Y6.drew
      obtain ⟨W9, hW9, Y9, R9, B9⟩ : ∃ W9, W6.drew.setRow (w.heap.size + 1) (rlA g (.slice (some ⟨q2, 0, none⟩) m.length cap2)) = W9 ∧ Blk W9 (w.heap.size + 1) (rlA g (.slice (some ⟨q2, 0, none⟩) m.length cap2)) 29 ∧ Rm W9 base (.slice (some ⟨q2, 0, none⟩) m.length cap2) (upd m i p ((kAt m i).n p + n)) ∧ Below w.heap.size w W9 := ⟨_, rfl, Blk.setRow YY _, Rm.row (Rm.weak (show Rm W6.drew _ _ _ from R6) (by omega)) YY _, below_setRow B6.drew _ _ (by omega)⟩
      have s0 : W9.cell? ⟨w.heap.size + 1, 0, none⟩ = some (.int .i64 g) := Y9.cell rfl
      have s1 : W9.cell? ⟨w.heap.size + 1, 1, none⟩ = some (.slice (some ⟨q2, 0, none⟩) m.length cap2) := Y9.cell rfl
      have HR9 : Hid _ := R9
      have HSx : Hid _ := HSm.out
      clear R9 R6 R5 R4 X5 X6 hcc dn5 fr5 HSm
      generalize hx : (kAt m i).n p = x at *
      go_wp2
      go_region
      go_wp2_with ((with_reducible refine st_row (ty := 29) (cs' := rlA g (.slice (some ⟨q2, 0, none⟩) m.length cap2)) YY (rlA_info _ _) (rlA_same _ _ _ _) (rlA_one _ _ _ _) hW9 ?_ ?_ ?_); rfl; rfl)
      try simp only [Exit.inBlock, Exit.then]
      refine bodyPost_ret (by simp [results, Tryd.results18, go_sem, s0, s1]; rfl) rfl ?_
      rw [HE.out]
      exact ⟨q2, cap2, _, by rw [upd_len], by rw [upd_len]; exact HR9.out, HSx.out, B9⟩
  · have hres : r = (refPt g l.length pt n [who], l) := by
      have := HO.out
      unfold gate at this
      rw [if_neg he] at this
      exact this.symm
    have HE : Hid _ := hres
    clear hres HO
    generalize refPt g l.length pt n [who] = zz at *
    have hb0 : (zz == 0) = false := by simpa using he
    go_enter Tryd.func18, Tryd.ntmps18
    go_wp2_with fail
    refine Calls.mono HF.out ?_
    rintro e w2 ⟨rfl, b2⟩
    have X2 := Blk.below HX1.out b2
    have R2 := Rm.below HR1.out b2
    have Y3 := Blk.below HY1.out b2
    have e0 : w2.cell? ⟨w.heap.size, 0, none⟩ = some (.int .i64 g) := X2.cell rfl
    have e1 : w2.cell? ⟨w.heap.size, 1, none⟩ = some (.slice (some ⟨q, 0, none⟩) m.length cap) := X2.cell rfl
    obtain ⟨W9, hW9, Y9, R9, B9⟩ : ∃ W9, w2.setRow (w.heap.size + 1) (rlA g (.slice (some ⟨q, 0, none⟩) m.length cap)) = W9 ∧ Blk W9 (w.heap.size + 1) (rlA g (.slice (some ⟨q, 0, none⟩) m.length cap)) 29 ∧ Rm W9 base (.slice (some ⟨q, 0, none⟩) m.length cap) m ∧ Below w.heap.size w W9 := ⟨_, rfl, Blk.setRow (Y3) _, Rm.row (R2) (Y3) _, below_setRow (B1.trans (b2.mono (by omega))) _ _ (by omega)⟩
    have s0 : W9.cell? ⟨w.heap.size + 1, 0, none⟩ = some (.int .i64 g) := Y9.cell rfl
    have s1 : W9.cell? ⟨w.heap.size + 1, 1, none⟩ = some (.slice (some ⟨q, 0, none⟩) m.length cap) := Y9.cell rfl
    have YY : Blk w2 (w.heap.size + 1) (rlA 0 (.slice none 0 0)) 29 := Y3
    go_wp2_with ((with_reducible refine st_row (ty := 29) (cs' := rlA g (.slice (some ⟨q, 0, none⟩) m.length cap)) YY (rlA_info _ _) (rlA_same _ _ _ _) (rlA_one _ _ _ _) hW9 ?_ ?_ ?_); rfl; rfl)
    try simp only [Exit.inBlock, Exit.then]
    refine bodyPost_ret (by simp [results, Tryd.results18, go_sem, s0, s1]; rfl) rfl ?_
    rw [HE.out]
    exact ⟨q, cap, m, rfl, R9, S, B9⟩

set_option maxRecDepth 100000 in
set_option maxHeartbeats 4000000 in
theorem out_ref (w : World) (v : Value) (who pt n : Int) (h : Rm w base v m) (S : Sim m l) (H : Inv g l) (hbase : base ≤ w.heap.size) (r : Int × List Kt) (hr : gate (refPt g l.length pt n [who]) l (outR l who.toNat (apf pt.toNat) (hpf pt.toNat) n) = r) :
    Calls Tryd.prog 19 #[.agg #[.int .i64 g, v], .int .i64 who, .int .i64 pt, .int .i64 n] w (ToldY r m (upd m who.toNat pt.toNat ((kAt m who.toNat).n pt.toNat - n)) v g base w) := by
  have hlen := H.len
  have hpos := H.pos
  have hg4 := H.g4
  have hml := S.len
  have hpm : 0 < m.length := by omega
  have hlm : m.length ≤ 16 := by omega
  have HML : Hid _ := hml
  obtain ⟨q, cap, rfl, hbq, hq, hcap, hc⟩ := h.at hpm
  obtain ⟨W1, hW1, X1, Y1, B1, Z1⟩ : ∃ W1, ((w.alloc (.cells #[.int .i64 g, .slice (some ⟨q, 0, none⟩) m.length cap] 29)).alloc (.cells #[.int .i64 0, .slice none 0 0] 29)) = W1 ∧ Blk W1 w.heap.size (rlA g (.slice (some ⟨q, 0, none⟩) m.length cap)) 29 ∧ Blk W1 (w.heap.size + 1) (rlA 0 (.slice none 0 0)) 29 ∧ Below w.heap.size w W1 ∧ W1.heap.size = w.heap.size + 2 :=
    ⟨_, rfl, (blk_new _ _ _ _ rfl).alloc _, blk_new _ _ _ _ (by simp), by go_grown, by simp⟩
  have c0 : W1.cell? ⟨w.heap.size, 0, none⟩ = some (.int .i64 g) := X1.cell rfl
  have c1 : W1.cell? ⟨w.heap.size, 1, none⟩ = some (.slice (some ⟨q, 0, none⟩) m.length cap) := X1.cell rfl
  have HR1 : Hid _ := h.below B1
  have HX1 : Hid _ := X1
  have HY1 : Hid _ := Y1
  have HZ1 : Hid _ := Z1
  have HC : Hid _ := hc
  clear h X1 Y1 Z1 hc
  have HF : Hid _ := refused_ref (g := g) W1 q cap m.length who pt n (by omega)
  rw [show refPt g m.length pt n [who] = refPt g l.length pt n [who] by rw [hml]] at HF
  clear hml
  have HO : Hid _ := hr
  clear hr
  have hz1 := HZ1.out
  by_cases he : refPt g l.length pt n [who] = 0
  · rw [he] at HF
    obtain ⟨he1, p, rfl, hpg⟩ := refPt_ok he
    obtain ⟨i, rfl, hi, hn1, hn2⟩ := refE_one he1
    have hp4 : p ≤ 4 := by omega
    have him : i < m.length := by rw [HML.out]; exact hi
    have hbody : r = outR l i (apf p) (hpf p) n := by
      have := HO.out
      rw [he] at this
      unfold gate at this
      rw [if_pos rfl] at this
      rw [← this]
      simp
    have hg1 := H.g1
    have z := H.le (part_of hp4) hi
    have t := H.sums l.length (Nat.le_refl _) (part_of hp4)
    rw [List.take_length] at t
    have sn := S.nums H hi hp4
    have sf := S.free i hi p hp4
    by_cases hq0 : (kAt l i).n (apf p) - (kAt l i).n (hpf p) < n
    · have hres : r = (61, l) := by rw [hbody]; unfold outR; rw [if_pos hq0]
      have HE : Hid _ := hres
      clear hbody hres HO he he1
      have hd : decide ((kAt m i).n p < n) = true := decide_eq_true (by omega)
      have sx : 0 ≤ (kAt m i).n p ∧ (kAt m i).n p ≤ 1099511627776 := by omega
      clear sf sn
      go_enter Tryd.func19, Tryd.ntmps19
      go_wp2_with fail
      refine Calls.mono HF.out ?_
      rintro e w2 ⟨rfl, b2⟩
      have z2 := b2.size
      have X2 := Blk.below HX1.out b2
      have R2 := Rm.below HR1.out b2
      have e0 : w2.cell? ⟨w.heap.size, 0, none⟩ = some (.int .i64 g) := X2.cell rfl
      have e1 : w2.cell? ⟨w.heap.size, 1, none⟩ = some (.slice (some ⟨q, 0, none⟩) m.length cap) := X2.cell rfl
      obtain ⟨dn, _, _⟩ := HC.out i (by omega)
      have hB2 : Below w.heap.size w w2 := B1.trans (b2.mono (by omega))
      have dx : w2.cell? ⟨q, i * 12 + p, none⟩ = some (.int .i64 ((kAt m i).n p)) := (hB2.cell (p := ⟨q, i * 12 + p, none⟩) hq).trans (dn p (by omega))
      clear dn
      have X3 := X2
      have R3 := R2
      have Y3 := Blk.below HY1.out b2
      have B3 := hB2
      have f0 := e0
      have f1 := e1
      obtain ⟨W9, hW9, Y9, R9, B9⟩ : ∃ W9, w2.setRow (w.heap.size + 1) (rlA g (.slice (some ⟨q, 0, none⟩) m.length cap)) = W9 ∧ Blk W9 (w.heap.size + 1) (rlA g (.slice (some ⟨q, 0, none⟩) m.length cap)) 29 ∧ Rm W9 base (.slice (some ⟨q, 0, none⟩) m.length cap) m ∧ Below w.heap.size w W9 := ⟨_, rfl, Blk.setRow (Y3) _, Rm.row (R3) (Y3) _, below_setRow (B3) _ _ (by omega)⟩
      have s0 : W9.cell? ⟨w.heap.size + 1, 0, none⟩ = some (.int .i64 g) := Y9.cell rfl
      have s1 : W9.cell? ⟨w.heap.size + 1, 1, none⟩ = some (.slice (some ⟨q, 0, none⟩) m.length cap) := Y9.cell rfl
      have YY : Blk w2 (w.heap.size + 1) (rlA 0 (.slice none 0 0)) 29 := Y3
      go_wp2_with ((with_reducible refine st_row (ty := 29) (cs' := rlA g (.slice (some ⟨q, 0, none⟩) m.length cap)) YY (rlA_info _ _) (rlA_same _ _ _ _) (rlA_one _ _ _ _) hW9 ?_ ?_ ?_); rfl; rfl)
      try simp only [Exit.inBlock, Exit.then]
      refine bodyPost_ret (by simp [results, Tryd.results19, go_sem, s0, s1]; rfl) rfl ?_
      rw [HE.out]
      exact Or.inl ⟨show (61 : Int) ≠ 0 by omega, rfl, rfl, R9, B9⟩
    · have hres : r = (0, upd l i (apf p) ((kAt l i).n (apf p) - n)) := by rw [hbody]; unfold outR; rw [if_neg hq0]
      have HE : Hid _ := hres
      have HSm : Hid (Sim (upd m i p ((kAt m i).n p - n)) (upd l i (apf p) ((kAt l i).n (apf p) - n))) := by
        show Sim _ _
        have := S.addFree (-n) hi hp4
        simpa [Int.sub_eq_add_neg] using this
      clear hbody hres HO he he1
      have hd : decide ((kAt m i).n p < n) = false := decide_eq_false (by omega)
      have sx : 0 ≤ (kAt m i).n p ∧ (kAt m i).n p ≤ 1099511627776 := by omega
      clear sf sn
      go_enter Tryd.func19, Tryd.ntmps19
      go_wp2_with fail
      refine Calls.mono HF.out ?_
      rintro e w2 ⟨rfl, b2⟩
      have z2 := b2.size
      have X2 := Blk.below HX1.out b2
      have R2 := Rm.below HR1.out b2
      have e0 : w2.cell? ⟨w.heap.size, 0, none⟩ = some (.int .i64 g) := X2.cell rfl
      have e1 : w2.cell? ⟨w.heap.size, 1, none⟩ = some (.slice (some ⟨q, 0, none⟩) m.length cap) := X2.cell rfl
      obtain ⟨dn, _, _⟩ := HC.out i (by omega)
      have hB2 : Below w.heap.size w w2 := B1.trans (b2.mono (by omega))
      have dx : w2.cell? ⟨q, i * 12 + p, none⟩ = some (.int .i64 ((kAt m i).n p)) := (hB2.cell (p := ⟨q, i * 12 + p, none⟩) hq).trans (dn p (by omega))
      clear dn
      have X3 := X2
      have R3 := R2
      have Y3 := Blk.below HY1.out b2
      have B3 := hB2
      have f0 := e0
      have f1 := e1
      have HK : Hid _ := copy_ref (g := g) w2 _ R3 (by omega) (by omega)
      go_wp2_with fail
      refine Calls.mono HK.out ?_
      rintro e w4 ⟨q2, cap2, rfl, R4, b4⟩
      have z4 := b4.size
      obtain ⟨W5, hW5, X5, B5, Z5⟩ : ∃ W5, (w4.alloc (.cells #[.int .i64 g, .slice (some ⟨q2, 0, none⟩) m.length cap2] 29)) = W5 ∧ Blk W5 w4.heap.size (rlA g (.slice (some ⟨q2, 0, none⟩) m.length cap2)) 29 ∧ Below w4.heap.size w4 W5 ∧ W5.heap.size = w4.heap.size + 1 := ⟨_, rfl, blk_new _ _ _ _ rfl, by go_grown, by simp⟩
      have R5 := R4.below B5
      have Y5 := (Y3.below b4).below B5
      obtain ⟨q5, cap5, hv5, hb5, hq5, hc5, hcc⟩ := R5.at (by omega)
      injection hv5 with u1 u2 u3
      injection u1 with u1
      injection u1 with u1
      subst u1 u3
      obtain ⟨dn5, _, fr5⟩ := hcc i (by omega)
      have g1 : W5.cell? ⟨w4.heap.size, 1, none⟩ = some (.slice (some ⟨q2, 0, none⟩) m.length cap2) := X5.cell rfl
      have n1 : W5.cell? ⟨q2, i * 12 + p, none⟩ = some (.int .i64 ((kAt m i).n p)) := dn5 p (by omega)
      have n2 : W5.frozen? ⟨q2, i * 12 + p, none⟩ = false := fr5 _
      obtain ⟨W6, hW6, R6, X6, Y6, B6⟩ : ∃ W6, W5.setCell ⟨q2, i * 12 + p, none⟩ (.int .i64 ((kAt m i).n p - n)) = W6 ∧ Rm W6 w2.heap.size (.slice (some ⟨q2, 0, none⟩) m.length cap2) (upd m i p ((kAt m i).n p - n)) ∧ Blk W6 w4.heap.size (rlA g (.slice (some ⟨q2, 0, none⟩) m.length cap2)) 29 ∧ Blk W6 (w.heap.size + 1) (rlA 0 (.slice none 0 0)) 29 ∧ Below w.heap.size w W6 :=
        ⟨_, rfl, R5.set _ (by omega) (by omega), X5.setOther (p := ⟨q2, i * 12 + p, none⟩) (Ne.symm (R5.apart X5)) _, Y5.setOther (p := ⟨q2, i * 12 + p, none⟩) (Ne.symm (R5.apart Y5)) _, ((B3.trans (b4.mono (by omega))).trans (B5.mono (by omega))).setCell (p := ⟨q2, i * 12 + p, none⟩) (show w.heap.size ≤ q2 by omega) _⟩
      have k0 : W6.cell? ⟨w4.heap.size, 0, none⟩ = some (.int .i64 g) := X6.cell rfl
      have k1 : W6.cell? ⟨w4.heap.size, 1, none⟩ = some (.slice (some ⟨q2, 0, none⟩) m.length cap2) := X6.cell rfl
      have hil : (i : Int) < (m.length : Int) := by omega
      have YY : Blk W6.drew (w.heap.size + 1) (rlA 0 (.slice none 0 0)) 29 := Y6.drew
      obtain ⟨W9, hW9, Y9, R9, B9⟩ : ∃ W9, W6.drew.setRow (w.heap.size + 1) (rlA g (.slice (some ⟨q2, 0, none⟩) m.length cap2)) = W9 ∧ Blk W9 (w.heap.size + 1) (rlA g (.slice (some ⟨q2, 0, none⟩) m.length cap2)) 29 ∧ Rm W9 w.heap.size (.slice (some ⟨q2, 0, none⟩) m.length cap2) (upd m i p ((kAt m i).n p - n)) ∧ Below w.heap.size w W9 := ⟨_, rfl, Blk.setRow YY _, Rm.row (Rm.weak (show Rm W6.drew _ _ _ from R6) (by omega)) YY _, below_setRow B6.drew _ _ (by omega)⟩
      have s0 : W9.cell? ⟨w.heap.size + 1, 0, none⟩ = some (.int .i64 g) := Y9.cell rfl
      have s1 : W9.cell? ⟨w.heap.size + 1, 1, none⟩ = some (.slice (some ⟨q2, 0, none⟩) m.length cap2) := Y9.cell rfl
      have HR9 : Hid _ := R9
      have HSx : Hid _ := HSm.out
      clear R9 R6 R5 R4 X5 X6 hcc dn5 fr5 HSm
      generalize hx : (kAt m i).n p = x at *
      go_wp2
      go_region
      go_wp2_with ((with_reducible refine st_row (ty := 29) (cs' := rlA g (.slice (some ⟨q2, 0, none⟩) m.length cap2)) YY (rlA_info _ _) (rlA_same _ _ _ _) (rlA_one _ _ _ _) hW9 ?_ ?_ ?_); rfl; rfl)
      try simp only [Exit.inBlock, Exit.then]
      refine bodyPost_ret (by simp [results, Tryd.results19, go_sem, s0, s1]; rfl) rfl ?_
      rw [HE.out]
      refine Or.inr ⟨rfl, q2, cap2, rfl, ?_, B9⟩
      rw [Int.toNat_natCast, Int.toNat_natCast, hx]
      exact HR9.out
  · have hres : r = (refPt g l.length pt n [who], l) := by
      have := HO.out
      unfold gate at this
      rw [if_neg he] at this
      exact this.symm
    have HE : Hid _ := hres
    clear hres HO
    generalize refPt g l.length pt n [who] = zz at *
    have hb0 : (zz == 0) = false := by simpa using he
    go_enter Tryd.func19, Tryd.ntmps19
    go_wp2_with fail
    refine Calls.mono HF.out ?_
    rintro e w2 ⟨rfl, b2⟩
    have X2 := Blk.below HX1.out b2
    have R2 := Rm.below HR1.out b2
    have Y3 := Blk.below HY1.out b2
    have e0 : w2.cell? ⟨w.heap.size, 0, none⟩ = some (.int .i64 g) := X2.cell rfl
    have e1 : w2.cell? ⟨w.heap.size, 1, none⟩ = some (.slice (some ⟨q, 0, none⟩) m.length cap) := X2.cell rfl
    obtain ⟨W9, hW9, Y9, R9, B9⟩ : ∃ W9, w2.setRow (w.heap.size + 1) (rlA g (.slice (some ⟨q, 0, none⟩) m.length cap)) = W9 ∧ Blk W9 (w.heap.size + 1) (rlA g (.slice (some ⟨q, 0, none⟩) m.length cap)) 29 ∧ Rm W9 base (.slice (some ⟨q, 0, none⟩) m.length cap) m ∧ Below w.heap.size w W9 := ⟨_, rfl, Blk.setRow (Y3) _, Rm.row (R2) (Y3) _, below_setRow (B1.trans (b2.mono (by omega))) _ _ (by omega)⟩
    have s0 : W9.cell? ⟨w.heap.size + 1, 0, none⟩ = some (.int .i64 g) := Y9.cell rfl
    have s1 : W9.cell? ⟨w.heap.size + 1, 1, none⟩ = some (.slice (some ⟨q, 0, none⟩) m.length cap) := Y9.cell rfl
    have YY : Blk w2 (w.heap.size + 1) (rlA 0 (.slice none 0 0)) 29 := Y3
    go_wp2_with ((with_reducible refine st_row (ty := 29) (cs' := rlA g (.slice (some ⟨q, 0, none⟩) m.length cap)) YY (rlA_info _ _) (rlA_same _ _ _ _) (rlA_one _ _ _ _) hW9 ?_ ?_ ?_); rfl; rfl)
    try simp only [Exit.inBlock, Exit.then]
    refine bodyPost_ret (by simp [results, Tryd.results19, go_sem, s0, s1]; rfl) rfl ?_
    rw [HE.out]
    exact Or.inl ⟨he, rfl, rfl, R9, B9⟩

theorem out_told (w : World) (v : Value) (who pt n : Int) (h : Rm w base v m) (S : Sim m l) (H : Inv g l) (hbase : base ≤ w.heap.size) (r : Int × List Kt) (hr : gate (refPt g l.length pt n [who]) l (outR l who.toNat (apf pt.toNat) (hpf pt.toNat) n) = r) :
    Calls Tryd.prog 19 #[.agg #[.int .i64 g, v], .int .i64 who, .int .i64 pt, .int .i64 n] w (Told r g base w) := by
  refine (out_ref w v who pt n h S H hbase r hr).mono fun e w' hY => ?_
  have hg4 := H.g4
  rcases hY with ⟨h0, _, rfl, hR, hB⟩ | ⟨h0, q, cap, rfl, hR, hB⟩
  · obtain ⟨q, cap, rfl, _⟩ := h.at (by rw [S.len]; exact H.pos)
    refine ⟨q, cap, m, rfl, hR, ?_, hB⟩
    have e2 : r.2 = l := by rw [← hr] at h0 ⊢; exact gate_not (fun h => if_not h) h0
    rw [e2]; exact S
  · rw [← hr] at h0
    obtain ⟨he, e⟩ := gate_ok h0
    obtain ⟨he1, p, hp, hpg⟩ := refPt_ok he
    obtain ⟨i, hw, hi, _, _⟩ := refE_one he1
    rw [e] at h0 hr
    obtain ⟨_, e3⟩ := if_ok (by decide) h0
    subst hw hp
    simp only [Int.toNat_natCast] at *
    refine ⟨q, cap, upd m i p ((kAt m i).n p - n), by rw [upd_len], by rw [upd_len]; exact hR.weak hbase, ?_, hB⟩
    rw [← hr, show (outR l i (apf p) (hpf p) n).2 = _ from e3]
    have := S.addFree (-n) hi (show p ≤ 4 by omega)
    simpa [Int.sub_eq_add_neg] using this
end Go.Proofs.YtmcafgmjfgfaeaaDoor
