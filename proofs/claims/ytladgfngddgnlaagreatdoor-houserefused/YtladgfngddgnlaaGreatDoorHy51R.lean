/- HouseRefused for every script and request: it answers true. -/
import Derived.Test.YtladgfngddgnlaaGreatDoorHy49
import Derived.Test.YtladgfngddgnlaaGreatDoorHy48
import Derived.Test.YtladgfngddgnlaaGreatDoorHy41
import Derived.Test.YtladgfngddgnlaaGreatDoorHy42
namespace Go.Proofs.YtladgfngddgnlaaGreatDoor
open Go.RowKit
set_option linter.unusedSimpArgs false
set_option linter.unusedVariables false

set_option maxRecDepth 100000 in
set_option maxHeartbeats 16000000 in
theorem refused_hs (v : Value) (ls : List Rq) (rq : Rq) (w : World) (hl : Rqs w v ls) (hz : ls.length * 88 ≤ 140737488351232) (hf : rq.fit) :
    Calls Tryz.prog 3 #[v, .agg rq.cells.toArray] w fun e w' => e = .returned (.bool true) ∧ Below w.heap.size w w' := by
  obtain ⟨hpr, hsz⟩ := hf
  obtain ⟨W0, hW0, A0, B0, Z0⟩ : ∃ W0, (w.alloc (.cells #[.int .i64 rq.who, .int .i64 rq.stamp, .int .i64 rq.op.k, .int .i64 rq.op.g, .int .i64 rq.op.a, .int .i64 rq.op.d, .int .i64 rq.op.i, .float .f64 rq.op.pr, .bool rq.raw, .string rq.txt] 27)) = W0 ∧ Blk W0 w.heap.size rq.cells.toArray 27 ∧ Below w.heap.size w W0 ∧ W0.heap.size = w.heap.size + 1 := ⟨_, rfl, blk_new _ _ _ _ rfl, by go_grown, by simp⟩
  have HB : Hid _ := begun_hs v ls W0 (hl.below B0) hz
  have HA : Hid _ := awake_calls
  have hlen := runs3 (ls.take 60)
  have hpst : Hid (Pst (runsR h32 (ls.take 60))) := runsR_pst (new_pst 3 2) (ls.take 60)
  generalize runsR h32 (ls.take 60) = H at *
  have HA0 : Hid (Blk W0 w.heap.size rq.cells.toArray 27) := A0
  have HB0 : Hid (Below w.heap.size w W0) := B0
  have HHl : Hid _ := hlen
  have HTx : Hid _ := fun wx => text_hs rq wx hpr
  have HDo : Hid _ := fun (wx : World) (X : Ad) (hm : Hm wx W0.heap.size X H) hB => do_calls wx hm hB hpst.out rq.who rq.stamp rq.text (text_size _ hsz)
  have hcs := fun D hD => refused_cases hpst.out rq.who rq.stamp rq.text D hD
  obtain ⟨D, hD⟩ : ∃ D, doR H rq.who rq.stamp rq.text = D := ⟨_, rfl⟩
  rw [hD] at HDo
  have HCs : Hid _ := hcs D hD
  clear hcs
  have HZ0 : Hid _ := Z0
  clear hD A0 B0 hl hz hpst hlen hsz hpr Z0
  unfold Rq.cells at HA0 ⊢
  unfold Rq.val Rq.cells at HTx
  generalize rq.text = tx at *
  generalize rq.who = aw at *
  generalize rq.stamp = as_ at *
  generalize rq.op.k = ok at *
  generalize rq.op.g = og at *
  generalize rq.op.a = oa at *
  generalize rq.op.d = od at *
  generalize rq.op.i = oi at *
  generalize rq.op.pr = op at *
  generalize rq.raw = ar at *
  generalize rq.txt = at_ at *
  go_enter Tryz.func3, Tryz.ntmps3
  go_wp2_with fail
  refine Calls.mono HB.out ?_
  rintro e WD ⟨X, rfl, m1, b1⟩
  have HMD : Hid (Hm WD W0.heap.size X H) := m1
  have HBD : Hid (Below W0.heap.size W0 WD) := b1
  have HAD : Hid _ := Blk.below HA0.out b1
  have hzD := b1.size
  have HNF : Hid (¬ X.foot w.heap.size) := fun e => by have := HMD.out.foot_base _ e; have := HZ0.out; omega
  clear m1 b1 HB hW0 HA0
  have HR1 : Hid _ := records_hs WD HMD.out
  go_wp2_with fail
  refine Calls.mono HR1.out ?_
  rintro e w2 ⟨v1, rfl, own1, b2⟩
  have A2 := Blk.below HAD.out b2
  have d0 : w2.cell? ⟨w.heap.size, 0, none⟩ = some (.int .i64 aw) := Blk.cell A2 rfl
  have d1 : w2.cell? ⟨w.heap.size, 1, none⟩ = some (.int .i64 as_) := Blk.cell A2 rfl
  have d2 : w2.cell? ⟨w.heap.size, 2, none⟩ = some (.int .i64 ok) := Blk.cell A2 rfl
  have d3 : w2.cell? ⟨w.heap.size, 3, none⟩ = some (.int .i64 og) := Blk.cell A2 rfl
  have d4 : w2.cell? ⟨w.heap.size, 4, none⟩ = some (.int .i64 oa) := Blk.cell A2 rfl
  have d5 : w2.cell? ⟨w.heap.size, 5, none⟩ = some (.int .i64 od) := Blk.cell A2 rfl
  have d6 : w2.cell? ⟨w.heap.size, 6, none⟩ = some (.int .i64 oi) := Blk.cell A2 rfl
  have d7 : w2.cell? ⟨w.heap.size, 7, none⟩ = some (.float .f64 op) := Blk.cell A2 rfl
  have d8 : w2.cell? ⟨w.heap.size, 8, none⟩ = some (.bool ar) := Blk.cell A2 rfl
  have d9 : w2.cell? ⟨w.heap.size, 9, none⟩ = some (.string at_) := Blk.cell A2 rfl
  have HA2 : Hid _ := A2
  have HM : Hid (Hm w2 W0.heap.size X H) := HMD.out.below b2
  have HBw : Hid (Below W0.heap.size W0 w2) := HBD.out.trans (b2.mono hzD)
  have HZw : Hid (W0.heap.size ≤ w2.heap.size) := HBw.out.size
  have HO1 : Hid (w2.ownsRow WD.heap.size 38 2 v1 (hrecs H).length (rcCells (hrecs H))) := own1
  have hnf := HNF.out
  clear A2 own1 b2 HR1 hzD
  go_wp2_with fail
  go_upto_region 5 with fail
  refine wp_region_held_drew (S := (fun wx => Chg X.foot w2 wx)) (by kernel_rfl) (Chg.of_below (Below.refl w2.heap.size w2) : Chg X.foot w2 w2).drew (fun hS => ?_)
  refine tkG (i := 0) (v := .pointer (some ⟨X.p, 0, none⟩)) rfl hS ?_
  refine tkG (i := 1) (v := .pointer (some ⟨w.heap.size, 0, none⟩)) rfl hS ?_
  refine tkH (i := 2) (v := .int .i64 aw) rfl (fun w3 hS => by have f0 : w3.cell? ⟨w.heap.size, 0, none⟩ = some (.int .i64 aw) := Chg.cell hS d0 hnf; have f1 : w3.cell? ⟨w.heap.size, 1, none⟩ = some (.int .i64 as_) := Chg.cell hS d1 hnf; have f2 : w3.cell? ⟨w.heap.size, 2, none⟩ = some (.int .i64 ok) := Chg.cell hS d2 hnf; have f3 : w3.cell? ⟨w.heap.size, 3, none⟩ = some (.int .i64 og) := Chg.cell hS d3 hnf; have f4 : w3.cell? ⟨w.heap.size, 4, none⟩ = some (.int .i64 oa) := Chg.cell hS d4 hnf; have f5 : w3.cell? ⟨w.heap.size, 5, none⟩ = some (.int .i64 od) := Chg.cell hS d5 hnf; have f6 : w3.cell? ⟨w.heap.size, 6, none⟩ = some (.int .i64 oi) := Chg.cell hS d6 hnf; have f7 : w3.cell? ⟨w.heap.size, 7, none⟩ = some (.float .f64 op) := Chg.cell hS d7 hnf; have f8 : w3.cell? ⟨w.heap.size, 8, none⟩ = some (.bool ar) := Chg.cell hS d8 hnf; have f9 : w3.cell? ⟨w.heap.size, 9, none⟩ = some (.string at_) := Chg.cell hS d9 hnf; go_simp) hS ?_
  refine tkG (i := 3) (v := .pointer (some ⟨w.heap.size, 1, none⟩)) rfl hS ?_
  refine tkH (i := 4) (v := .int .i64 as_) rfl (fun w3 hS => by have f0 : w3.cell? ⟨w.heap.size, 0, none⟩ = some (.int .i64 aw) := Chg.cell hS d0 hnf; have f1 : w3.cell? ⟨w.heap.size, 1, none⟩ = some (.int .i64 as_) := Chg.cell hS d1 hnf; have f2 : w3.cell? ⟨w.heap.size, 2, none⟩ = some (.int .i64 ok) := Chg.cell hS d2 hnf; have f3 : w3.cell? ⟨w.heap.size, 3, none⟩ = some (.int .i64 og) := Chg.cell hS d3 hnf; have f4 : w3.cell? ⟨w.heap.size, 4, none⟩ = some (.int .i64 oa) := Chg.cell hS d4 hnf; have f5 : w3.cell? ⟨w.heap.size, 5, none⟩ = some (.int .i64 od) := Chg.cell hS d5 hnf; have f6 : w3.cell? ⟨w.heap.size, 6, none⟩ = some (.int .i64 oi) := Chg.cell hS d6 hnf; have f7 : w3.cell? ⟨w.heap.size, 7, none⟩ = some (.float .f64 op) := Chg.cell hS d7 hnf; have f8 : w3.cell? ⟨w.heap.size, 8, none⟩ = some (.bool ar) := Chg.cell hS d8 hnf; have f9 : w3.cell? ⟨w.heap.size, 9, none⟩ = some (.string at_) := Chg.cell hS d9 hnf; go_simp) hS ?_
  refine tkH (i := 5) (v := .agg #[.int .i64 aw, .int .i64 as_, .int .i64 ok, .int .i64 og, .int .i64 oa, .int .i64 od, .int .i64 oi, .float .f64 op, .bool ar, .string at_]) rfl (fun w3 hS => by have f0 : w3.cell? ⟨w.heap.size, 0, none⟩ = some (.int .i64 aw) := Chg.cell hS d0 hnf; have f1 : w3.cell? ⟨w.heap.size, 1, none⟩ = some (.int .i64 as_) := Chg.cell hS d1 hnf; have f2 : w3.cell? ⟨w.heap.size, 2, none⟩ = some (.int .i64 ok) := Chg.cell hS d2 hnf; have f3 : w3.cell? ⟨w.heap.size, 3, none⟩ = some (.int .i64 og) := Chg.cell hS d3 hnf; have f4 : w3.cell? ⟨w.heap.size, 4, none⟩ = some (.int .i64 oa) := Chg.cell hS d4 hnf; have f5 : w3.cell? ⟨w.heap.size, 5, none⟩ = some (.int .i64 od) := Chg.cell hS d5 hnf; have f6 : w3.cell? ⟨w.heap.size, 6, none⟩ = some (.int .i64 oi) := Chg.cell hS d6 hnf; have f7 : w3.cell? ⟨w.heap.size, 7, none⟩ = some (.float .f64 op) := Chg.cell hS d7 hnf; have f8 : w3.cell? ⟨w.heap.size, 8, none⟩ = some (.bool ar) := Chg.cell hS d8 hnf; have f9 : w3.cell? ⟨w.heap.size, 9, none⟩ = some (.string at_) := Chg.cell hS d9 hnf; go_simp) hS ?_
  refine wpAnyH_ready (rs := [6]) (by kernel_rfl) (by simp) ?_
  refine AllReadyH.cons rfl (fun K hK => ?_) AllReadyH.nil
  go_simp
  refine (HTx.out _).mono ?_
  rintro e w4 ⟨rfl, b4⟩
  have b4' : Below w2.heap.size w2 w4 := ⟨b4.os, b4.tape, b4.output, b4.size, b4.block⟩
  have C4 : Chg X.foot w2 w4 := Chg.of_below b4'
  refine hK.out _ _ C4 (fun hS => ?_)
  clear hK
  refine wpAnyH_ready (rs := [7]) (by kernel_rfl) (by simp) ?_
  refine AllReadyH.cons rfl (fun K hK => ?_) AllReadyH.nil
  go_simp
  refine (HDo.out w4 X (Hm.below HM.out b4') (Nat.le_trans HZw.out b4'.size)).mono ?_
  rintro e w5 ⟨rfl, X5, m5, s5, p5⟩
  have C5 : Chg X.foot w2 w5 := C4.trans (fun q hq => Or.inl hq) s5.chg
  refine hK.out _ _ C5 (fun hS => ?_)
  clear hK
  refine tkG (i := 8) (v := .tuple #[.string D.1, .int .i64 D.2.1]) rfl hS ?_
  refine tkG (i := 9) (v := .string D.1) rfl hS ?_
  refine tkG (i := 10) (v := .int .i64 D.2.1) rfl hS ?_
  refine tkG (i := 11) (v := .string D.1) rfl hS ?_
  refine tkG (i := 12) (v := .int .i64 D.2.1) rfl hS ?_
  refine wpAnyH_done (by kernel_rfl) ?_ _
  have HM5 : Hid (Hm w5 W0.heap.size X5 D.2.2) := m5
  have HA5 : Hid _ := Blk.chg HA2.out C5 hnf
  have HO5 : Hid (w5.ownsRow WD.heap.size 38 2 v1 (hrecs H).length (rcCells (hrecs H))) := own_hst HO1.out C5 (fun k hk => HMD.out.foot_lt k hk)
  have HB5 : Hid (Below w.heap.size w w5) := HB0.out.trans ((below_chg HBw.out HZw.out C5 (fun q hq => HM.out.foot_base q hq)).mono HB0.out.size)
  have HRR : Hid (∀ wx, Hm wx W0.heap.size X5 D.2.2 → Calls Tryz.prog 7 #[.pointer (some ⟨X.p, 0, none⟩)] wx fun e w' => ∃ v, e = .returned v ∧ w'.ownsRow wx.heap.size 38 2 v (hrecs D.2.2).length (rcCells (hrecs D.2.2)) ∧ Below wx.heap.size wx w') := fun wx hx => by
    have := records_hs wx hx
    rw [p5] at this
    exact this
  have HP5 : Hid (X5.p = X.p) := p5
  obtain ⟨D1, D2, DH⟩ := D
  simp only at HCs HM5 HRR ⊢
  clear m5 s5 p5 C5 C4 b4 b4' HDo hS hnf d0 d1 d2 d3 d4 d5 d6 d7 d8 d9 HO1 HA2 HTx
  have HR2 : Hid _ := HRR.out w5 HM5.out
  go_wp2_with fail
  refine Calls.mono HR2.out ?_
  rintro e w6 ⟨v2, rfl, own2, b6⟩
  have q1 := rcs_h HMD.out (own_belowL HO5.out b6)
  have q2 := rcs_h HM5.out own2
  have HM6 : Hid (Hm w6 W0.heap.size X5 DH) := HM5.out.below b6
  have HA6 : Hid _ := Blk.below HA5.out b6
  have HB6 : Hid (Below w.heap.size w w6) := HB5.out.trans (b6.mono HB5.out.size)
  clear own2 b6 HR2 HRR HO5 HA5 HB5
  rcases HCs.out with ⟨hne, rfl, hDH⟩ | ⟨rfl, ⟨bb, rr, hD1, hbb⟩, i, hw, hi, hDH⟩ | ⟨rfl, rr, hD1⟩
  · have hd : (D2 == 0) = false := by simpa using hne
    have hd2 : (D2 != 0) = true := by simpa using hne
    subst hDH
    have hl1 : 3 ≤ (hrecs DH).length := by have := hrecs_len3 DH; have := HHl.out.1; omega
    have hl3 := hrecs_len_le DH HHl.out.1 HHl.out.2.1
    have HP : Hid (∀ (k : Nat) (m : Rc), (hrecs DH)[k]? = some m → ∃ m' : Rc, (hrecs DH)[k]? = some m' ∧ m'.key = m.key ∧ (True → m' = m)) := fun k m h => ⟨m, h, rfl, fun _ => rfl⟩
    clear hne HCs
    generalize hrecs DH = R1 at *
    rcases q1 with ⟨_, hq1⟩ | ⟨g1, f1, c1, rfl, hc1⟩
    · rw [hq1] at hl1; simp at hl1
    rcases q2 with ⟨_, hq2⟩ | ⟨g2, f2, c2, rfl, hc2⟩
    · rw [hq2] at hl1; simp at hl1
    have HC1 : Hid _ := hc1
    have HC2 : Hid _ := hc2
    clear hc1 hc2
    obtain ⟨n1, hn1⟩ : ∃ n, R1.length = n := ⟨_, rfl⟩
    rw [hn1] at hl1 hl3
    rw [hn1]
    have HN1 : Hid _ := hn1
    clear hn1
    go_wp2
    go_loopw [10] (fun i wr => ∃ k : Nat, k ≤ n1 ∧ i = .int .i64 k ∧ Hid (Below w6.heap.size w6 wr)) (fun i _ => n1 - (intOf i).toNat)
    case atStart => exact ⟨0, by omega, rfl, Below.refl _ _⟩
    case round =>
      obtain ⟨k, hk, rfl, HBr⟩ := hrel
      by_cases hlt : k < n1
      · have hdk : decide ((k : Int) < n1) = true := by simp only [decide_eq_true_eq]; omega
        have a0 : wr.cell? ⟨w.heap.size, 0, none⟩ = some (.int .i64 aw) := Blk.cell (Blk.below HA6.out HBr.out) rfl
        have t1 : k < R1.length := by rw [HN1.out]; exact hlt
        obtain ⟨m', e2, hkey, hsame⟩ := HP.out k R1[k] (List.getElem?_eq_getElem t1)
        obtain ⟨t2, e2⟩ := List.getElem?_eq_some_iff.1 e2
        obtain ⟨x1, x2, -, -⟩ := HC1.out k t1
        obtain ⟨y1, y2, -, -⟩ := HC2.out k t2
        rw [e2] at y1 y2
        have X1' := keepB HBr.out x1
        have X2' := keepB HBr.out x2
        have Y1' := keepB HBr.out y1
        have Y2' := keepB HBr.out y2
        rw [hkey] at Y1'
        clear x1 x2 y1 y2 e2 t2
        have hm := hsame trivial
        rw [hm] at Y2'
        clear hm hsame hkey
        obtain ⟨m, hmm⟩ : ∃ m, R1[k] = m := ⟨_, rfl⟩
        rw [hmm] at X1' X2' Y1' Y2'
        have hns := fun wx => neq_selfH m wx
        clear hmm t1
        go_wp2
        go_quiet (fail)
        go_wp2
        exact ⟨⟨k + 1, by omega, by norm_cast, HBr.out.trans (Led.drewN_below _ _ _)⟩, by simp [intOf]; omega⟩
      · have hdk : decide ((k : Int) < n1) = false := by simp only [decide_eq_false_iff_not]; omega
        go_wp2_with fail
        refine (HA.out _).mono ?_
        rintro e w9 ⟨rfl, b9⟩
        go_wp2
        go_ret
        have BR := HB6.out.trans (HBr.out.mono HB6.out.size)
        exact ⟨rfl, BR.trans (b9.mono BR.size)⟩
  · obtain ⟨rep, hrep, s1, sz, sv⟩ := head_ex bb rr
    rw [hrep] at hD1
    subst hD1
    have hbn : bb.toNat ≠ 0 := fun e => hbb (UInt8.toNat_inj.1 (by rw [e]; rfl))
    have hbi : ((bb.toNat : Int) == 0) = false := by simpa using hbn
    have HL : Hid (∀ wx, Hm wx W0.heap.size X5 DH → Calls Tryz.prog 11 #[.pointer (some ⟨X.p, 0, none⟩), .int .i64 aw] wx fun e w' => e = .returned (.tuple #[.int .i64 as_, .string D1]) ∧ Below wx.heap.size wx w') := fun wx hx => by
      have h1 := last_in wx hx.ha i (by rw [hDH]; show i < (Led.markL H.l i as_ D1).length; rw [Led.markL_len]; exact hi)
      have e1 : Led.kAt DH.l i = (Led.kAt H.l i).mark as_ D1 := by
        rw [hDH]
        show Led.kAt (Led.markL H.l i as_ D1) i = _
        unfold Led.markL
        rw [Led.kAt_set _ hi, if_pos rfl]
      rw [e1, HP5.out, ← hw] at h1
      exact h1
    have HW : Hid _ := hw
    have hl1 : 3 ≤ (hrecs H).length := by have := hrecs_len3 H; have := HHl.out.1; omega
    have hl3 := hrecs_len_le H HHl.out.1 HHl.out.2.1
    have hl2 : (hrecs H).length = (hrecs DH).length := by rw [hDH]; exact (hrecs_mark H i as_ D1).1.symm
    have HP : Hid (∀ (k : Nat) (m : Rc), (hrecs H)[k]? = some m → ∃ m' : Rc, (hrecs DH)[k]? = some m' ∧ m'.key = m.key ∧ (k ≠ i → m' = m)) := fun k m h => by
      rw [hDH]
      exact (hrecs_mark H i as_ D1).2 k m h
    clear hrep HCs hbb hbn hDH hw
    generalize hrecs H = R1 at *
    generalize hrecs DH = R2 at *
    rcases q1 with ⟨_, hq1⟩ | ⟨g1, f1, c1, rfl, hc1⟩
    · rw [hq1] at hl1; simp at hl1
    rcases q2 with ⟨_, hq2⟩ | ⟨g2, f2, c2, rfl, hc2⟩
    · rw [hq2] at hl2; rw [hl2] at hl1; simp at hl1
    have HC1 : Hid _ := hc1
    have HC2 : Hid _ := hc2
    clear hc1 hc2
    obtain ⟨n1, hn1⟩ : ∃ n, R1.length = n := ⟨_, rfl⟩
    rw [hn1] at hl1 hl3
    rw [← hl2, hn1]
    have HN1 : Hid _ := hn1
    clear hn1 hl2
    go_wp2
    go_loopw [10] (fun i wr => ∃ k : Nat, k ≤ n1 ∧ i = .int .i64 k ∧ Hid (Below w6.heap.size w6 wr)) (fun i _ => n1 - (intOf i).toNat)
    case atStart => exact ⟨0, by omega, rfl, Below.refl _ _⟩
    case round =>
      obtain ⟨k, hk, rfl, HBr⟩ := hrel
      by_cases hlt : k < n1
      · have hdk : decide ((k : Int) < n1) = true := by simp only [decide_eq_true_eq]; omega
        have a0 : wr.cell? ⟨w.heap.size, 0, none⟩ = some (.int .i64 aw) := Blk.cell (Blk.below HA6.out HBr.out) rfl
        have t1 : k < R1.length := by rw [HN1.out]; exact hlt
        obtain ⟨m', e2, hkey, hsame⟩ := HP.out k R1[k] (List.getElem?_eq_getElem t1)
        obtain ⟨t2, e2⟩ := List.getElem?_eq_some_iff.1 e2
        obtain ⟨x1, x2, -, -⟩ := HC1.out k t1
        obtain ⟨y1, y2, -, -⟩ := HC2.out k t2
        rw [e2] at y1 y2
        have X1' := keepB HBr.out x1
        have X2' := keepB HBr.out x2
        have Y1' := keepB HBr.out y1
        have Y2' := keepB HBr.out y2
        rw [hkey] at Y1'
        clear x1 x2 y1 y2 e2 t2
        by_cases hki : k = i
        · have hb : ((k : Int) == aw) = true := by rw [HW.out, hki]; simp
          clear hki hsame hkey
          obtain ⟨m, hmm⟩ : ∃ m, R1[k] = m := ⟨_, rfl⟩
          rw [hmm] at X1' X2' Y1'
          clear hmm t1
          go_wp2
          go_quiet (fail)
          go_wp2
          exact ⟨⟨k + 1, by omega, by norm_cast, HBr.out.trans (Led.drewN_below _ _ _)⟩, by simp [intOf]; omega⟩
        · have hb : ((k : Int) == aw) = false := by rw [HW.out]; simp; omega
          have hm := hsame hki
          rw [hm] at Y2'
          clear hm hsame hkey
          obtain ⟨m, hmm⟩ : ∃ m, R1[k] = m := ⟨_, rfl⟩
          rw [hmm] at X1' X2' Y1' Y2'
          have hns := fun wx => neq_selfH m wx
          clear hmm t1
          go_wp2
          go_quiet (fail)
          go_wp2
          exact ⟨⟨k + 1, by omega, by norm_cast, HBr.out.trans (Led.drewN_below _ _ _)⟩, by simp [intOf]; omega⟩
      · have hdk : decide ((k : Int) < n1) = false := by simp only [decide_eq_false_iff_not]; omega
        have HMr : Hid (Hm wr W0.heap.size X5 DH) := HM6.out.below HBr.out
        have Ar := Blk.below HA6.out HBr.out
        have a0 : wr.cell? ⟨w.heap.size, 0, none⟩ = some (.int .i64 aw) := Blk.cell Ar rfl
        have HLr : Hid _ := HL.out wr HMr.out
        have HAr : Hid _ := Ar
        clear Ar
        go_wp2_with fail
        refine Calls.mono HLr.out ?_
        rintro e w7 ⟨rfl, b7⟩
        have a1 : w7.cell? ⟨w.heap.size, 1, none⟩ = some (.int .i64 as_) := Blk.cell (Blk.below HAr.out b7) rfl
        have B7 := (HB6.out.trans (HBr.out.mono HB6.out.size))
        have HB7 : Hid (Below w.heap.size w w7) := B7.trans (b7.mono B7.size)
        clear b7 B7
        go_wp2_with fail
        refine (HA.out _).mono ?_
        rintro e w9 ⟨rfl, b9⟩
        go_wp2
        go_ret
        exact ⟨rfl, HB7.out.trans (b9.mono HB7.out.size)⟩
  · obtain ⟨rep, hrep, s1, sz, sv⟩ := head_ex 0 rr
    rw [hrep] at hD1
    subst hD1
    clear hrep HCs q1 q2
    go_wp2_with fail
    refine (HA.out _).mono ?_
    rintro e w9 ⟨rfl, b9⟩
    go_wp2
    go_ret
    exact ⟨rfl, HB6.out.trans (b9.mono HB6.out.size)⟩
end Go.Proofs.YtladgfngddgnlaaGreatDoor

namespace Go.Proofs.YtladgfngddgnlaaGreatDoor
open Go.RowKit
set_option linter.unusedSimpArgs false
set_option linter.unusedVariables false

end Go.Proofs.YtladgfngddgnlaaGreatDoor
