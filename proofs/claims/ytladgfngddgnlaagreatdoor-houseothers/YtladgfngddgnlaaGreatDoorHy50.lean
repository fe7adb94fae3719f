/- HouseOthers for every script and request: it answers true. -/
import Derived.Test.YtladgfngddgnlaaGreatDoorHy49
import Derived.Test.YtladgfngddgnlaaGreatDoorHy48
import Derived.Test.YtladgfngddgnlaaGreatDoorHy41
import Derived.Test.YtladgfngddgnlaaGreatDoorHy42
namespace Go.Proofs.YtladgfngddgnlaaGreatDoor
open Go.RowKit
set_option linter.unusedSimpArgs false
set_option linter.unusedVariables false

set_option maxRecDepth 100000 in
set_option maxHeartbeats 16000000 in
theorem others_hs (v : Value) (ls : List Rq) (rq : Rq) (w : World) (hl : Rqs w v ls) (hz : ls.length * 88 ≤ 140737488351232) (hf : rq.fit) :
    Calls Tryz.prog 5 #[v, .agg rq.cells.toArray] w fun e w' => e = .returned (.bool true) ∧ Below w.heap.size w w' := by
  obtain ⟨hpr, hsz⟩ := hf
  obtain ⟨W0, hW0, A0, B0, Z0⟩ : ∃ W0, (w.alloc (.cells #[.int .i64 rq.who, .int .i64 rq.stamp, .int .i64 rq.op.k, .int .i64 rq.op.g, .int .i64 rq.op.a, .int .i64 rq.op.d, .int .i64 rq.op.i, .float .f64 rq.op.pr, .bool rq.raw, .string rq.txt] 27)) = W0 ∧ Blk W0 w.heap.size rq.cells.toArray 27 ∧ Below w.heap.size w W0 ∧ W0.heap.size = w.heap.size + 1 := ⟨_, rfl, blk_new _ _ _ _ rfl, by go_grown, by simp⟩
  have HB : Hid _ := begun_hs v ls W0 (hl.below B0) hz
  have HA : Hid _ := awake_calls
  have hlen := runs3 (ls.take 60)
  have hpst : Hid (Pst (runsR h32 (ls.take 60))) := runsR_pst (new_pst 3 2) (ls.take 60)
  generalize runsR h32 (ls.take 60) = H at *
  have HA0 : Hid (Blk W0 w.heap.size rq.cells.toArray 27) := A0
  have HB0 : Hid (Below w.heap.size w W0) := B0
  have HHl : Hid _ := hlen
  have HTx : Hid _ := fun wx => text_hs rq wx hpr
  have HOf : Hid _ := fun wx => ofOp_ref rq.text wx (text_size _ hsz)
  have HDo : Hid _ := fun (wx : World) (X : Ad) (hm : Hm wx W0.heap.size X H) hB => do_calls wx hm hB hpst.out rq.who rq.stamp rq.text (text_size _ hsz)
  have hoth : (∀ o, ofOpR rq.text = .ok o → o.k ≠ 1) → ∀ i : Nat, (i : Int) ≠ rq.who → Led.kAt (doR H rq.who rq.stamp rq.text).2.2.l i = Led.kAt H.l i := fun h i hi => others_case h hi
  have hl5 := (doR_len (H := H) (by omega) rq.who rq.stamp rq.text)
  obtain ⟨D, hD⟩ : ∃ D, doR H rq.who rq.stamp rq.text = D := ⟨_, rfl⟩
  rw [hD] at HDo hoth hl5
  have HZ0 : Hid _ := Z0
  clear hD A0 B0 hl hz hpst hlen hsz hpr Z0
  unfold Rq.cells at HA0 ⊢
  unfold Rq.val Rq.cells at HTx
  have HOt : Hid _ := hoth
  have HL5 : Hid _ := hl5
  clear hoth hl5
  obtain ⟨⟨pk, pg, pa, pd, pi, pp⟩, f, hop, hcase⟩ := opAns_formH (ofOpR rq.text)
  have HCa : Hid _ := hcase
  have HOA : Hid _ := hop
  clear hcase hop
  generalize rq.text = tx at *
  generalize rq.who = aw at *
  generalize rq.stamp = as_ at *
  generalize rq.op.k = ok at *
  generalize rq.op.g = og at *
  generalize rq.op.a = oa at *
  generalize rq.op.d = od at *
  generalize rq.op.i = oi at *
  generalize rq.op.pr = op at *
  generalize rq.raw = ar at *
  generalize rq.txt = at_ at *
  go_enter Tryz.func5, Tryz.ntmps5
  go_wp2_with fail
  refine Calls.mono HB.out ?_
  rintro e w1 ⟨X, rfl, m1, b1⟩
  have HM1 : Hid (Hm w1 W0.heap.size X H) := m1
  have HB1 : Hid (Below W0.heap.size W0 w1) := b1
  have A1 := HA0.out.below b1
  have d0 : w1.cell? ⟨w.heap.size, 0, none⟩ = some (.int .i64 aw) := Blk.cell A1 rfl
  have d1 : w1.cell? ⟨w.heap.size, 1, none⟩ = some (.int .i64 as_) := Blk.cell A1 rfl
  have d2 : w1.cell? ⟨w.heap.size, 2, none⟩ = some (.int .i64 ok) := Blk.cell A1 rfl
  have d3 : w1.cell? ⟨w.heap.size, 3, none⟩ = some (.int .i64 og) := Blk.cell A1 rfl
  have d4 : w1.cell? ⟨w.heap.size, 4, none⟩ = some (.int .i64 oa) := Blk.cell A1 rfl
  have d5 : w1.cell? ⟨w.heap.size, 5, none⟩ = some (.int .i64 od) := Blk.cell A1 rfl
  have d6 : w1.cell? ⟨w.heap.size, 6, none⟩ = some (.int .i64 oi) := Blk.cell A1 rfl
  have d7 : w1.cell? ⟨w.heap.size, 7, none⟩ = some (.float .f64 op) := Blk.cell A1 rfl
  have d8 : w1.cell? ⟨w.heap.size, 8, none⟩ = some (.bool ar) := Blk.cell A1 rfl
  have d9 : w1.cell? ⟨w.heap.size, 9, none⟩ = some (.string at_) := Blk.cell A1 rfl
  clear m1 b1 HB hW0
  go_wp2_with fail
  refine (HTx.out _).mono ?_
  rintro e wA ⟨rfl, bA⟩
  have HO : Hid _ := HOf.out wA
  rw [HOA.out] at HO
  unfold Oo.val at HO
  simp only at HO
  go_wp2_with fail
  refine Calls.mono HO.out ?_
  rintro e wB ⟨rfl, bB⟩
  obtain ⟨WD, hWD, XO, BO⟩ : ∃ WD, (wB.alloc (.cells #[.int .i64 pk, .int .i64 pg, .int .i64 pa, .int .i64 pd, .int .i64 pi, .float .f64 pp] 25)) = WD ∧ Blk WD wB.heap.size #[.int .i64 pk, .int .i64 pg, .int .i64 pa, .int .i64 pd, .int .i64 pi, .float .f64 pp] 25 ∧ Below wB.heap.size wB WD := ⟨_, rfl, blk_new _ _ _ _ rfl, by go_grown⟩
  have zA := bA.size
  have zB := bB.size
  have B1D : Below w1.heap.size w1 WD := (bA.trans (bB.mono zA)).trans (BO.mono (Nat.le_trans zA zB))
  have o0 : WD.cell? ⟨wB.heap.size, 0, none⟩ = some (.int .i64 pk) := XO.cell rfl
  have HMD : Hid (Hm WD W0.heap.size X H) := HM1.out.below B1D
  have HBD : Hid (Below W0.heap.size W0 WD) := HB1.out.trans (B1D.mono HB1.out.size)
  have HAD : Hid _ := A1.below B1D
  have hzD := HBD.out.size
  have HNF : Hid (¬ X.foot w.heap.size) := fun e => by have := HMD.out.foot_base _ e; have := HZ0.out; omega
  clear bA bB BO B1D XO HO HOA A1 d0 d1 d2 d3 d4 d5 d6 d7 d8 d9 HM1 HB1 HOf HA0 zA zB
  rcases HCa.out with ⟨rfl, rfl⟩ | ⟨hne, hk⟩ | ⟨rfl, hne, hk⟩
  · clear HCa HDo HOt HTx
    go_wp2_with fail
    refine (HA.out _).mono ?_
    rintro e w9 ⟨rfl, b9⟩
    go_wp2
    go_ret
    exact ⟨rfl, HB0.out.trans ((HBD.out.trans (b9.mono HBD.out.size)).mono HB0.out.size)⟩
  · have hd : (f == 0) = false := by simpa using hne
    have HOth : Hid _ := HOt.out hk
    clear hk hne HCa HOt
    have HR1 : Hid _ := records_hs WD HMD.out
    go_wp2_with fail
    refine Calls.mono HR1.out ?_
    rintro e w2 ⟨v1, rfl, own1, b2⟩
    have A2 := Blk.below HAD.out b2
    have d0 : w2.cell? ⟨w.heap.size, 0, none⟩ = some (.int .i64 aw) := Blk.cell A2 rfl
    have d1 : w2.cell? ⟨w.heap.size, 1, none⟩ = some (.int .i64 as_) := Blk.cell A2 rfl
    have d2 : w2.cell? ⟨w.heap.size, 2, none⟩ = some (.int .i64 ok) := Blk.cell A2 rfl
    have d3 : w2.cell? ⟨w.heap.size, 3, none⟩ = some (.int .i64 og) := Blk.cell A2 rfl
    have d4 : w2.cell? ⟨w.heap.size, 4, none⟩ = some (.int .i64 oa) := Blk.cell A2 rfl
    have d5 : w2.cell? ⟨w.heap.size, 5, none⟩ = some (.int .i64 od) := Blk.cell A2 rfl
    have d6 : w2.cell? ⟨w.heap.size, 6, none⟩ = some (.int .i64 oi) := Blk.cell A2 rfl
    have d7 : w2.cell? ⟨w.heap.size, 7, none⟩ = some (.float .f64 op) := Blk.cell A2 rfl
    have d8 : w2.cell? ⟨w.heap.size, 8, none⟩ = some (.bool ar) := Blk.cell A2 rfl
    have d9 : w2.cell? ⟨w.heap.size, 9, none⟩ = some (.string at_) := Blk.cell A2 rfl
    have HA2 : Hid _ := A2
    have HM : Hid (Hm w2 W0.heap.size X H) := HMD.out.below b2
    have HBw : Hid (Below W0.heap.size W0 w2) := HBD.out.trans (b2.mono hzD)
    have HZw : Hid (W0.heap.size ≤ w2.heap.size) := HBw.out.size
    have HO1 : Hid (w2.ownsRow WD.heap.size 38 2 v1 (hrecs H).length (rcCells (hrecs H))) := own1
    have hnf := HNF.out
    clear A2 own1 b2 HR1 hzD
    go_wp2_with fail
    go_upto_region 8 with fail
    refine wp_region_held_drew (S := (fun wx => Chg X.foot w2 wx)) (by kernel_rfl) (Chg.of_below (Below.refl w2.heap.size w2) : Chg X.foot w2 w2).drew (fun hS => ?_)
    refine tkG (i := 0) (v := .pointer (some ⟨X.p, 0, none⟩)) rfl hS ?_
    refine tkG (i := 1) (v := .pointer (some ⟨w.heap.size, 0, none⟩)) rfl hS ?_
    refine tkH (i := 2) (v := .int .i64 aw) rfl (fun w3 hS => by have f0 : w3.cell? ⟨w.heap.size, 0, none⟩ = some (.int .i64 aw) := Chg.cell hS d0 hnf; have f1 : w3.cell? ⟨w.heap.size, 1, none⟩ = some (.int .i64 as_) := Chg.cell hS d1 hnf; have f2 : w3.cell? ⟨w.heap.size, 2, none⟩ = some (.int .i64 ok) := Chg.cell hS d2 hnf; have f3 : w3.cell? ⟨w.heap.size, 3, none⟩ = some (.int .i64 og) := Chg.cell hS d3 hnf; have f4 : w3.cell? ⟨w.heap.size, 4, none⟩ = some (.int .i64 oa) := Chg.cell hS d4 hnf; have f5 : w3.cell? ⟨w.heap.size, 5, none⟩ = some (.int .i64 od) := Chg.cell hS d5 hnf; have f6 : w3.cell? ⟨w.heap.size, 6, none⟩ = some (.int .i64 oi) := Chg.cell hS d6 hnf; have f7 : w3.cell? ⟨w.heap.size, 7, none⟩ = some (.float .f64 op) := Chg.cell hS d7 hnf; have f8 : w3.cell? ⟨w.heap.size, 8, none⟩ = some (.bool ar) := Chg.cell hS d8 hnf; have f9 : w3.cell? ⟨w.heap.size, 9, none⟩ = some (.string at_) := Chg.cell hS d9 hnf; go_simp) hS ?_
    refine tkG (i := 3) (v := .pointer (some ⟨w.heap.size, 1, none⟩)) rfl hS ?_
    refine tkH (i := 4) (v := .int .i64 as_) rfl (fun w3 hS => by have f0 : w3.cell? ⟨w.heap.size, 0, none⟩ = some (.int .i64 aw) := Chg.cell hS d0 hnf; have f1 : w3.cell? ⟨w.heap.size, 1, none⟩ = some (.int .i64 as_) := Chg.cell hS d1 hnf; have f2 : w3.cell? ⟨w.heap.size, 2, none⟩ = some (.int .i64 ok) := Chg.cell hS d2 hnf; have f3 : w3.cell? ⟨w.heap.size, 3, none⟩ = some (.int .i64 og) := Chg.cell hS d3 hnf; have f4 : w3.cell? ⟨w.heap.size, 4, none⟩ = some (.int .i64 oa) := Chg.cell hS d4 hnf; have f5 : w3.cell? ⟨w.heap.size, 5, none⟩ = some (.int .i64 od) := Chg.cell hS d5 hnf; have f6 : w3.cell? ⟨w.heap.size, 6, none⟩ = some (.int .i64 oi) := Chg.cell hS d6 hnf; have f7 : w3.cell? ⟨w.heap.size, 7, none⟩ = some (.float .f64 op) := Chg.cell hS d7 hnf; have f8 : w3.cell? ⟨w.heap.size, 8, none⟩ = some (.bool ar) := Chg.cell hS d8 hnf; have f9 : w3.cell? ⟨w.heap.size, 9, none⟩ = some (.string at_) := Chg.cell hS d9 hnf; go_simp) hS ?_
    refine tkH (i := 5) (v := .agg #[.int .i64 aw, .int .i64 as_, .int .i64 ok, .int .i64 og, .int .i64 oa, .int .i64 od, .int .i64 oi, .float .f64 op, .bool ar, .string at_]) rfl (fun w3 hS => by have f0 : w3.cell? ⟨w.heap.size, 0, none⟩ = some (.int .i64 aw) := Chg.cell hS d0 hnf; have f1 : w3.cell? ⟨w.heap.size, 1, none⟩ = some (.int .i64 as_) := Chg.cell hS d1 hnf; have f2 : w3.cell? ⟨w.heap.size, 2, none⟩ = some (.int .i64 ok) := Chg.cell hS d2 hnf; have f3 : w3.cell? ⟨w.heap.size, 3, none⟩ = some (.int .i64 og) := Chg.cell hS d3 hnf; have f4 : w3.cell? ⟨w.heap.size, 4, none⟩ = some (.int .i64 oa) := Chg.cell hS d4 hnf; have f5 : w3.cell? ⟨w.heap.size, 5, none⟩ = some (.int .i64 od) := Chg.cell hS d5 hnf; have f6 : w3.cell? ⟨w.heap.size, 6, none⟩ = some (.int .i64 oi) := Chg.cell hS d6 hnf; have f7 : w3.cell? ⟨w.heap.size, 7, none⟩ = some (.float .f64 op) := Chg.cell hS d7 hnf; have f8 : w3.cell? ⟨w.heap.size, 8, none⟩ = some (.bool ar) := Chg.cell hS d8 hnf; have f9 : w3.cell? ⟨w.heap.size, 9, none⟩ = some (.string at_) := Chg.cell hS d9 hnf; go_simp) hS ?_
    refine wpAnyH_ready (rs := [6]) (by kernel_rfl) (by simp) ?_
    refine AllReadyH.cons rfl (fun K hK => ?_) AllReadyH.nil
    go_simp
    refine (HTx.out _).mono ?_
    rintro e w4 ⟨rfl, b4⟩
    have b4' : Below w2.heap.size w2 w4 := ⟨b4.os, b4.tape, b4.output, b4.size, b4.block⟩
    have C4 : Chg X.foot w2 w4 := Chg.of_below b4'
    refine hK.out _ _ C4 (fun hS => ?_)
    clear hK
    refine wpAnyH_ready (rs := [7]) (by kernel_rfl) (by simp) ?_
    refine AllReadyH.cons rfl (fun K hK => ?_) AllReadyH.nil
    go_simp
    refine (HDo.out w4 X (Hm.below HM.out b4') (Nat.le_trans HZw.out b4'.size)).mono ?_
    rintro e w5 ⟨rfl, X5, m5, s5, p5⟩
    have C5 : Chg X.foot w2 w5 := C4.trans (fun q hq => Or.inl hq) s5.chg
    refine hK.out _ _ C5 (fun hS => ?_)
    clear hK
    refine wpAnyH_done (by kernel_rfl) ?_ _
    have HM5 : Hid (Hm w5 W0.heap.size X5 D.2.2) := m5
    have HA5 : Hid _ := Blk.chg HA2.out C5 hnf
    have HO5 : Hid (w5.ownsRow WD.heap.size 38 2 v1 (hrecs H).length (rcCells (hrecs H))) := own_hst HO1.out C5 (fun k hk => HMD.out.foot_lt k hk)
    have HB5 : Hid (Below w.heap.size w w5) := HB0.out.trans ((below_chg HBw.out HZw.out C5 (fun q hq => HM.out.foot_base q hq)).mono HB0.out.size)
    have HRR : Hid (∀ wx, Hm wx W0.heap.size X5 D.2.2 → Calls Tryz.prog 7 #[.pointer (some ⟨X.p, 0, none⟩)] wx fun e w' => ∃ v, e = .returned v ∧ w'.ownsRow wx.heap.size 38 2 v (hrecs D.2.2).length (rcCells (hrecs D.2.2)) ∧ Below wx.heap.size wx w') := fun wx hx => by
      have := records_hs wx hx
      rw [p5] at this
      exact this
    clear m5 s5 p5 C5 C4 b4 b4' HDo hS hnf d0 d1 d2 d3 d4 d5 d6 d7 d8 d9 HO1 HA2 HTx
    have HR2 : Hid _ := HRR.out w5 HM5.out
    go_wp2_with fail
    refine Calls.mono HR2.out ?_
    rintro e w6 ⟨v2, rfl, own2, b6⟩
    have q1 := rcs_h HMD.out (own_belowL HO5.out b6)
    have q2 := rcs_h HM5.out own2
    have HA6 : Hid _ := Blk.below HA5.out b6
    have HB6 : Hid (Below w.heap.size w w6) := HB5.out.trans (b6.mono HB5.out.size)
    have hl1 : 3 ≤ (hrecs H).length := by have := hrecs_len3 H; have := HHl.out.1; omega
    have hl2 : 3 ≤ (hrecs D.2.2).length := by have := hrecs_len3 D.2.2; have := HL5.out.1; have := HHl.out.1; omega
    have HP : Hid (∀ k : Nat, k < 3 → (k : Int) ≠ aw → ∃ m, (hrecs H)[k]? = some m ∧ (hrecs D.2.2)[k]? = some m) := fun k hk hka => by
      have e1 := hrecs_at (H := H) (i := k) (by have := HHl.out.1; omega)
      have e2 := hrecs_at (H := D.2.2) (i := k) (by have := HL5.out.1; have := HHl.out.1; omega)
      rw [HOth.out k hka, HL5.out.2.1] at e2
      exact ⟨_, e1, e2⟩
    clear own2 b6 HR2 HRR HO5 HA5 HB5
    generalize hrecs H = R1 at *
    generalize hrecs D.2.2 = R2 at *
    rcases q1 with ⟨_, hq1⟩ | ⟨g1, f1, c1, rfl, hc1⟩
    · rw [hq1] at hl1; simp at hl1
    rcases q2 with ⟨_, hq2⟩ | ⟨g2, f2, c2, rfl, hc2⟩
    · rw [hq2] at hl2; simp at hl2
    have HC1 : Hid _ := hc1
    have HC2 : Hid _ := hc2
    clear hc1 hc2
    obtain ⟨n1, hn1⟩ : ∃ n, R1.length = n := ⟨_, rfl⟩
    obtain ⟨n2, hn2⟩ : ∃ n, R2.length = n := ⟨_, rfl⟩
    rw [hn1] at hl1 ⊢
    rw [hn2] at hl2 ⊢
    have HN1 : Hid _ := hn1
    have HN2 : Hid _ := hn2
    clear hn1 hn2
    go_wp2
    go_loopw [10] (fun i wr => ∃ k : Nat, k ≤ 3 ∧ i = .int .i64 k ∧ Hid (Below w6.heap.size w6 wr)) (fun i _ => 3 - (intOf i).toNat)
    case atStart => exact ⟨0, by omega, rfl, Below.refl _ _⟩
    case round =>
      obtain ⟨k, hk, rfl, HBr⟩ := hrel
      by_cases hlt : k < 3
      · have hdk : decide ((k : Int) < 3) = true := by simp only [decide_eq_true_eq]; omega
        have a0 : wr.cell? ⟨w.heap.size, 0, none⟩ = some (.int .i64 aw) := Blk.cell (Blk.below HA6.out HBr.out) rfl
        by_cases hka : (k : Int) = aw
        · have hb : ((k : Int) != aw) = false := by simpa using hka
          clear hka
          go_wp2
          go_quiet (fail)
          go_wp2
          exact ⟨⟨k + 1, by omega, by norm_cast, HBr.out.trans (Led.drewN_below _ _ _)⟩, by simp [intOf]; omega⟩
        · have hb : ((k : Int) != aw) = true := by simpa using hka
          obtain ⟨m, e1, e2⟩ := HP.out k hlt hka
          obtain ⟨t1, e1⟩ := List.getElem?_eq_some_iff.1 e1
          obtain ⟨t2, e2⟩ := List.getElem?_eq_some_iff.1 e2
          obtain ⟨x1, x2, -, -⟩ := HC1.out k t1
          obtain ⟨y1, y2, -, -⟩ := HC2.out k t2
          rw [e1] at x1 x2
          rw [e2] at y1 y2
          have X1' := keepB HBr.out x1
          have X2' := keepB HBr.out x2
          have Y1' := keepB HBr.out y1
          have Y2' := keepB HBr.out y2
          have hns := fun wx => neq_selfH m wx
          clear hka e1 e2 t1 t2 x1 x2 y1 y2
          go_wp2
          go_quiet (fail)
          go_wp2
          exact ⟨⟨k + 1, by omega, by norm_cast, HBr.out.trans (Led.drewN_below _ _ _)⟩, by simp [intOf]; omega⟩
      · have hdk : decide ((k : Int) < 3) = false := by simp only [decide_eq_false_iff_not]; omega
        go_wp2_with fail
        refine (HA.out _).mono ?_
        rintro e w9 ⟨rfl, b9⟩
        go_wp2
        go_ret
        have BR := HB6.out.trans (HBr.out.mono HB6.out.size)
        exact ⟨rfl, BR.trans (b9.mono BR.size)⟩
  · have hd : (pk == 1) = false := by simpa using hne
    have HOth : Hid _ := HOt.out hk
    clear hk hne HCa HOt
    have HR1 : Hid _ := records_hs WD HMD.out
    go_wp2_with fail
    refine Calls.mono HR1.out ?_
    rintro e w2 ⟨v1, rfl, own1, b2⟩
    have A2 := Blk.below HAD.out b2
    have d0 : w2.cell? ⟨w.heap.size, 0, none⟩ = some (.int .i64 aw) := Blk.cell A2 rfl
    have d1 : w2.cell? ⟨w.heap.size, 1, none⟩ = some (.int .i64 as_) := Blk.cell A2 rfl
    have d2 : w2.cell? ⟨w.heap.size, 2, none⟩ = some (.int .i64 ok) := Blk.cell A2 rfl
    have d3 : w2.cell? ⟨w.heap.size, 3, none⟩ = some (.int .i64 og) := Blk.cell A2 rfl
    have d4 : w2.cell? ⟨w.heap.size, 4, none⟩ = some (.int .i64 oa) := Blk.cell A2 rfl
    have d5 : w2.cell? ⟨w.heap.size, 5, none⟩ = some (.int .i64 od) := Blk.cell A2 rfl
    have d6 : w2.cell? ⟨w.heap.size, 6, none⟩ = some (.int .i64 oi) := Blk.cell A2 rfl
    have d7 : w2.cell? ⟨w.heap.size, 7, none⟩ = some (.float .f64 op) := Blk.cell A2 rfl
    have d8 : w2.cell? ⟨w.heap.size, 8, none⟩ = some (.bool ar) := Blk.cell A2 rfl
    have d9 : w2.cell? ⟨w.heap.size, 9, none⟩ = some (.string at_) := Blk.cell A2 rfl
    have HA2 : Hid _ := A2
    have HM : Hid (Hm w2 W0.heap.size X H) := HMD.out.below b2
    have HBw : Hid (Below W0.heap.size W0 w2) := HBD.out.trans (b2.mono hzD)
    have HZw : Hid (W0.heap.size ≤ w2.heap.size) := HBw.out.size
    have HO1 : Hid (w2.ownsRow WD.heap.size 38 2 v1 (hrecs H).length (rcCells (hrecs H))) := own1
    have hnf := HNF.out
    clear A2 own1 b2 HR1 hzD
    go_wp2_with fail
    go_upto_region 8 with fail
    refine wp_region_held_drew (S := (fun wx => Chg X.foot w2 wx)) (by kernel_rfl) (Chg.of_below (Below.refl w2.heap.size w2) : Chg X.foot w2 w2).drew (fun hS => ?_)
    refine tkG (i := 0) (v := .pointer (some ⟨X.p, 0, none⟩)) rfl hS ?_
    refine tkG (i := 1) (v := .pointer (some ⟨w.heap.size, 0, none⟩)) rfl hS ?_
    refine tkH (i := 2) (v := .int .i64 aw) rfl (fun w3 hS => by have f0 : w3.cell? ⟨w.heap.size, 0, none⟩ = some (.int .i64 aw) := Chg.cell hS d0 hnf; have f1 : w3.cell? ⟨w.heap.size, 1, none⟩ = some (.int .i64 as_) := Chg.cell hS d1 hnf; have f2 : w3.cell? ⟨w.heap.size, 2, none⟩ = some (.int .i64 ok) := Chg.cell hS d2 hnf; have f3 : w3.cell? ⟨w.heap.size, 3, none⟩ = some (.int .i64 og) := Chg.cell hS d3 hnf; have f4 : w3.cell? ⟨w.heap.size, 4, none⟩ = some (.int .i64 oa) := Chg.cell hS d4 hnf; have f5 : w3.cell? ⟨w.heap.size, 5, none⟩ = some (.int .i64 od) := Chg.cell hS d5 hnf; have f6 : w3.cell? ⟨w.heap.size, 6, none⟩ = some (.int .i64 oi) := Chg.cell hS d6 hnf; have f7 : w3.cell? ⟨w.heap.size, 7, none⟩ = some (.float .f64 op) := Chg.cell hS d7 hnf; have f8 : w3.cell? ⟨w.heap.size, 8, none⟩ = some (.bool ar) := Chg.cell hS d8 hnf; have f9 : w3.cell? ⟨w.heap.size, 9, none⟩ = some (.string at_) := Chg.cell hS d9 hnf; go_simp) hS ?_
    refine tkG (i := 3) (v := .pointer (some ⟨w.heap.size, 1, none⟩)) rfl hS ?_
    refine tkH (i := 4) (v := .int .i64 as_) rfl (fun w3 hS => by have f0 : w3.cell? ⟨w.heap.size, 0, none⟩ = some (.int .i64 aw) := Chg.cell hS d0 hnf; have f1 : w3.cell? ⟨w.heap.size, 1, none⟩ = some (.int .i64 as_) := Chg.cell hS d1 hnf; have f2 : w3.cell? ⟨w.heap.size, 2, none⟩ = some (.int .i64 ok) := Chg.cell hS d2 hnf; have f3 : w3.cell? ⟨w.heap.size, 3, none⟩ = some (.int .i64 og) := Chg.cell hS d3 hnf; have f4 : w3.cell? ⟨w.heap.size, 4, none⟩ = some (.int .i64 oa) := Chg.cell hS d4 hnf; have f5 : w3.cell? ⟨w.heap.size, 5, none⟩ = some (.int .i64 od) := Chg.cell hS d5 hnf; have f6 : w3.cell? ⟨w.heap.size, 6, none⟩ = some (.int .i64 oi) := Chg.cell hS d6 hnf; have f7 : w3.cell? ⟨w.heap.size, 7, none⟩ = some (.float .f64 op) := Chg.cell hS d7 hnf; have f8 : w3.cell? ⟨w.heap.size, 8, none⟩ = some (.bool ar) := Chg.cell hS d8 hnf; have f9 : w3.cell? ⟨w.heap.size, 9, none⟩ = some (.string at_) := Chg.cell hS d9 hnf; go_simp) hS ?_
    refine tkH (i := 5) (v := .agg #[.int .i64 aw, .int .i64 as_, .int .i64 ok, .int .i64 og, .int .i64 oa, .int .i64 od, .int .i64 oi, .float .f64 op, .bool ar, .string at_]) rfl (fun w3 hS => by have f0 : w3.cell? ⟨w.heap.size, 0, none⟩ = some (.int .i64 aw) := Chg.cell hS d0 hnf; have f1 : w3.cell? ⟨w.heap.size, 1, none⟩ = some (.int .i64 as_) := Chg.cell hS d1 hnf; have f2 : w3.cell? ⟨w.heap.size, 2, none⟩ = some (.int .i64 ok) := Chg.cell hS d2 hnf; have f3 : w3.cell? ⟨w.heap.size, 3, none⟩ = some (.int .i64 og) := Chg.cell hS d3 hnf; have f4 : w3.cell? ⟨w.heap.size, 4, none⟩ = some (.int .i64 oa) := Chg.cell hS d4 hnf; have f5 : w3.cell? ⟨w.heap.size, 5, none⟩ = some (.int .i64 od) := Chg.cell hS d5 hnf; have f6 : w3.cell? ⟨w.heap.size, 6, none⟩ = some (.int .i64 oi) := Chg.cell hS d6 hnf; have f7 : w3.cell? ⟨w.heap.size, 7, none⟩ = some (.float .f64 op) := Chg.cell hS d7 hnf; have f8 : w3.cell? ⟨w.heap.size, 8, none⟩ = some (.bool ar) := Chg.cell hS d8 hnf; have f9 : w3.cell? ⟨w.heap.size, 9, none⟩ = some (.string at_) := Chg.cell hS d9 hnf; go_simp) hS ?_
    refine wpAnyH_ready (rs := [6]) (by kernel_rfl) (by simp) ?_
    refine AllReadyH.cons rfl (fun K hK => ?_) AllReadyH.nil
    go_simp
    refine (HTx.out _).mono ?_
    rintro e w4 ⟨rfl, b4⟩
    have b4' : Below w2.heap.size w2 w4 := ⟨b4.os, b4.tape, b4.output, b4.size, b4.block⟩
    have C4 : Chg X.foot w2 w4 := Chg.of_below b4'
    refine hK.out _ _ C4 (fun hS => ?_)
    clear hK
    refine wpAnyH_ready (rs := [7]) (by kernel_rfl) (by simp) ?_
    refine AllReadyH.cons rfl (fun K hK => ?_) AllReadyH.nil
    go_simp
    refine (HDo.out w4 X (Hm.below HM.out b4') (Nat.le_trans HZw.out b4'.size)).mono ?_
    rintro e w5 ⟨rfl, X5, m5, s5, p5⟩
    have C5 : Chg X.foot w2 w5 := C4.trans (fun q hq => Or.inl hq) s5.chg
    refine hK.out _ _ C5 (fun hS => ?_)
    clear hK
    refine wpAnyH_done (by kernel_rfl) ?_ _
    have HM5 : Hid (Hm w5 W0.heap.size X5 D.2.2) := m5
    have HA5 : Hid _ := Blk.chg HA2.out C5 hnf
    have HO5 : Hid (w5.ownsRow WD.heap.size 38 2 v1 (hrecs H).length (rcCells (hrecs H))) := own_hst HO1.out C5 (fun k hk => HMD.out.foot_lt k hk)
    have HB5 : Hid (Below w.heap.size w w5) := HB0.out.trans ((below_chg HBw.out HZw.out C5 (fun q hq => HM.out.foot_base q hq)).mono HB0.out.size)
    have HRR : Hid (∀ wx, Hm wx W0.heap.size X5 D.2.2 → Calls Tryz.prog 7 #[.pointer (some ⟨X.p, 0, none⟩)] wx fun e w' => ∃ v, e = .returned v ∧ w'.ownsRow wx.heap.size 38 2 v (hrecs D.2.2).length (rcCells (hrecs D.2.2)) ∧ Below wx.heap.size wx w') := fun wx hx => by
      have := records_hs wx hx
      rw [p5] at this
      exact this
    clear m5 s5 p5 C5 C4 b4 b4' HDo hS hnf d0 d1 d2 d3 d4 d5 d6 d7 d8 d9 HO1 HA2 HTx
    have HR2 : Hid _ := HRR.out w5 HM5.out
    go_wp2_with fail
    refine Calls.mono HR2.out ?_
    rintro e w6 ⟨v2, rfl, own2, b6⟩
    have q1 := rcs_h HMD.out (own_belowL HO5.out b6)
    have q2 := rcs_h HM5.out own2
    have HA6 : Hid _ := Blk.below HA5.out b6
    have HB6 : Hid (Below w.heap.size w w6) := HB5.out.trans (b6.mono HB5.out.size)
    have hl1 : 3 ≤ (hrecs H).length := by have := hrecs_len3 H; have := HHl.out.1; omega
    have hl2 : 3 ≤ (hrecs D.2.2).length := by have := hrecs_len3 D.2.2; have := HL5.out.1; have := HHl.out.1; omega
    have HP : Hid (∀ k : Nat, k < 3 → (k : Int) ≠ aw → ∃ m, (hrecs H)[k]? = some m ∧ (hrecs D.2.2)[k]? = some m) := fun k hk hka => by
      have e1 := hrecs_at (H := H) (i := k) (by have := HHl.out.1; omega)
      have e2 := hrecs_at (H := D.2.2) (i := k) (by have := HL5.out.1; have := HHl.out.1; omega)
      rw [HOth.out k hka, HL5.out.2.1] at e2
      exact ⟨_, e1, e2⟩
    clear own2 b6 HR2 HRR HO5 HA5 HB5
    generalize hrecs H = R1 at *
    generalize hrecs D.2.2 = R2 at *
    rcases q1 with ⟨_, hq1⟩ | ⟨g1, f1, c1, rfl, hc1⟩
    · rw [hq1] at hl1; simp at hl1
    rcases q2 with ⟨_, hq2⟩ | ⟨g2, f2, c2, rfl, hc2⟩
    · rw [hq2] at hl2; simp at hl2
    have HC1 : Hid _ := hc1
    have HC2 : Hid _ := hc2
    clear hc1 hc2
    obtain ⟨n1, hn1⟩ : ∃ n, R1.length = n := ⟨_, rfl⟩
    obtain ⟨n2, hn2⟩ : ∃ n, R2.length = n := ⟨_, rfl⟩
    rw [hn1] at hl1 ⊢
    rw [hn2] at hl2 ⊢
    have HN1 : Hid _ := hn1
    have HN2 : Hid _ := hn2
    clear hn1 hn2
    go_wp2
    go_loopw [10] (fun i wr => ∃ k : Nat, k ≤ 3 ∧ i = .int .i64 k ∧ Hid (Below w6.heap.size w6 wr)) (fun i _ => 3 - (intOf i).toNat)
    case atStart => exact ⟨0, by omega, rfl, Below.refl _ _⟩
    case round =>
      obtain ⟨k, hk, rfl, HBr⟩ := hrel
      by_cases hlt : k < 3
      · have hdk : decide ((k : Int) < 3) = true := by simp only [decide_eq_true_eq]; omega
        have a0 : wr.cell? ⟨w.heap.size, 0, none⟩ = some (.int .i64 aw) := Blk.cell (Blk.below HA6.out HBr.out) rfl
        by_cases hka : (k : Int) = aw
        · have hb : ((k : Int) != aw) = false := by simpa using hka
          clear hka
          go_wp2
          go_quiet (fail)
          go_wp2
          exact ⟨⟨k + 1, by omega, by norm_cast, HBr.out.trans (Led.drewN_below _ _ _)⟩, by simp [intOf]; omega⟩
        · have hb : ((k : Int) != aw) = true := by simpa using hka
          obtain ⟨m, e1, e2⟩ := HP.out k hlt hka
          obtain ⟨t1, e1⟩ := List.getElem?_eq_some_iff.1 e1
          obtain ⟨t2, e2⟩ := List.getElem?_eq_some_iff.1 e2
          obtain ⟨x1, x2, -, -⟩ := HC1.out k t1
          obtain ⟨y1, y2, -, -⟩ := HC2.out k t2
          rw [e1] at x1 x2
          rw [e2] at y1 y2
          have X1' := keepB HBr.out x1
          have X2' := keepB HBr.out x2
          have Y1' := keepB HBr.out y1
          have Y2' := keepB HBr.out y2
          have hns := fun wx => neq_selfH m wx
          clear hka e1 e2 t1 t2 x1 x2 y1 y2
          go_wp2
          go_quiet (fail)
          go_wp2
          exact ⟨⟨k + 1, by omega, by norm_cast, HBr.out.trans (Led.drewN_below _ _ _)⟩, by simp [intOf]; omega⟩
      · have hdk : decide ((k : Int) < 3) = false := by simp only [decide_eq_false_iff_not]; omega
        go_wp2_with fail
        refine (HA.out _).mono ?_
        rintro e w9 ⟨rfl, b9⟩
        go_wp2
        go_ret
        have BR := HB6.out.trans (HBr.out.mono HB6.out.size)
        exact ⟨rfl, BR.trans (b9.mono BR.size)⟩
end Go.Proofs.YtladgfngddgnlaaGreatDoor
