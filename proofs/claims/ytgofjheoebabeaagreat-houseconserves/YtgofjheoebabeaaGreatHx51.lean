/- HouseConserves for every script and request: it answers true. -/
import Derived.Test.YtgofjheoebabeaaGreatHx50
import Derived.Test.YtgofjheoebabeaaGreatHx09
namespace Go.Proofs.YtgofjheoebabeaaGreat
open Go.RowKit
set_option linter.unusedSimpArgs false
set_option linter.unusedVariables false

/-- What a request does to all there is. -/
theorem cons_cases {H : Hs} (hg : H.g ≤ 4) (who stamp : Int) (op : ByteArray) (D : ByteArray × Int × Hs) (hD : doR H who stamp op = D) :
    (D.2.1 ≠ 0 ∧ ∀ x, Led.IsA x → Led.tot D.2.2.l x = Led.tot H.l x) ∨
    (D.2.1 = 0 ∧ (∃ (b : UInt8) (r : List UInt8), D.1 = ⟨(b :: r).toArray⟩ ∧ b ≠ 0) ∧ ∀ x, Led.IsA x → Led.tot D.2.2.l x = Led.tot H.l x) ∨
    (D.2.1 = 0 ∧ (∃ (r : List UInt8), D.1 = ⟨((0 : UInt8) :: r).toArray⟩) ∧ ∃ o : Oo, opAns (ofOpR op) = #[o.val, .int .i64 0] ∧ (0 ≤ o.a ∧ o.a ≤ 9007199254740992) ∧
      (o.k = 4 ∨ o.k = 5 → ∃ q : Nat, o.g = q ∧ q < H.g) ∧ ∀ x, Led.IsA x → Led.tot D.2.2.l x = Led.tot H.l x + if x = outK o then outN o else 0) := by
  subst hD
  by_cases hr : refR H.l who stamp = 0
  · right
    have e1 : (doR H who stamp op).2.1 = 0 := by unfold doR; rw [if_pos hr]
    have e3 : (doR H who stamp op).1 = layR (reqR H who op).1 (valR H who op) := by unfold doR; rw [if_pos hr]
    obtain ⟨b, r, hb, hb0⟩ := layR_head (c := (reqR H who op).1) (V := valR H who op) (reqR_cd H who op).1
    cases ho : ofOpR op with
    | error er =>
      left
      have hq : reqR H who op = (90, H) := by unfold reqR; rw [ho]
      refine ⟨e1, ⟨b, r, e3.trans hb, fun e => ?_⟩, fun x hx => ?_⟩
      · have := hb0.1 e
        rw [hq] at this
        cases this
      · have hls := layR_size 90 (valR H who op)
        obtain ⟨i, rfl, hi, e⟩ := markR_is (l' := H.l) (t := layR 90 (valR H who op)) hr rfl (fun _ => rfl) (by omega)
        have e4 : (doR H i stamp op).2.2.l = (Led.markR H.l i stamp (layR 90 (valR H i op))).2 := by unfold doR; rw [if_pos hr, hq]; rfl
        rw [e4, e]
        show Led.tot (Led.markL H.l i stamp _) x = _
        rw [Led.sum_mark hi hx]
        omega
    | ok o =>
      have hR := doR_rps hg hr ho
      by_cases hc : (reqR H who op).1 = 0
      · right
        refine ⟨e1, ⟨r, by rw [e3, hb, hb0.2 hc]⟩, o, rfl, (ofOpR_good ho).1.2.1, fun hk => ?_, fun x hx => by rw [hR.tot x hx, if_pos hc]⟩
        have hd : reqR H who op = deedR H who o := by unfold reqR; rw [ho]
        rw [hd] at hc
        unfold deedR at hc
        rcases hk with hk | hk
        · rw [if_neg (by omega), if_neg (by omega), if_neg (by omega), if_pos hk] at hc
          have h2 := (Led.gate_ok (show (Led.gate _ _ _).1 = 0 from hc)).1
          exact (Led.refG_ok h2).2
        · rw [if_neg (by omega), if_neg (by omega), if_neg (by omega), if_neg (by omega), if_pos hk] at hc
          have h2 := (Led.gate_ok (show (Led.gate _ _ _).1 = 0 from hc)).1
          exact (Led.refG_ok h2).2
      · left
        refine ⟨e1, ⟨b, r, e3.trans hb, fun e => hc (hb0.1 e)⟩, fun x hx => ?_⟩
        rw [hR.tot x hx, if_neg hc]
        split <;> omega
  · left
    refine ⟨?_, fun x hx => ?_⟩
    · unfold doR; rw [if_neg hr]; exact hr
    · unfold doR; rw [if_neg hr]
theorem isA0 : Led.IsA 0 := Or.inl rfl
theorem isA2 : Led.IsA 2 := Or.inr ⟨by omega, by omega⟩
theorem isA3 : Led.IsA 3 := Or.inr ⟨by omega, by omega⟩
theorem isA4 : Led.IsA 4 := Or.inr ⟨by omega, by omega⟩
theorem isA5 : Led.IsA 5 := Or.inr ⟨by omega, by omega⟩

set_option maxRecDepth 100000 in
set_option maxHeartbeats 16000000 in
theorem conserves_hs (v : Value) (ls : List Rq) (rq : Rq) (w : World) (hl : Rqs w v ls) (hz : ls.length * 88 ≤ 140737488351232) (hf : rq.fit) :
    Calls Tryz.prog 3 #[v, .agg rq.cells.toArray] w fun e w' => e = .returned (.bool true) ∧ Below w.heap.size w w' := by
  obtain ⟨hpr, hsz⟩ := hf
  obtain ⟨W0, hW0, A0, B0, Z0⟩ : ∃ W0, (w.alloc (.cells #[.int .i64 rq.who, .int .i64 rq.stamp, .int .i64 rq.op.k, .int .i64 rq.op.g, .int .i64 rq.op.a, .int .i64 rq.op.d, .int .i64 rq.op.i, .float .f64 rq.op.pr, .bool rq.raw, .string rq.txt] 27)) = W0 ∧ Blk W0 w.heap.size rq.cells.toArray 27 ∧ Below w.heap.size w W0 ∧ W0.heap.size = w.heap.size + 1 := ⟨_, rfl, blk_new _ _ _ _ rfl, by go_grown, by simp⟩
  have HB : Hid _ := begun_hs v ls W0 (hl.below B0) hz
  have HA : Hid _ := awake_calls
  have hlen := runs3 (ls.take 60)
  have hpst : Hid (Pst (runsR h32 (ls.take 60))) := runsR_pst (new_pst 3 2) (ls.take 60)
  generalize runsR h32 (ls.take 60) = H at *
  have HA0 : Hid (Blk W0 w.heap.size rq.cells.toArray 27) := A0
  have HB0 : Hid (Below w.heap.size w W0) := B0
  have HHl : Hid _ := hlen
  have HTx : Hid _ := fun wx => text_hs rq wx hpr
  have HOf : Hid _ := fun wx => ofOp_ref rq.text wx (text_size _ hsz)
  have HDo : Hid _ := fun (wx : World) (X : Ad) (hm : Hm wx W0.heap.size X H) hB => do_calls wx hm hB hpst.out rq.who rq.stamp rq.text (text_size _ hsz)
  have hcs := cons_cases (H := H) (by omega) rq.who rq.stamp rq.text
  obtain ⟨D, hD⟩ : ∃ D, doR H rq.who rq.stamp rq.text = D := ⟨_, rfl⟩
  have hcs2 := hcs D hD
  rw [hD] at HDo
  have HCs : Hid ((D.2.1 ≠ 0 ∧ Led.tot D.2.2.l 0 = Led.tot H.l 0 ∧ Led.tot D.2.2.l 2 = Led.tot H.l 2 ∧ Led.tot D.2.2.l 3 = Led.tot H.l 3 ∧ Led.tot D.2.2.l 4 = Led.tot H.l 4 ∧ Led.tot D.2.2.l 5 = Led.tot H.l 5) ∨ (D.2.1 = 0 ∧ (∃ (b : UInt8) (r : List UInt8), D.1 = ⟨(b :: r).toArray⟩ ∧ b ≠ 0) ∧ Led.tot D.2.2.l 0 = Led.tot H.l 0 ∧ Led.tot D.2.2.l 2 = Led.tot H.l 2 ∧ Led.tot D.2.2.l 3 = Led.tot H.l 3 ∧ Led.tot D.2.2.l 4 = Led.tot H.l 4 ∧ Led.tot D.2.2.l 5 = Led.tot H.l 5) ∨
      (D.2.1 = 0 ∧ (∃ (r : List UInt8), D.1 = ⟨((0 : UInt8) :: r).toArray⟩) ∧ ∃ o : Oo, opAns (ofOpR rq.text) = #[o.val, .int .i64 0] ∧ (0 ≤ o.a ∧ o.a ≤ 9007199254740992) ∧ (o.k = 4 ∨ o.k = 5 → o.g = 0 ∨ o.g = 1) ∧ Led.tot D.2.2.l 0 = Led.tot H.l 0 + (if 0 = outK o then outN o else 0) ∧ Led.tot D.2.2.l 2 = Led.tot H.l 2 + (if 2 = outK o then outN o else 0) ∧ Led.tot D.2.2.l 3 = Led.tot H.l 3 + (if 3 = outK o then outN o else 0) ∧ Led.tot D.2.2.l 4 = Led.tot H.l 4 + (if 4 = outK o then outN o else 0) ∧ Led.tot D.2.2.l 5 = Led.tot H.l 5 + if 5 = outK o then outN o else 0)) := by
    show _
    rcases hcs2 with ⟨h1, h2⟩ | ⟨h1, h2, h3⟩ | ⟨h1, h2, o, h3, h4, h5, h6⟩
    · exact Or.inl ⟨h1, h2 0 isA0, h2 2 isA2, h2 3 isA3, h2 4 isA4, h2 5 isA5⟩
    · exact Or.inr (Or.inl ⟨h1, h2, h3 0 isA0, h3 2 isA2, h3 3 isA3, h3 4 isA4, h3 5 isA5⟩)
    · refine Or.inr (Or.inr ⟨h1, h2, o, h3, h4, fun hk => ?_, h6 0 isA0, h6 2 isA2, h6 3 isA3, h6 4 isA4, h6 5 isA5⟩)
      obtain ⟨q, hq, hq2⟩ := h5 hk
      rw [hlen.2.1] at hq2
      omega
  have HZ0 : Hid _ := Z0
  clear hcs hcs2 hD A0 B0 hl hz hpst hlen hsz hpr Z0
  unfold Rq.cells at HA0 ⊢
  unfold Rq.val Rq.cells at HTx
  generalize rq.text = tx at *
  generalize rq.who = aw at *
  generalize rq.stamp = as_ at *
  generalize rq.op.k = ok at *
  generalize rq.op.g = og at *
  generalize rq.op.a = oa at *
  generalize rq.op.d = od at *
  generalize rq.op.i = oi at *
  generalize rq.op.pr = op at *
  generalize rq.raw = ar at *
  generalize rq.txt = at_ at *
  go_enter Tryz.func3, Tryz.ntmps3
  go_wp2_with fail
  refine Calls.mono HB.out ?_
  rintro e w1 ⟨X, rfl, m1, b1⟩
  have HT : Hid _ := totals_hs w1 m1.ha
  unfold Led.totV Led.gC at HT
  go_wp2_with fail
  refine Calls.mono HT.out ?_
  rintro e w2 ⟨rfl, b2⟩
  obtain ⟨WG, hWG, XG, BG⟩ : ∃ WG, (w2.alloc (.cells #[.int .i64 (Led.tot H.l 2), .int .i64 (Led.tot H.l 3), .int .i64 (Led.tot H.l 4), .int .i64 (Led.tot H.l 5)] 30)) = WG ∧ Blk WG w2.heap.size #[.int .i64 (Led.tot H.l 2), .int .i64 (Led.tot H.l 3), .int .i64 (Led.tot H.l 4), .int .i64 (Led.tot H.l 5)] 30 ∧ Below w2.heap.size w2 WG := ⟨_, rfl, blk_new _ _ _ _ rfl, by go_grown⟩
  have z1 := b1.size
  have z2 := b2.size
  have B0G : Below W0.heap.size W0 WG := (b1.trans (b2.mono z1)).trans (BG.mono (Nat.le_trans z1 z2))
  have mG : Hm WG W0.heap.size X H := (m1.below b2).below BG
  have hzG := B0G.size
  have hnf : ¬ X.foot w.heap.size := fun e => by have := mG.foot_base _ e; have := HZ0.out; omega
  have hng : ¬ X.foot w2.heap.size := mG.foot_typ XG (by decide)
  have hgb : w2.heap.size ≠ w.heap.size := by have := HZ0.out; omega
  have AG := HA0.out.below B0G
  have d0 : WG.cell? ⟨w.heap.size, 0, none⟩ = some (.int .i64 aw) := AG.cell rfl
  have d1 : WG.cell? ⟨w.heap.size, 1, none⟩ = some (.int .i64 as_) := AG.cell rfl
  have d2 : WG.cell? ⟨w.heap.size, 2, none⟩ = some (.int .i64 ok) := AG.cell rfl
  have d3 : WG.cell? ⟨w.heap.size, 3, none⟩ = some (.int .i64 og) := AG.cell rfl
  have d4 : WG.cell? ⟨w.heap.size, 4, none⟩ = some (.int .i64 oa) := AG.cell rfl
  have d5 : WG.cell? ⟨w.heap.size, 5, none⟩ = some (.int .i64 od) := AG.cell rfl
  have d6 : WG.cell? ⟨w.heap.size, 6, none⟩ = some (.int .i64 oi) := AG.cell rfl
  have d7 : WG.cell? ⟨w.heap.size, 7, none⟩ = some (.float .f64 op) := AG.cell rfl
  have d8 : WG.cell? ⟨w.heap.size, 8, none⟩ = some (.bool ar) := AG.cell rfl
  have d9 : WG.cell? ⟨w.heap.size, 9, none⟩ = some (.string at_) := AG.cell rfl
  have HBZ : Hid (Below w.heap.size w W0) := HB0.out
  have HMG : Hid (Hm WG W0.heap.size X H) := mG
  have HBG : Hid (Below W0.heap.size W0 WG) := B0G
  have hinv := mG.ha.lg.inv
  have q0 := hinv.all 0 1 Led.part0
  have p0 := Led.tot_nonneg H.l 0 (hinv.nn Led.part0)
  have q2 := hinv.all 2 6 Led.part2
  have p2 := Led.tot_nonneg H.l 2 (hinv.nn Led.part2)
  have q3 := hinv.all 3 7 Led.part3
  have p3 := Led.tot_nonneg H.l 3 (hinv.nn Led.part3)
  generalize Led.tot H.l 0 = t0 at *
  generalize Led.tot H.l 2 = t2 at *
  generalize Led.tot H.l 3 = t3 at *
  generalize Led.tot H.l 4 = t4 at *
  generalize Led.tot H.l 5 = t5 at *
  clear hinv HT b1 b2 m1 BG B0G mG HB HB0 hW0
  go_wp2_with fail
  go_upto_region 5 with fail
  refine wp_region_held_drew (S := (fun wx => Chg X.foot WG wx)) (by kernel_rfl) (Chg.of_below (Below.refl WG.heap.size WG) : Chg X.foot WG WG).drew (fun hS => ?_)
  refine tkG (i := 0) (v := .pointer (some ⟨X.p, 0, none⟩)) rfl hS ?_
  refine tkG (i := 1) (v := .pointer (some ⟨w.heap.size, 0, none⟩)) rfl hS ?_
  refine tkH (i := 2) (v := .int .i64 aw) rfl (fun w3 hS => by have f0 : w3.cell? ⟨w.heap.size, 0, none⟩ = some (.int .i64 aw) := Chg.cell hS d0 hnf; have f1 : w3.cell? ⟨w.heap.size, 1, none⟩ = some (.int .i64 as_) := Chg.cell hS d1 hnf; have f2 : w3.cell? ⟨w.heap.size, 2, none⟩ = some (.int .i64 ok) := Chg.cell hS d2 hnf; have f3 : w3.cell? ⟨w.heap.size, 3, none⟩ = some (.int .i64 og) := Chg.cell hS d3 hnf; have f4 : w3.cell? ⟨w.heap.size, 4, none⟩ = some (.int .i64 oa) := Chg.cell hS d4 hnf; have f5 : w3.cell? ⟨w.heap.size, 5, none⟩ = some (.int .i64 od) := Chg.cell hS d5 hnf; have f6 : w3.cell? ⟨w.heap.size, 6, none⟩ = some (.int .i64 oi) := Chg.cell hS d6 hnf; have f7 : w3.cell? ⟨w.heap.size, 7, none⟩ = some (.float .f64 op) := Chg.cell hS d7 hnf; have f8 : w3.cell? ⟨w.heap.size, 8, none⟩ = some (.bool ar) := Chg.cell hS d8 hnf; have f9 : w3.cell? ⟨w.heap.size, 9, none⟩ = some (.string at_) := Chg.cell hS d9 hnf; go_simp) hS ?_
  refine tkG (i := 3) (v := .pointer (some ⟨w.heap.size, 1, none⟩)) rfl hS ?_
  refine tkH (i := 4) (v := .int .i64 as_) rfl (fun w3 hS => by have f0 : w3.cell? ⟨w.heap.size, 0, none⟩ = some (.int .i64 aw) := Chg.cell hS d0 hnf; have f1 : w3.cell? ⟨w.heap.size, 1, none⟩ = some (.int .i64 as_) := Chg.cell hS d1 hnf; have f2 : w3.cell? ⟨w.heap.size, 2, none⟩ = some (.int .i64 ok) := Chg.cell hS d2 hnf; have f3 : w3.cell? ⟨w.heap.size, 3, none⟩ = some (.int .i64 og) := Chg.cell hS d3 hnf; have f4 : w3.cell? ⟨w.heap.size, 4, none⟩ = some (.int .i64 oa) := Chg.cell hS d4 hnf; have f5 : w3.cell? ⟨w.heap.size, 5, none⟩ = some (.int .i64 od) := Chg.cell hS d5 hnf; have f6 : w3.cell? ⟨w.heap.size, 6, none⟩ = some (.int .i64 oi) := Chg.cell hS d6 hnf; have f7 : w3.cell? ⟨w.heap.size, 7, none⟩ = some (.float .f64 op) := Chg.cell hS d7 hnf; have f8 : w3.cell? ⟨w.heap.size, 8, none⟩ = some (.bool ar) := Chg.cell hS d8 hnf; have f9 : w3.cell? ⟨w.heap.size, 9, none⟩ = some (.string at_) := Chg.cell hS d9 hnf; go_simp) hS ?_
  refine tkH (i := 5) (v := .agg #[.int .i64 aw, .int .i64 as_, .int .i64 ok, .int .i64 og, .int .i64 oa, .int .i64 od, .int .i64 oi, .float .f64 op, .bool ar, .string at_]) rfl (fun w3 hS => by have f0 : w3.cell? ⟨w.heap.size, 0, none⟩ = some (.int .i64 aw) := Chg.cell hS d0 hnf; have f1 : w3.cell? ⟨w.heap.size, 1, none⟩ = some (.int .i64 as_) := Chg.cell hS d1 hnf; have f2 : w3.cell? ⟨w.heap.size, 2, none⟩ = some (.int .i64 ok) := Chg.cell hS d2 hnf; have f3 : w3.cell? ⟨w.heap.size, 3, none⟩ = some (.int .i64 og) := Chg.cell hS d3 hnf; have f4 : w3.cell? ⟨w.heap.size, 4, none⟩ = some (.int .i64 oa) := Chg.cell hS d4 hnf; have f5 : w3.cell? ⟨w.heap.size, 5, none⟩ = some (.int .i64 od) := Chg.cell hS d5 hnf; have f6 : w3.cell? ⟨w.heap.size, 6, none⟩ = some (.int .i64 oi) := Chg.cell hS d6 hnf; have f7 : w3.cell? ⟨w.heap.size, 7, none⟩ = some (.float .f64 op) := Chg.cell hS d7 hnf; have f8 : w3.cell? ⟨w.heap.size, 8, none⟩ = some (.bool ar) := Chg.cell hS d8 hnf; have f9 : w3.cell? ⟨w.heap.size, 9, none⟩ = some (.string at_) := Chg.cell hS d9 hnf; go_simp) hS ?_
  refine wpAnyH_ready (rs := [6]) (by kernel_rfl) (by simp) ?_
  refine AllReadyH.cons rfl (fun K hK => ?_) AllReadyH.nil
  go_simp
  refine (HTx.out _).mono ?_
  rintro e w4 ⟨rfl, b4⟩
  have b4' : Below WG.heap.size WG w4 := ⟨b4.os, b4.tape, b4.output, b4.size, b4.block⟩
  have C4 : Chg X.foot WG w4 := Chg.of_below b4'
  refine hK.out _ _ C4 (fun hS => ?_)
  clear hK
  refine wpAnyH_ready (rs := [7]) (by kernel_rfl) (by simp) ?_
  refine AllReadyH.cons rfl (fun K hK => ?_) AllReadyH.nil
  go_simp
  refine (HDo.out w4 X (HMG.out.below b4') (Nat.le_trans hzG b4'.size)).mono ?_
  rintro e w5 ⟨rfl, X5, m5, s5, p5⟩
  have C5 : Chg X.foot WG w5 := C4.trans (fun q hq => Or.inl hq) s5.chg
  refine hK.out _ _ C5 (fun hS => ?_)
  clear hK
  refine tkG (i := 8) (v := .tuple #[.string D.1, .int .i64 D.2.1]) rfl hS ?_
  refine tkG (i := 9) (v := .string D.1) rfl hS ?_
  refine tkG (i := 10) (v := .int .i64 D.2.1) rfl hS ?_
  refine tkG (i := 11) (v := .string D.1) rfl hS ?_
  refine tkG (i := 12) (v := .int .i64 D.2.1) rfl hS ?_
  refine wpAnyH_done (by kernel_rfl) ?_ _
  have HM5 : Hid (Hm w5 W0.heap.size X5 D.2.2) := m5
  have HA5 : Hid (Blk w5 w.heap.size #[.int .i64 aw, .int .i64 as_, .int .i64 ok, .int .i64 og, .int .i64 oa, .int .i64 od, .int .i64 oi, .float .f64 op, .bool ar, .string at_] 27) := Blk.chg AG C5 hnf
  have HXG5 : Hid (Blk w5 w2.heap.size #[.int .i64 t2, .int .i64 t3, .int .i64 t4, .int .i64 t5] 30) := Blk.chg XG C5 hng
  have HB5 : Hid (Below w.heap.size w w5) := (HBZ.out).trans ((below_chg HBG.out hzG C5 (fun q hq => HMG.out.foot_base q hq)).mono HBZ.out.size)
  have hi5 := m5.ha.lg.inv
  have r0 := hi5.all 0 1 Led.part0
  have s0 := Led.tot_nonneg D.2.2.l 0 (hi5.nn Led.part0)
  have r2 := hi5.all 2 6 Led.part2
  have s2 := Led.tot_nonneg D.2.2.l 2 (hi5.nn Led.part2)
  have r3 := hi5.all 3 7 Led.part3
  have s3 := Led.tot_nonneg D.2.2.l 3 (hi5.nn Led.part3)
  have HTT : Hid (∀ wx, Hm wx W0.heap.size X5 D.2.2 → Calls Tryz.prog 8 #[.pointer (some ⟨X.p, 0, none⟩)] wx fun e w' => e = .returned (Led.totV (Led.tot D.2.2.l)) ∧ Below wx.heap.size wx w') := fun wx hx => by
    have := totals_hs wx hx.ha
    rw [p5] at this
    exact this
  obtain ⟨D1, D2, DH⟩ := D
  simp only at HCs r0 s0 r2 s2 r3 s3 HTT HM5 ⊢
  clear hi5 m5 s5 p5 C5 C4 b4 b4' HDo hS AG XG HMG hnf hng d0 d1 d2 d3 d4 d5 d6 d7 d8 d9
  rcases HCs.out with ⟨hne, T0, T2, T3, T4, T5⟩ | ⟨rfl, ⟨bb, rr, hD1, hbb⟩, T0, T2, T3, T4, T5⟩ | ⟨rfl, ⟨rr, hD1⟩, ⟨pk, pg, pa, pd, pi, pp⟩, hop, hpa, hpg, T0, T2, T3, T4, T5⟩
  · have hd : (D2 != 0) = true := by simpa using hne
    clear hne HCs HTx HOf
    have HT6 : Hid _ := HTT.out w5 HM5.out
    unfold Led.totV Led.gC at HT6
    rw [T0, T2, T3, T4, T5] at HT6
    go_wp2_with fail
    refine Calls.mono HT6.out ?_
    rintro e w6 ⟨rfl, b6⟩
    obtain ⟨W7, hW7, X7, B7⟩ : ∃ W7, (w6.alloc (.cells #[.int .i64 t2, .int .i64 t3, .int .i64 t4, .int .i64 t5] 30)) = W7 ∧ Blk W7 w6.heap.size #[.int .i64 t2, .int .i64 t3, .int .i64 t4, .int .i64 t5] 30 ∧ Below w6.heap.size w6 W7 := ⟨_, rfl, blk_new _ _ _ _ rfl, by go_grown⟩
    have z6 := b6.size
    have HB7 : Hid (Below w5.heap.size w5 W7) := b6.trans (B7.mono z6)
    have g0 : W7.cell? ⟨w2.heap.size, 0, none⟩ = some (.int .i64 t2) := (HXG5.out.below HB7.out).cell rfl
    have g1 : W7.cell? ⟨w2.heap.size, 1, none⟩ = some (.int .i64 t3) := (HXG5.out.below HB7.out).cell rfl
    have g2 : W7.cell? ⟨w2.heap.size, 2, none⟩ = some (.int .i64 t4) := (HXG5.out.below HB7.out).cell rfl
    have g3 : W7.cell? ⟨w2.heap.size, 3, none⟩ = some (.int .i64 t5) := (HXG5.out.below HB7.out).cell rfl
    have k0 : W7.cell? ⟨w6.heap.size, 0, none⟩ = some (.int .i64 t2) := X7.cell rfl
    have k1 : W7.cell? ⟨w6.heap.size, 1, none⟩ = some (.int .i64 t3) := X7.cell rfl
    have k2 : W7.cell? ⟨w6.heap.size, 2, none⟩ = some (.int .i64 t4) := X7.cell rfl
    have k3 : W7.cell? ⟨w6.heap.size, 3, none⟩ = some (.int .i64 t5) := X7.cell rfl
    clear B7 b6 z6 HT6 HTT
    go_wp2_with fail
    refine (HA.out _).mono ?_
    rintro e w9 ⟨rfl, b9⟩
    go_wp2
    go_ret
    exact ⟨rfl, HB5.out.trans ((HB7.out.trans (b9.mono HB7.out.size)).mono HB5.out.size)⟩
  · obtain ⟨rep, hrep, s1, sz, sv⟩ := head_ex bb rr
    rw [hrep] at hD1
    subst hD1
    have hbn : bb.toNat ≠ 0 := fun e => hbb (UInt8.toNat_inj.1 (by rw [e]; rfl))
    have hbi : ((bb.toNat : Int) != 0) = true := by simpa using hbn
    clear hrep HCs HTx HOf hbb hbn
    have HT6 : Hid _ := HTT.out w5 HM5.out
    unfold Led.totV Led.gC at HT6
    rw [T0, T2, T3, T4, T5] at HT6
    go_wp2_with fail
    refine Calls.mono HT6.out ?_
    rintro e w6 ⟨rfl, b6⟩
    obtain ⟨W7, hW7, X7, B7⟩ : ∃ W7, (w6.alloc (.cells #[.int .i64 t2, .int .i64 t3, .int .i64 t4, .int .i64 t5] 30)) = W7 ∧ Blk W7 w6.heap.size #[.int .i64 t2, .int .i64 t3, .int .i64 t4, .int .i64 t5] 30 ∧ Below w6.heap.size w6 W7 := ⟨_, rfl, blk_new _ _ _ _ rfl, by go_grown⟩
    have z6 := b6.size
    have HB7 : Hid (Below w5.heap.size w5 W7) := b6.trans (B7.mono z6)
    have g0 : W7.cell? ⟨w2.heap.size, 0, none⟩ = some (.int .i64 t2) := (HXG5.out.below HB7.out).cell rfl
    have g1 : W7.cell? ⟨w2.heap.size, 1, none⟩ = some (.int .i64 t3) := (HXG5.out.below HB7.out).cell rfl
    have g2 : W7.cell? ⟨w2.heap.size, 2, none⟩ = some (.int .i64 t4) := (HXG5.out.below HB7.out).cell rfl
    have g3 : W7.cell? ⟨w2.heap.size, 3, none⟩ = some (.int .i64 t5) := (HXG5.out.below HB7.out).cell rfl
    have k0 : W7.cell? ⟨w6.heap.size, 0, none⟩ = some (.int .i64 t2) := X7.cell rfl
    have k1 : W7.cell? ⟨w6.heap.size, 1, none⟩ = some (.int .i64 t3) := X7.cell rfl
    have k2 : W7.cell? ⟨w6.heap.size, 2, none⟩ = some (.int .i64 t4) := X7.cell rfl
    have k3 : W7.cell? ⟨w6.heap.size, 3, none⟩ = some (.int .i64 t5) := X7.cell rfl
    clear B7 b6 z6 HT6 HTT
    go_wp2_with fail
    refine (HA.out _).mono ?_
    rintro e w9 ⟨rfl, b9⟩
    go_wp2
    go_ret
    exact ⟨rfl, HB5.out.trans ((HB7.out.trans (b9.mono HB7.out.size)).mono HB5.out.size)⟩
  · obtain ⟨rep, hrep, s1, sz, sv⟩ := head_ex 0 rr
    rw [hrep] at hD1
    subst hD1
    clear hrep HCs
    have HOA : Hid _ := hop
    simp only at hpa hpg
    have hkk : pk = 2 ∨ pk = 3 ∨ (pk = 4 ∧ pg = 0) ∨ (pk = 4 ∧ pg = 1) ∨ (pk = 5 ∧ pg = 0) ∨ (pk = 5 ∧ pg = 1) ∨ (pk ≠ 2 ∧ pk ≠ 3 ∧ pk ≠ 4 ∧ pk ≠ 5) := by omega
    have HZ56 : Hid (w2.heap.size < w5.heap.size) := HXG5.out.lt
    clear hop
    rcases hkk with hk | hk | ⟨hk, hg⟩ | ⟨hk, hg⟩ | ⟨hk, hg⟩ | ⟨hk, hg⟩ | ⟨hk2, hk3, hk4, hk5⟩
    · subst hk
      replace T0 : Led.tot DH.l 0 = t0 + pa := by rw [T0]; unfold outK outN; simp; try omega
      replace T2 : Led.tot DH.l 2 = t2 := by rw [T2]; unfold outK outN; simp; try omega
      replace T3 : Led.tot DH.l 3 = t3 := by rw [T3]; unfold outK outN; simp; try omega
      replace T4 : Led.tot DH.l 4 = t4 := by rw [T4]; unfold outK outN; simp; try omega
      replace T5 : Led.tot DH.l 5 = t5 := by rw [T5]; unfold outK outN; simp; try omega
      rw [T0] at r0 s0
      rw [T2] at r2 s2
      rw [T3] at r3 s3
      have HT6 : Hid _ := HTT.out w5 HM5.out
      unfold Led.totV Led.gC at HT6
      rw [T0, T2, T3, T4, T5] at HT6
      go_wp2_with fail
      refine Calls.mono HT6.out ?_
      rintro e w6 ⟨rfl, b6⟩
      obtain ⟨W7, hW7, X7, B7⟩ : ∃ W7, (w6.alloc (.cells #[.int .i64 t2, .int .i64 t3, .int .i64 t4, .int .i64 t5] 30)) = W7 ∧ Blk W7 w6.heap.size #[.int .i64 t2, .int .i64 t3, .int .i64 t4, .int .i64 t5] 30 ∧ Below w6.heap.size w6 W7 := ⟨_, rfl, blk_new _ _ _ _ rfl, by go_grown⟩
      have z6 := b6.size
      have HB7 : Hid (Below w5.heap.size w5 W7) := b6.trans (B7.mono z6)
      clear B7 b6 HT6 HTT T0 T2 T3 T4 T5
      have AB := HA5.out.below HB7.out
      have d0 : W7.cell? ⟨w.heap.size, 0, none⟩ = some (.int .i64 aw) := AB.cell rfl
      have d1 : W7.cell? ⟨w.heap.size, 1, none⟩ = some (.int .i64 as_) := AB.cell rfl
      have d2 : W7.cell? ⟨w.heap.size, 2, none⟩ = some (.int .i64 ok) := AB.cell rfl
      have d3 : W7.cell? ⟨w.heap.size, 3, none⟩ = some (.int .i64 og) := AB.cell rfl
      have d4 : W7.cell? ⟨w.heap.size, 4, none⟩ = some (.int .i64 oa) := AB.cell rfl
      have d5 : W7.cell? ⟨w.heap.size, 5, none⟩ = some (.int .i64 od) := AB.cell rfl
      have d6 : W7.cell? ⟨w.heap.size, 6, none⟩ = some (.int .i64 oi) := AB.cell rfl
      have d7 : W7.cell? ⟨w.heap.size, 7, none⟩ = some (.float .f64 op) := AB.cell rfl
      have d8 : W7.cell? ⟨w.heap.size, 8, none⟩ = some (.bool ar) := AB.cell rfl
      have d9 : W7.cell? ⟨w.heap.size, 9, none⟩ = some (.string at_) := AB.cell rfl
      clear AB
      go_wp2_with fail
      refine (HTx.out _).mono ?_
      rintro e wA ⟨rfl, bA⟩
      have HO : Hid _ := HOf.out wA
      rw [HOA.out] at HO
      unfold Oo.val at HO
      simp only at HO
      go_wp2_with fail
      refine Calls.mono HO.out ?_
      rintro e wB ⟨rfl, bB⟩
      obtain ⟨W8, hW8, X8, B8⟩ : ∃ W8, (wB.alloc (.cells #[.int .i64 2, .int .i64 pg, .int .i64 pa, .int .i64 pd, .int .i64 pi, .float .f64 pp] 25)) = W8 ∧ Blk W8 wB.heap.size #[.int .i64 2, .int .i64 pg, .int .i64 pa, .int .i64 pd, .int .i64 pi, .float .f64 pp] 25 ∧ Below wB.heap.size wB W8 := ⟨_, rfl, blk_new _ _ _ _ rfl, by go_grown⟩
      have zA := bA.size
      have zB := bB.size
      have B78 : Below W7.heap.size W7 W8 := (bA.trans (bB.mono zA)).trans (B8.mono (Nat.le_trans zA zB))
      have B58 := HB7.out.trans (B78.mono HB7.out.size)
      have XG8 := HXG5.out.below B58
      have X78 := X7.below B78
      have o0 : W8.cell? ⟨wB.heap.size, 0, none⟩ = some (.int .i64 2) := X8.cell rfl
      have o1 : W8.cell? ⟨wB.heap.size, 1, none⟩ = some (.int .i64 pg) := X8.cell rfl
      have o2 : W8.cell? ⟨wB.heap.size, 2, none⟩ = some (.int .i64 pa) := X8.cell rfl
      have g0 : W8.cell? ⟨w2.heap.size, 0, none⟩ = some (.int .i64 t2) := XG8.cell rfl
      have g1 : W8.cell? ⟨w2.heap.size, 1, none⟩ = some (.int .i64 t3) := XG8.cell rfl
      have g2 : W8.cell? ⟨w2.heap.size, 2, none⟩ = some (.int .i64 t4) := XG8.cell rfl
      have g3 : W8.cell? ⟨w2.heap.size, 3, none⟩ = some (.int .i64 t5) := XG8.cell rfl
      have k0 : W8.cell? ⟨w6.heap.size, 0, none⟩ = some (.int .i64 t2) := X78.cell rfl
      have k1 : W8.cell? ⟨w6.heap.size, 1, none⟩ = some (.int .i64 t3) := X78.cell rfl
      have k2 : W8.cell? ⟨w6.heap.size, 2, none⟩ = some (.int .i64 t4) := X78.cell rfl
      have k3 : W8.cell? ⟨w6.heap.size, 3, none⟩ = some (.int .i64 t5) := X78.cell rfl
      have HBe : Hid (Below w.heap.size w W8) := HB5.out.trans (B58.mono HB5.out.size)
      clear XG8 X78 X8 B58 B78 B8 bA bB
      go_wp2_with fail
      refine (HA.out _).mono ?_
      rintro e w9 ⟨rfl, b9⟩
      go_wp2
      go_ret
      exact ⟨rfl, HBe.out.trans (b9.mono HBe.out.size)⟩
    · subst hk
      replace T0 : Led.tot DH.l 0 = t0 - pa := by rw [T0]; unfold outK outN; simp; try omega
      replace T2 : Led.tot DH.l 2 = t2 := by rw [T2]; unfold outK outN; simp; try omega
      replace T3 : Led.tot DH.l 3 = t3 := by rw [T3]; unfold outK outN; simp; try omega
      replace T4 : Led.tot DH.l 4 = t4 := by rw [T4]; unfold outK outN; simp; try omega
      replace T5 : Led.tot DH.l 5 = t5 := by rw [T5]; unfold outK outN; simp; try omega
      rw [T0] at r0 s0
      rw [T2] at r2 s2
      rw [T3] at r3 s3
      have HT6 : Hid _ := HTT.out w5 HM5.out
      unfold Led.totV Led.gC at HT6
      rw [T0, T2, T3, T4, T5] at HT6
      go_wp2_with fail
      refine Calls.mono HT6.out ?_
      rintro e w6 ⟨rfl, b6⟩
      obtain ⟨W7, hW7, X7, B7⟩ : ∃ W7, (w6.alloc (.cells #[.int .i64 t2, .int .i64 t3, .int .i64 t4, .int .i64 t5] 30)) = W7 ∧ Blk W7 w6.heap.size #[.int .i64 t2, .int .i64 t3, .int .i64 t4, .int .i64 t5] 30 ∧ Below w6.heap.size w6 W7 := ⟨_, rfl, blk_new _ _ _ _ rfl, by go_grown⟩
      have z6 := b6.size
      have HB7 : Hid (Below w5.heap.size w5 W7) := b6.trans (B7.mono z6)
      clear B7 b6 HT6 HTT T0 T2 T3 T4 T5
      have AB := HA5.out.below HB7.out
      have d0 : W7.cell? ⟨w.heap.size, 0, none⟩ = some (.int .i64 aw) := AB.cell rfl
      have d1 : W7.cell? ⟨w.heap.size, 1, none⟩ = some (.int .i64 as_) := AB.cell rfl
      have d2 : W7.cell? ⟨w.heap.size, 2, none⟩ = some (.int .i64 ok) := AB.cell rfl
      have d3 : W7.cell? ⟨w.heap.size, 3, none⟩ = some (.int .i64 og) := AB.cell rfl
      have d4 : W7.cell? ⟨w.heap.size, 4, none⟩ = some (.int .i64 oa) := AB.cell rfl
      have d5 : W7.cell? ⟨w.heap.size, 5, none⟩ = some (.int .i64 od) := AB.cell rfl
      have d6 : W7.cell? ⟨w.heap.size, 6, none⟩ = some (.int .i64 oi) := AB.cell rfl
      have d7 : W7.cell? ⟨w.heap.size, 7, none⟩ = some (.float .f64 op) := AB.cell rfl
      have d8 : W7.cell? ⟨w.heap.size, 8, none⟩ = some (.bool ar) := AB.cell rfl
      have d9 : W7.cell? ⟨w.heap.size, 9, none⟩ = some (.string at_) := AB.cell rfl
      clear AB
      go_wp2_with fail
      refine (HTx.out _).mono ?_
      rintro e wA ⟨rfl, bA⟩
      have HO : Hid _ := HOf.out wA
      rw [HOA.out] at HO
      unfold Oo.val at HO
      simp only at HO
      go_wp2_with fail
      refine Calls.mono HO.out ?_
      rintro e wB ⟨rfl, bB⟩
      obtain ⟨W8, hW8, X8, B8⟩ : ∃ W8, (wB.alloc (.cells #[.int .i64 3, .int .i64 pg, .int .i64 pa, .int .i64 pd, .int .i64 pi, .float .f64 pp] 25)) = W8 ∧ Blk W8 wB.heap.size #[.int .i64 3, .int .i64 pg, .int .i64 pa, .int .i64 pd, .int .i64 pi, .float .f64 pp] 25 ∧ Below wB.heap.size wB W8 := ⟨_, rfl, blk_new _ _ _ _ rfl, by go_grown⟩
      have zA := bA.size
      have zB := bB.size
      have B78 : Below W7.heap.size W7 W8 := (bA.trans (bB.mono zA)).trans (B8.mono (Nat.le_trans zA zB))
      have B58 := HB7.out.trans (B78.mono HB7.out.size)
      have XG8 := HXG5.out.below B58
      have X78 := X7.below B78
      have o0 : W8.cell? ⟨wB.heap.size, 0, none⟩ = some (.int .i64 3) := X8.cell rfl
      have o1 : W8.cell? ⟨wB.heap.size, 1, none⟩ = some (.int .i64 pg) := X8.cell rfl
      have o2 : W8.cell? ⟨wB.heap.size, 2, none⟩ = some (.int .i64 pa) := X8.cell rfl
      have g0 : W8.cell? ⟨w2.heap.size, 0, none⟩ = some (.int .i64 t2) := XG8.cell rfl
      have g1 : W8.cell? ⟨w2.heap.size, 1, none⟩ = some (.int .i64 t3) := XG8.cell rfl
      have g2 : W8.cell? ⟨w2.heap.size, 2, none⟩ = some (.int .i64 t4) := XG8.cell rfl
      have g3 : W8.cell? ⟨w2.heap.size, 3, none⟩ = some (.int .i64 t5) := XG8.cell rfl
      have k0 : W8.cell? ⟨w6.heap.size, 0, none⟩ = some (.int .i64 t2) := X78.cell rfl
      have k1 : W8.cell? ⟨w6.heap.size, 1, none⟩ = some (.int .i64 t3) := X78.cell rfl
      have k2 : W8.cell? ⟨w6.heap.size, 2, none⟩ = some (.int .i64 t4) := X78.cell rfl
      have k3 : W8.cell? ⟨w6.heap.size, 3, none⟩ = some (.int .i64 t5) := X78.cell rfl
      have HBe : Hid (Below w.heap.size w W8) := HB5.out.trans (B58.mono HB5.out.size)
      clear XG8 X78 X8 B58 B78 B8 bA bB
      go_wp2_with fail
      refine (HA.out _).mono ?_
      rintro e w9 ⟨rfl, b9⟩
      go_wp2
      go_ret
      exact ⟨rfl, HBe.out.trans (b9.mono HBe.out.size)⟩
    · subst hk
      subst hg
      replace T0 : Led.tot DH.l 0 = t0 := by rw [T0]; unfold outK outN; simp; try omega
      replace T2 : Led.tot DH.l 2 = t2 + pa := by rw [T2]; unfold outK outN; simp; try omega
      replace T3 : Led.tot DH.l 3 = t3 := by rw [T3]; unfold outK outN; simp; try omega
      replace T4 : Led.tot DH.l 4 = t4 := by rw [T4]; unfold outK outN; simp; try omega
      replace T5 : Led.tot DH.l 5 = t5 := by rw [T5]; unfold outK outN; simp; try omega
      rw [T0] at r0 s0
      rw [T2] at r2 s2
      rw [T3] at r3 s3
      have HT6 : Hid _ := HTT.out w5 HM5.out
      unfold Led.totV Led.gC at HT6
      rw [T0, T2, T3, T4, T5] at HT6
      go_wp2_with fail
      refine Calls.mono HT6.out ?_
      rintro e w6 ⟨rfl, b6⟩
      obtain ⟨W7, hW7, X7, B7⟩ : ∃ W7, (w6.alloc (.cells #[.int .i64 (t2 + pa), .int .i64 t3, .int .i64 t4, .int .i64 t5] 30)) = W7 ∧ Blk W7 w6.heap.size #[.int .i64 (t2 + pa), .int .i64 t3, .int .i64 t4, .int .i64 t5] 30 ∧ Below w6.heap.size w6 W7 := ⟨_, rfl, blk_new _ _ _ _ rfl, by go_grown⟩
      have z6 := b6.size
      have HB7 : Hid (Below w5.heap.size w5 W7) := b6.trans (B7.mono z6)
      clear B7 b6 HT6 HTT T0 T2 T3 T4 T5
      have AB := HA5.out.below HB7.out
      have d0 : W7.cell? ⟨w.heap.size, 0, none⟩ = some (.int .i64 aw) := AB.cell rfl
      have d1 : W7.cell? ⟨w.heap.size, 1, none⟩ = some (.int .i64 as_) := AB.cell rfl
      have d2 : W7.cell? ⟨w.heap.size, 2, none⟩ = some (.int .i64 ok) := AB.cell rfl
      have d3 : W7.cell? ⟨w.heap.size, 3, none⟩ = some (.int .i64 og) := AB.cell rfl
      have d4 : W7.cell? ⟨w.heap.size, 4, none⟩ = some (.int .i64 oa) := AB.cell rfl
      have d5 : W7.cell? ⟨w.heap.size, 5, none⟩ = some (.int .i64 od) := AB.cell rfl
      have d6 : W7.cell? ⟨w.heap.size, 6, none⟩ = some (.int .i64 oi) := AB.cell rfl
      have d7 : W7.cell? ⟨w.heap.size, 7, none⟩ = some (.float .f64 op) := AB.cell rfl
      have d8 : W7.cell? ⟨w.heap.size, 8, none⟩ = some (.bool ar) := AB.cell rfl
      have d9 : W7.cell? ⟨w.heap.size, 9, none⟩ = some (.string at_) := AB.cell rfl
      clear AB
      go_wp2_with fail
      refine (HTx.out _).mono ?_
      rintro e wA ⟨rfl, bA⟩
      have HO : Hid _ := HOf.out wA
      rw [HOA.out] at HO
      unfold Oo.val at HO
      simp only at HO
      go_wp2_with fail
      refine Calls.mono HO.out ?_
      rintro e wB ⟨rfl, bB⟩
      obtain ⟨W8, hW8, X8, B8⟩ : ∃ W8, (wB.alloc (.cells #[.int .i64 4, .int .i64 0, .int .i64 pa, .int .i64 pd, .int .i64 pi, .float .f64 pp] 25)) = W8 ∧ Blk W8 wB.heap.size #[.int .i64 4, .int .i64 0, .int .i64 pa, .int .i64 pd, .int .i64 pi, .float .f64 pp] 25 ∧ Below wB.heap.size wB W8 := ⟨_, rfl, blk_new _ _ _ _ rfl, by go_grown⟩
      have zA := bA.size
      have zB := bB.size
      have B78 : Below W7.heap.size W7 W8 := (bA.trans (bB.mono zA)).trans (B8.mono (Nat.le_trans zA zB))
      have B58 := HB7.out.trans (B78.mono HB7.out.size)
      have XG8 := HXG5.out.below B58
      have X78 := X7.below B78
      have o0 : W8.cell? ⟨wB.heap.size, 0, none⟩ = some (.int .i64 4) := X8.cell rfl
      have o1 : W8.cell? ⟨wB.heap.size, 1, none⟩ = some (.int .i64 0) := X8.cell rfl
      have o2 : W8.cell? ⟨wB.heap.size, 2, none⟩ = some (.int .i64 pa) := X8.cell rfl
      have l1 := XG8.lt
      have l2 := X78.lt
      have ne1 : w6.heap.size ≠ w2.heap.size := by have := HXG5.out.lt; have := HZ56.out; omega
      obtain ⟨W9, hW9, X9, Y9, B9⟩ : ∃ W9, W8.setCell ⟨w2.heap.size, 0, none⟩ (.int .i64 (t2 + pa)) = W9 ∧ Blk W9 w2.heap.size #[.int .i64 (t2 + pa), .int .i64 (t3), .int .i64 (t4), .int .i64 (t5)] 30 ∧ Blk W9 w6.heap.size #[.int .i64 (t2 + pa), .int .i64 (t3), .int .i64 (t4), .int .i64 (t5)] 30 ∧ Below w.heap.size w W9 :=
        ⟨_, rfl, XG8.set 0 _, X78.setOther (p := ⟨w2.heap.size, 0, none⟩) ne1 _, (HB5.out.trans (B58.mono HB5.out.size)).setCell (p := ⟨w2.heap.size, 0, none⟩) (by show w.heap.size ≤ w2.heap.size; have := HZ0.out; omega) _⟩
      have P9 : Blk W9 wB.heap.size #[.int .i64 4, .int .i64 0, .int .i64 pa, .int .i64 pd, .int .i64 pi, .float .f64 pp] 25 := by rw [← hW9]; exact X8.setOther (p := ⟨w2.heap.size, 0, none⟩) (by show wB.heap.size ≠ w2.heap.size; have := HXG5.out.lt; have := HZ56.out; have := HB7.out.size; omega) _
      have fx2 : W8.drew.frozen? ⟨w2.heap.size, 0, none⟩ = false := XG8.frozen
      have hx2 : W8.drew.cell? ⟨w2.heap.size, 0, none⟩ = some (.int .i64 t2) := XG8.cell rfl
      have HX9 : Hid _ := X9
      have HY9 : Hid _ := Y9
      have HB9 : Hid _ := B9
      have HP9 : Hid _ := P9
      clear X9 Y9 B9 P9 XG8 X78 X8 B58 B78 B8 bA bB ne1 l1 l2
      go_upto_region 19 with fail
      refine wp_region_held_drew (S := (fun wx => wx.cell? ⟨wB.heap.size, 1, none⟩ = some (.int .i64 0))) (by kernel_rfl) o1 (fun hS => ?_)
      refine tkG (i := 0) (v := .pointer (some ⟨wB.heap.size, 1, none⟩)) rfl hS ?_
      refine tkG (i := 1) (v := .int .i64 0) rfl hS ?_
      refine tkH (i := 2) (v := .int .i64 0) rfl (fun w3 hS => by go_simp; first | done | rfl | decide | kernel_rfl) hS ?_
      refine tkG (i := 3) (v := .pointer (some ⟨wB.heap.size, 1, none⟩)) rfl hS ?_
      refine tkG (i := 4) (v := .int .i64 0) rfl hS ?_
      refine tkH (i := 5) (v := .int .i64 0) rfl (fun w3 hS => by go_simp; first | done | rfl | decide | kernel_rfl) hS ?_
      refine tkG (i := 6) (v := .pointer (some ⟨w2.heap.size, 0, none⟩)) rfl hS ?_
      refine tkG (i := 8) (v := .int .i64 pa) rfl hS ?_
      refine wpAnyH_ready (rs := [7]) (by kernel_rfl) (by simp) ?_
      refine AllReadyH.cons rfl (fun K hK => ?_) AllReadyH.nil
      go_simp
      refine hK.out _ _ hS (fun hS => ?_)
      clear hK
      refine tkH (i := 9) (v := .int .i64 (t2 + pa)) rfl (fun w3 hS => by go_simp; rw [IntKind.wrap_i64]; omega) hS ?_
      refine tkG (i := 10) (v := .pointer (some ⟨w2.heap.size, 0, none⟩)) rfl hS ?_
      refine wpAnyH_ready (rs := [11]) (by kernel_rfl) (by simp) ?_
      refine AllReadyH.cons rfl (fun K hK => ?_) AllReadyH.nil
      go_simp
      refine hK.out _ _ (Blk.cell HP9.out rfl) (fun hS => ?_)
      clear hK
      refine wpAnyH_done (by kernel_rfl) ?_ _
      have g0 : W9.drew.cell? ⟨w2.heap.size, 0, none⟩ = some (.int .i64 (t2 + pa)) := Blk.cell HX9.out rfl
      have g1 : W9.drew.cell? ⟨w2.heap.size, 1, none⟩ = some (.int .i64 (t3)) := Blk.cell HX9.out rfl
      have g2 : W9.drew.cell? ⟨w2.heap.size, 2, none⟩ = some (.int .i64 (t4)) := Blk.cell HX9.out rfl
      have g3 : W9.drew.cell? ⟨w2.heap.size, 3, none⟩ = some (.int .i64 (t5)) := Blk.cell HX9.out rfl
      have k0 : W9.drew.cell? ⟨w6.heap.size, 0, none⟩ = some (.int .i64 (t2 + pa)) := Blk.cell HY9.out rfl
      have k1 : W9.drew.cell? ⟨w6.heap.size, 1, none⟩ = some (.int .i64 (t3)) := Blk.cell HY9.out rfl
      have k2 : W9.drew.cell? ⟨w6.heap.size, 2, none⟩ = some (.int .i64 (t4)) := Blk.cell HY9.out rfl
      have k3 : W9.drew.cell? ⟨w6.heap.size, 3, none⟩ = some (.int .i64 (t5)) := Blk.cell HY9.out rfl
      have HBe : Hid (Below w.heap.size w W9.drew) := HB9.out.drew
      go_wp2_with fail
      refine (HA.out _).mono ?_
      rintro e w9 ⟨rfl, b9⟩
      go_wp2
      go_ret
      exact ⟨rfl, HBe.out.trans (b9.mono HBe.out.size)⟩
    · subst hk
      subst hg
      replace T0 : Led.tot DH.l 0 = t0 := by rw [T0]; unfold outK outN; simp; try omega
      replace T2 : Led.tot DH.l 2 = t2 := by rw [T2]; unfold outK outN; simp; try omega
      replace T3 : Led.tot DH.l 3 = t3 + pa := by rw [T3]; unfold outK outN; simp; try omega
      replace T4 : Led.tot DH.l 4 = t4 := by rw [T4]; unfold outK outN; simp; try omega
      replace T5 : Led.tot DH.l 5 = t5 := by rw [T5]; unfold outK outN; simp; try omega
      rw [T0] at r0 s0
      rw [T2] at r2 s2
      rw [T3] at r3 s3
      have HT6 : Hid _ := HTT.out w5 HM5.out
      unfold Led.totV Led.gC at HT6
      rw [T0, T2, T3, T4, T5] at HT6
      go_wp2_with fail
      refine Calls.mono HT6.out ?_
      rintro e w6 ⟨rfl, b6⟩
      obtain ⟨W7, hW7, X7, B7⟩ : ∃ W7, (w6.alloc (.cells #[.int .i64 t2, .int .i64 (t3 + pa), .int .i64 t4, .int .i64 t5] 30)) = W7 ∧ Blk W7 w6.heap.size #[.int .i64 t2, .int .i64 (t3 + pa), .int .i64 t4, .int .i64 t5] 30 ∧ Below w6.heap.size w6 W7 := ⟨_, rfl, blk_new _ _ _ _ rfl, by go_grown⟩
      have z6 := b6.size
      have HB7 : Hid (Below w5.heap.size w5 W7) := b6.trans (B7.mono z6)
      clear B7 b6 HT6 HTT T0 T2 T3 T4 T5
      have AB := HA5.out.below HB7.out
      have d0 : W7.cell? ⟨w.heap.size, 0, none⟩ = some (.int .i64 aw) := AB.cell rfl
      have d1 : W7.cell? ⟨w.heap.size, 1, none⟩ = some (.int .i64 as_) := AB.cell rfl
      have d2 : W7.cell? ⟨w.heap.size, 2, none⟩ = some (.int .i64 ok) := AB.cell rfl
      have d3 : W7.cell? ⟨w.heap.size, 3, none⟩ = some (.int .i64 og) := AB.cell rfl
      have d4 : W7.cell? ⟨w.heap.size, 4, none⟩ = some (.int .i64 oa) := AB.cell rfl
      have d5 : W7.cell? ⟨w.heap.size, 5, none⟩ = some (.int .i64 od) := AB.cell rfl
      have d6 : W7.cell? ⟨w.heap.size, 6, none⟩ = some (.int .i64 oi) := AB.cell rfl
      have d7 : W7.cell? ⟨w.heap.size, 7, none⟩ = some (.float .f64 op) := AB.cell rfl
      have d8 : W7.cell? ⟨w.heap.size, 8, none⟩ = some (.bool ar) := AB.cell rfl
      have d9 : W7.cell? ⟨w.heap.size, 9, none⟩ = some (.string at_) := AB.cell rfl
      clear AB
      go_wp2_with fail
      refine (HTx.out _).mono ?_
      rintro e wA ⟨rfl, bA⟩
      have HO : Hid _ := HOf.out wA
      rw [HOA.out] at HO
      unfold Oo.val at HO
      simp only at HO
      go_wp2_with fail
      refine Calls.mono HO.out ?_
      rintro e wB ⟨rfl, bB⟩
      obtain ⟨W8, hW8, X8, B8⟩ : ∃ W8, (wB.alloc (.cells #[.int .i64 4, .int .i64 1, .int .i64 pa, .int .i64 pd, .int .i64 pi, .float .f64 pp] 25)) = W8 ∧ Blk W8 wB.heap.size #[.int .i64 4, .int .i64 1, .int .i64 pa, .int .i64 pd, .int .i64 pi, .float .f64 pp] 25 ∧ Below wB.heap.size wB W8 := ⟨_, rfl, blk_new _ _ _ _ rfl, by go_grown⟩
      have zA := bA.size
      have zB := bB.size
      have B78 : Below W7.heap.size W7 W8 := (bA.trans (bB.mono zA)).trans (B8.mono (Nat.le_trans zA zB))
      have B58 := HB7.out.trans (B78.mono HB7.out.size)
      have XG8 := HXG5.out.below B58
      have X78 := X7.below B78
      have o0 : W8.cell? ⟨wB.heap.size, 0, none⟩ = some (.int .i64 4) := X8.cell rfl
      have o1 : W8.cell? ⟨wB.heap.size, 1, none⟩ = some (.int .i64 1) := X8.cell rfl
      have o2 : W8.cell? ⟨wB.heap.size, 2, none⟩ = some (.int .i64 pa) := X8.cell rfl
      have l1 := XG8.lt
      have l2 := X78.lt
      have ne1 : w6.heap.size ≠ w2.heap.size := by have := HXG5.out.lt; have := HZ56.out; omega
      obtain ⟨W9, hW9, X9, Y9, B9⟩ : ∃ W9, W8.setCell ⟨w2.heap.size, 1, none⟩ (.int .i64 (t3 + pa)) = W9 ∧ Blk W9 w2.heap.size #[.int .i64 (t2), .int .i64 (t3 + pa), .int .i64 (t4), .int .i64 (t5)] 30 ∧ Blk W9 w6.heap.size #[.int .i64 (t2), .int .i64 (t3 + pa), .int .i64 (t4), .int .i64 (t5)] 30 ∧ Below w.heap.size w W9 :=
        ⟨_, rfl, XG8.set 1 _, X78.setOther (p := ⟨w2.heap.size, 1, none⟩) ne1 _, (HB5.out.trans (B58.mono HB5.out.size)).setCell (p := ⟨w2.heap.size, 1, none⟩) (by show w.heap.size ≤ w2.heap.size; have := HZ0.out; omega) _⟩
      have P9 : Blk W9 wB.heap.size #[.int .i64 4, .int .i64 1, .int .i64 pa, .int .i64 pd, .int .i64 pi, .float .f64 pp] 25 := by rw [← hW9]; exact X8.setOther (p := ⟨w2.heap.size, 1, none⟩) (by show wB.heap.size ≠ w2.heap.size; have := HXG5.out.lt; have := HZ56.out; have := HB7.out.size; omega) _
      have fx2 : W8.drew.frozen? ⟨w2.heap.size, 1, none⟩ = false := XG8.frozen
      have hx2 : W8.drew.cell? ⟨w2.heap.size, 1, none⟩ = some (.int .i64 t3) := XG8.cell rfl
      have HX9 : Hid _ := X9
      have HY9 : Hid _ := Y9
      have HB9 : Hid _ := B9
      have HP9 : Hid _ := P9
      clear X9 Y9 B9 P9 XG8 X78 X8 B58 B78 B8 bA bB ne1 l1 l2
      go_upto_region 19 with fail
      refine wp_region_held_drew (S := (fun wx => wx.cell? ⟨wB.heap.size, 1, none⟩ = some (.int .i64 1))) (by kernel_rfl) o1 (fun hS => ?_)
      refine tkG (i := 0) (v := .pointer (some ⟨wB.heap.size, 1, none⟩)) rfl hS ?_
      refine tkG (i := 1) (v := .int .i64 1) rfl hS ?_
      refine tkH (i := 2) (v := .int .i64 1) rfl (fun w3 hS => by go_simp; first | done | rfl | decide | kernel_rfl) hS ?_
      refine tkG (i := 3) (v := .pointer (some ⟨wB.heap.size, 1, none⟩)) rfl hS ?_
      refine tkG (i := 4) (v := .int .i64 1) rfl hS ?_
      refine tkH (i := 5) (v := .int .i64 1) rfl (fun w3 hS => by go_simp; first | done | rfl | decide | kernel_rfl) hS ?_
      refine tkG (i := 6) (v := .pointer (some ⟨w2.heap.size, 1, none⟩)) rfl hS ?_
      refine tkG (i := 8) (v := .int .i64 pa) rfl hS ?_
      refine wpAnyH_ready (rs := [7]) (by kernel_rfl) (by simp) ?_
      refine AllReadyH.cons rfl (fun K hK => ?_) AllReadyH.nil
      go_simp
      refine hK.out _ _ hS (fun hS => ?_)
      clear hK
      refine tkH (i := 9) (v := .int .i64 (t3 + pa)) rfl (fun w3 hS => by go_simp; rw [IntKind.wrap_i64]; omega) hS ?_
      refine tkG (i := 10) (v := .pointer (some ⟨w2.heap.size, 1, none⟩)) rfl hS ?_
      refine wpAnyH_ready (rs := [11]) (by kernel_rfl) (by simp) ?_
      refine AllReadyH.cons rfl (fun K hK => ?_) AllReadyH.nil
      go_simp
      refine hK.out _ _ (Blk.cell HP9.out rfl) (fun hS => ?_)
      clear hK
      refine wpAnyH_done (by kernel_rfl) ?_ _
      have g0 : W9.drew.cell? ⟨w2.heap.size, 0, none⟩ = some (.int .i64 (t2)) := Blk.cell HX9.out rfl
      have g1 : W9.drew.cell? ⟨w2.heap.size, 1, none⟩ = some (.int .i64 (t3 + pa)) := Blk.cell HX9.out rfl
      have g2 : W9.drew.cell? ⟨w2.heap.size, 2, none⟩ = some (.int .i64 (t4)) := Blk.cell HX9.out rfl
      have g3 : W9.drew.cell? ⟨w2.heap.size, 3, none⟩ = some (.int .i64 (t5)) := Blk.cell HX9.out rfl
      have k0 : W9.drew.cell? ⟨w6.heap.size, 0, none⟩ = some (.int .i64 (t2)) := Blk.cell HY9.out rfl
      have k1 : W9.drew.cell? ⟨w6.heap.size, 1, none⟩ = some (.int .i64 (t3 + pa)) := Blk.cell HY9.out rfl
      have k2 : W9.drew.cell? ⟨w6.heap.size, 2, none⟩ = some (.int .i64 (t4)) := Blk.cell HY9.out rfl
      have k3 : W9.drew.cell? ⟨w6.heap.size, 3, none⟩ = some (.int .i64 (t5)) := Blk.cell HY9.out rfl
      have HBe : Hid (Below w.heap.size w W9.drew) := HB9.out.drew
      go_wp2_with fail
      refine (HA.out _).mono ?_
      rintro e w9 ⟨rfl, b9⟩
      go_wp2
      go_ret
      exact ⟨rfl, HBe.out.trans (b9.mono HBe.out.size)⟩
    · subst hk
      subst hg
      replace T0 : Led.tot DH.l 0 = t0 := by rw [T0]; unfold outK outN; simp; try omega
      replace T2 : Led.tot DH.l 2 = t2 - pa := by rw [T2]; unfold outK outN; simp; try omega
      replace T3 : Led.tot DH.l 3 = t3 := by rw [T3]; unfold outK outN; simp; try omega
      replace T4 : Led.tot DH.l 4 = t4 := by rw [T4]; unfold outK outN; simp; try omega
      replace T5 : Led.tot DH.l 5 = t5 := by rw [T5]; unfold outK outN; simp; try omega
      rw [T0] at r0 s0
      rw [T2] at r2 s2
      rw [T3] at r3 s3
      have HT6 : Hid _ := HTT.out w5 HM5.out
      unfold Led.totV Led.gC at HT6
      rw [T0, T2, T3, T4, T5] at HT6
      go_wp2_with fail
      refine Calls.mono HT6.out ?_
      rintro e w6 ⟨rfl, b6⟩
      obtain ⟨W7, hW7, X7, B7⟩ : ∃ W7, (w6.alloc (.cells #[.int .i64 (t2 - pa), .int .i64 t3, .int .i64 t4, .int .i64 t5] 30)) = W7 ∧ Blk W7 w6.heap.size #[.int .i64 (t2 - pa), .int .i64 t3, .int .i64 t4, .int .i64 t5] 30 ∧ Below w6.heap.size w6 W7 := ⟨_, rfl, blk_new _ _ _ _ rfl, by go_grown⟩
      have z6 := b6.size
      have HB7 : Hid (Below w5.heap.size w5 W7) := b6.trans (B7.mono z6)
      clear B7 b6 HT6 HTT T0 T2 T3 T4 T5
      have AB := HA5.out.below HB7.out
      have d0 : W7.cell? ⟨w.heap.size, 0, none⟩ = some (.int .i64 aw) := AB.cell rfl
      have d1 : W7.cell? ⟨w.heap.size, 1, none⟩ = some (.int .i64 as_) := AB.cell rfl
      have d2 : W7.cell? ⟨w.heap.size, 2, none⟩ = some (.int .i64 ok) := AB.cell rfl
      have d3 : W7.cell? ⟨w.heap.size, 3, none⟩ = some (.int .i64 og) := AB.cell rfl
      have d4 : W7.cell? ⟨w.heap.size, 4, none⟩ = some (.int .i64 oa) := AB.cell rfl
      have d5 : W7.cell? ⟨w.heap.size, 5, none⟩ = some (.int .i64 od) := AB.cell rfl
      have d6 : W7.cell? ⟨w.heap.size, 6, none⟩ = some (.int .i64 oi) := AB.cell rfl
      have d7 : W7.cell? ⟨w.heap.size, 7, none⟩ = some (.float .f64 op) := AB.cell rfl
      have d8 : W7.cell? ⟨w.heap.size, 8, none⟩ = some (.bool ar) := AB.cell rfl
      have d9 : W7.cell? ⟨w.heap.size, 9, none⟩ = some (.string at_) := AB.cell rfl
      clear AB
      go_wp2_with fail
      refine (HTx.out _).mono ?_
      rintro e wA ⟨rfl, bA⟩
      have HO : Hid _ := HOf.out wA
      rw [HOA.out] at HO
      unfold Oo.val at HO
      simp only at HO
      go_wp2_with fail
      refine Calls.mono HO.out ?_
      rintro e wB ⟨rfl, bB⟩
      obtain ⟨W8, hW8, X8, B8⟩ : ∃ W8, (wB.alloc (.cells #[.int .i64 5, .int .i64 0, .int .i64 pa, .int .i64 pd, .int .i64 pi, .float .f64 pp] 25)) = W8 ∧ Blk W8 wB.heap.size #[.int .i64 5, .int .i64 0, .int .i64 pa, .int .i64 pd, .int .i64 pi, .float .f64 pp] 25 ∧ Below wB.heap.size wB W8 := ⟨_, rfl, blk_new _ _ _ _ rfl, by go_grown⟩
      have zA := bA.size
      have zB := bB.size
      have B78 : Below W7.heap.size W7 W8 := (bA.trans (bB.mono zA)).trans (B8.mono (Nat.le_trans zA zB))
      have B58 := HB7.out.trans (B78.mono HB7.out.size)
      have XG8 := HXG5.out.below B58
      have X78 := X7.below B78
      have o0 : W8.cell? ⟨wB.heap.size, 0, none⟩ = some (.int .i64 5) := X8.cell rfl
      have o1 : W8.cell? ⟨wB.heap.size, 1, none⟩ = some (.int .i64 0) := X8.cell rfl
      have o2 : W8.cell? ⟨wB.heap.size, 2, none⟩ = some (.int .i64 pa) := X8.cell rfl
      have l1 := XG8.lt
      have l2 := X78.lt
      have ne1 : w6.heap.size ≠ w2.heap.size := by have := HXG5.out.lt; have := HZ56.out; omega
      obtain ⟨W9, hW9, X9, Y9, B9⟩ : ∃ W9, W8.setCell ⟨w2.heap.size, 0, none⟩ (.int .i64 (t2 - pa)) = W9 ∧ Blk W9 w2.heap.size #[.int .i64 (t2 - pa), .int .i64 (t3), .int .i64 (t4), .int .i64 (t5)] 30 ∧ Blk W9 w6.heap.size #[.int .i64 (t2 - pa), .int .i64 (t3), .int .i64 (t4), .int .i64 (t5)] 30 ∧ Below w.heap.size w W9 :=
        ⟨_, rfl, XG8.set 0 _, X78.setOther (p := ⟨w2.heap.size, 0, none⟩) ne1 _, (HB5.out.trans (B58.mono HB5.out.size)).setCell (p := ⟨w2.heap.size, 0, none⟩) (by show w.heap.size ≤ w2.heap.size; have := HZ0.out; omega) _⟩
      have P9 : Blk W9 wB.heap.size #[.int .i64 5, .int .i64 0, .int .i64 pa, .int .i64 pd, .int .i64 pi, .float .f64 pp] 25 := by rw [← hW9]; exact X8.setOther (p := ⟨w2.heap.size, 0, none⟩) (by show wB.heap.size ≠ w2.heap.size; have := HXG5.out.lt; have := HZ56.out; have := HB7.out.size; omega) _
      have fx2 : W8.drew.frozen? ⟨w2.heap.size, 0, none⟩ = false := XG8.frozen
      have hx2 : W8.drew.cell? ⟨w2.heap.size, 0, none⟩ = some (.int .i64 t2) := XG8.cell rfl
      have HX9 : Hid _ := X9
      have HY9 : Hid _ := Y9
      have HB9 : Hid _ := B9
      have HP9 : Hid _ := P9
      clear X9 Y9 B9 P9 XG8 X78 X8 B58 B78 B8 bA bB ne1 l1 l2
      go_upto_region 21 with fail
      refine wp_region_held_drew (S := (fun wx => wx.cell? ⟨wB.heap.size, 1, none⟩ = some (.int .i64 0))) (by kernel_rfl) o1 (fun hS => ?_)
      refine tkG (i := 0) (v := .pointer (some ⟨wB.heap.size, 1, none⟩)) rfl hS ?_
      refine tkG (i := 1) (v := .int .i64 0) rfl hS ?_
      refine tkH (i := 2) (v := .int .i64 0) rfl (fun w3 hS => by go_simp; first | done | rfl | decide | kernel_rfl) hS ?_
      refine tkG (i := 3) (v := .pointer (some ⟨wB.heap.size, 1, none⟩)) rfl hS ?_
      refine tkG (i := 4) (v := .int .i64 0) rfl hS ?_
      refine tkH (i := 5) (v := .int .i64 0) rfl (fun w3 hS => by go_simp; first | done | rfl | decide | kernel_rfl) hS ?_
      refine tkG (i := 6) (v := .pointer (some ⟨w2.heap.size, 0, none⟩)) rfl hS ?_
      refine tkG (i := 8) (v := .int .i64 pa) rfl hS ?_
      refine wpAnyH_ready (rs := [7]) (by kernel_rfl) (by simp) ?_
      refine AllReadyH.cons rfl (fun K hK => ?_) AllReadyH.nil
      go_simp
      refine hK.out _ _ hS (fun hS => ?_)
      clear hK
      refine tkH (i := 9) (v := .int .i64 (t2 - pa)) rfl (fun w3 hS => by go_simp; rw [IntKind.wrap_i64]; omega) hS ?_
      refine tkG (i := 10) (v := .pointer (some ⟨w2.heap.size, 0, none⟩)) rfl hS ?_
      refine wpAnyH_ready (rs := [11]) (by kernel_rfl) (by simp) ?_
      refine AllReadyH.cons rfl (fun K hK => ?_) AllReadyH.nil
      go_simp
      refine hK.out _ _ (Blk.cell HP9.out rfl) (fun hS => ?_)
      clear hK
      refine wpAnyH_done (by kernel_rfl) ?_ _
      have g0 : W9.drew.cell? ⟨w2.heap.size, 0, none⟩ = some (.int .i64 (t2 - pa)) := Blk.cell HX9.out rfl
      have g1 : W9.drew.cell? ⟨w2.heap.size, 1, none⟩ = some (.int .i64 (t3)) := Blk.cell HX9.out rfl
      have g2 : W9.drew.cell? ⟨w2.heap.size, 2, none⟩ = some (.int .i64 (t4)) := Blk.cell HX9.out rfl
      have g3 : W9.drew.cell? ⟨w2.heap.size, 3, none⟩ = some (.int .i64 (t5)) := Blk.cell HX9.out rfl
      have k0 : W9.drew.cell? ⟨w6.heap.size, 0, none⟩ = some (.int .i64 (t2 - pa)) := Blk.cell HY9.out rfl
      have k1 : W9.drew.cell? ⟨w6.heap.size, 1, none⟩ = some (.int .i64 (t3)) := Blk.cell HY9.out rfl
      have k2 : W9.drew.cell? ⟨w6.heap.size, 2, none⟩ = some (.int .i64 (t4)) := Blk.cell HY9.out rfl
      have k3 : W9.drew.cell? ⟨w6.heap.size, 3, none⟩ = some (.int .i64 (t5)) := Blk.cell HY9.out rfl
      have HBe : Hid (Below w.heap.size w W9.drew) := HB9.out.drew
      go_wp2_with fail
      refine (HA.out _).mono ?_
      rintro e w9 ⟨rfl, b9⟩
      go_wp2
      go_ret
      exact ⟨rfl, HBe.out.trans (b9.mono HBe.out.size)⟩
    · subst hk
      subst hg
      replace T0 : Led.tot DH.l 0 = t0 := by rw [T0]; unfold outK outN; simp; try omega
      replace T2 : Led.tot DH.l 2 = t2 := by rw [T2]; unfold outK outN; simp; try omega
      replace T3 : Led.tot DH.l 3 = t3 - pa := by rw [T3]; unfold outK outN; simp; try omega
      replace T4 : Led.tot DH.l 4 = t4 := by rw [T4]; unfold outK outN; simp; try omega
      replace T5 : Led.tot DH.l 5 = t5 := by rw [T5]; unfold outK outN; simp; try omega
      rw [T0] at r0 s0
      rw [T2] at r2 s2
      rw [T3] at r3 s3
      have HT6 : Hid _ := HTT.out w5 HM5.out
      unfold Led.totV Led.gC at HT6
      rw [T0, T2, T3, T4, T5] at HT6
      go_wp2_with fail
      refine Calls.mono HT6.out ?_
      rintro e w6 ⟨rfl, b6⟩
      obtain ⟨W7, hW7, X7, B7⟩ : ∃ W7, (w6.alloc (.cells #[.int .i64 t2, .int .i64 (t3 - pa), .int .i64 t4, .int .i64 t5] 30)) = W7 ∧ Blk W7 w6.heap.size #[.int .i64 t2, .int .i64 (t3 - pa), .int .i64 t4, .int .i64 t5] 30 ∧ Below w6.heap.size w6 W7 := ⟨_, rfl, blk_new _ _ _ _ rfl, by go_grown⟩
      have z6 := b6.size
      have HB7 : Hid (Below w5.heap.size w5 W7) := b6.trans (B7.mono z6)
      clear B7 b6 HT6 HTT T0 T2 T3 T4 T5
      have AB := HA5.out.below HB7.out
      have d0 : W7.cell? ⟨w.heap.size, 0, none⟩ = some (.int .i64 aw) := AB.cell rfl
      have d1 : W7.cell? ⟨w.heap.size, 1, none⟩ = some (.int .i64 as_) := AB.cell rfl
      have d2 : W7.cell? ⟨w.heap.size, 2, none⟩ = some (.int .i64 ok) := AB.cell rfl
      have d3 : W7.cell? ⟨w.heap.size, 3, none⟩ = some (.int .i64 og) := AB.cell rfl
      have d4 : W7.cell? ⟨w.heap.size, 4, none⟩ = some (.int .i64 oa) := AB.cell rfl
      have d5 : W7.cell? ⟨w.heap.size, 5, none⟩ = some (.int .i64 od) := AB.cell rfl
      have d6 : W7.cell? ⟨w.heap.size, 6, none⟩ = some (.int .i64 oi) := AB.cell rfl
      have d7 : W7.cell? ⟨w.heap.size, 7, none⟩ = some (.float .f64 op) := AB.cell rfl
      have d8 : W7.cell? ⟨w.heap.size, 8, none⟩ = some (.bool ar) := AB.cell rfl
      have d9 : W7.cell? ⟨w.heap.size, 9, none⟩ = some (.string at_) := AB.cell rfl
      clear AB
      go_wp2_with fail
      refine (HTx.out _).mono ?_
      rintro e wA ⟨rfl, bA⟩
      have HO : Hid _ := HOf.out wA
      rw [HOA.out] at HO
      unfold Oo.val at HO
      simp only at HO
      go_wp2_with fail
      refine Calls.mono HO.out ?_
      rintro e wB ⟨rfl, bB⟩
      obtain ⟨W8, hW8, X8, B8⟩ : ∃ W8, (wB.alloc (.cells #[.int .i64 5, .int .i64 1, .int .i64 pa, .int .i64 pd, .int .i64 pi, .float .f64 pp] 25)) = W8 ∧ Blk W8 wB.heap.size #[.int .i64 5, .int .i64 1, .int .i64 pa, .int .i64 pd, .int .i64 pi, .float .f64 pp] 25 ∧ Below wB.heap.size wB W8 := ⟨_, rfl, blk_new _ _ _ _ rfl, by go_grown⟩
      have zA := bA.size
      have zB := bB.size
      have B78 : Below W7.heap.size W7 W8 := (bA.trans (bB.mono zA)).trans (B8.mono (Nat.le_trans zA zB))
      have B58 := HB7.out.trans (B78.mono HB7.out.size)
      have XG8 := HXG5.out.below B58
      have X78 := X7.below B78
      have o0 : W8.cell? ⟨wB.heap.size, 0, none⟩ = some (.int .i64 5) := X8.cell rfl
      have o1 : W8.cell? ⟨wB.heap.size, 1, none⟩ = some (.int .i64 1) := X8.cell rfl
      have o2 : W8.cell? ⟨wB.heap.size, 2, none⟩ = some (.int .i64 pa) := X8.cell rfl
      have l1 := XG8.lt
      have l2 := X78.lt
      have ne1 : w6.heap.size ≠ w2.heap.size := by have := HXG5.out.lt; have := HZ56.out; omega
      obtain ⟨W9, hW9, X9, Y9, B9⟩ : ∃ W9, W8.setCell ⟨w2.heap.size, 1, none⟩ (.int .i64 (t3 - pa)) = W9 ∧ Blk W9 w2.heap.size #[.int .i64 (t2), .int .i64 (t3 - pa), .int .i64 (t4), .int .i64 (t5)] 30 ∧ Blk W9 w6.heap.size #[.int .i64 (t2), .int .i64 (t3 - pa), .int .i64 (t4), .int .i64 (t5)] 30 ∧ Below w.heap.size w W9 :=
        ⟨_, rfl, XG8.set 1 _, X78.setOther (p := ⟨w2.heap.size, 1, none⟩) ne1 _, (HB5.out.trans (B58.mono HB5.out.size)).setCell (p := ⟨w2.heap.size, 1, none⟩) (by show w.heap.size ≤ w2.heap.size; have := HZ0.out; omega) _⟩
      have P9 : Blk W9 wB.heap.size #[.int .i64 5, .int .i64 1, .int .i64 pa, .int .i64 pd, .int .i64 pi, .float .f64 pp] 25 := by rw [← hW9]; exact X8.setOther (p := ⟨w2.heap.size, 1, none⟩) (by show wB.heap.size ≠ w2.heap.size; have := HXG5.out.lt; have := HZ56.out; have := HB7.out.size; omega) _
      have fx2 : W8.drew.frozen? ⟨w2.heap.size, 1, none⟩ = false := XG8.frozen
      have hx2 : W8.drew.cell? ⟨w2.heap.size, 1, none⟩ = some (.int .i64 t3) := XG8.cell rfl
      have HX9 : Hid _ := X9
      have HY9 : Hid _ := Y9
      have HB9 : Hid _ := B9
      have HP9 : Hid _ := P9
      clear X9 Y9 B9 P9 XG8 X78 X8 B58 B78 B8 bA bB ne1 l1 l2
      go_upto_region 21 with fail
      refine wp_region_held_drew (S := (fun wx => wx.cell? ⟨wB.heap.size, 1, none⟩ = some (.int .i64 1))) (by kernel_rfl) o1 (fun hS => ?_)
      refine tkG (i := 0) (v := .pointer (some ⟨wB.heap.size, 1, none⟩)) rfl hS ?_
      refine tkG (i := 1) (v := .int .i64 1) rfl hS ?_
      refine tkH (i := 2) (v := .int .i64 1) rfl (fun w3 hS => by go_simp; first | done | rfl | decide | kernel_rfl) hS ?_
      refine tkG (i := 3) (v := .pointer (some ⟨wB.heap.size, 1, none⟩)) rfl hS ?_
      refine tkG (i := 4) (v := .int .i64 1) rfl hS ?_
      refine tkH (i := 5) (v := .int .i64 1) rfl (fun w3 hS => by go_simp; first | done | rfl | decide | kernel_rfl) hS ?_
      refine tkG (i := 6) (v := .pointer (some ⟨w2.heap.size, 1, none⟩)) rfl hS ?_
      refine tkG (i := 8) (v := .int .i64 pa) rfl hS ?_
      refine wpAnyH_ready (rs := [7]) (by kernel_rfl) (by simp) ?_
      refine AllReadyH.cons rfl (fun K hK => ?_) AllReadyH.nil
      go_simp
      refine hK.out _ _ hS (fun hS => ?_)
      clear hK
      refine tkH (i := 9) (v := .int .i64 (t3 - pa)) rfl (fun w3 hS => by go_simp; rw [IntKind.wrap_i64]; omega) hS ?_
      refine tkG (i := 10) (v := .pointer (some ⟨w2.heap.size, 1, none⟩)) rfl hS ?_
      refine wpAnyH_ready (rs := [11]) (by kernel_rfl) (by simp) ?_
      refine AllReadyH.cons rfl (fun K hK => ?_) AllReadyH.nil
      go_simp
      refine hK.out _ _ (Blk.cell HP9.out rfl) (fun hS => ?_)
      clear hK
      refine wpAnyH_done (by kernel_rfl) ?_ _
      have g0 : W9.drew.cell? ⟨w2.heap.size, 0, none⟩ = some (.int .i64 (t2)) := Blk.cell HX9.out rfl
      have g1 : W9.drew.cell? ⟨w2.heap.size, 1, none⟩ = some (.int .i64 (t3 - pa)) := Blk.cell HX9.out rfl
      have g2 : W9.drew.cell? ⟨w2.heap.size, 2, none⟩ = some (.int .i64 (t4)) := Blk.cell HX9.out rfl
      have g3 : W9.drew.cell? ⟨w2.heap.size, 3, none⟩ = some (.int .i64 (t5)) := Blk.cell HX9.out rfl
      have k0 : W9.drew.cell? ⟨w6.heap.size, 0, none⟩ = some (.int .i64 (t2)) := Blk.cell HY9.out rfl
      have k1 : W9.drew.cell? ⟨w6.heap.size, 1, none⟩ = some (.int .i64 (t3 - pa)) := Blk.cell HY9.out rfl
      have k2 : W9.drew.cell? ⟨w6.heap.size, 2, none⟩ = some (.int .i64 (t4)) := Blk.cell HY9.out rfl
      have k3 : W9.drew.cell? ⟨w6.heap.size, 3, none⟩ = some (.int .i64 (t5)) := Blk.cell HY9.out rfl
      have HBe : Hid (Below w.heap.size w W9.drew) := HB9.out.drew
      go_wp2_with fail
      refine (HA.out _).mono ?_
      rintro e w9 ⟨rfl, b9⟩
      go_wp2
      go_ret
      exact ⟨rfl, HBe.out.trans (b9.mono HBe.out.size)⟩
    · clear hpg
      replace T0 : Led.tot DH.l 0 = t0 := by rw [T0]; unfold outK outN; simp [hk2, hk3, hk4, hk5]; try omega
      replace T2 : Led.tot DH.l 2 = t2 := by rw [T2]; unfold outK outN; simp [hk2, hk3, hk4, hk5]; try omega
      replace T3 : Led.tot DH.l 3 = t3 := by rw [T3]; unfold outK outN; simp [hk2, hk3, hk4, hk5]; try omega
      replace T4 : Led.tot DH.l 4 = t4 := by rw [T4]; unfold outK outN; simp [hk2, hk3, hk4, hk5]; try omega
      replace T5 : Led.tot DH.l 5 = t5 := by rw [T5]; unfold outK outN; simp [hk2, hk3, hk4, hk5]; try omega
      rw [T0] at r0 s0
      rw [T2] at r2 s2
      rw [T3] at r3 s3
      have HT6 : Hid _ := HTT.out w5 HM5.out
      unfold Led.totV Led.gC at HT6
      rw [T0, T2, T3, T4, T5] at HT6
      go_wp2_with fail
      refine Calls.mono HT6.out ?_
      rintro e w6 ⟨rfl, b6⟩
      obtain ⟨W7, hW7, X7, B7⟩ : ∃ W7, (w6.alloc (.cells #[.int .i64 t2, .int .i64 t3, .int .i64 t4, .int .i64 t5] 30)) = W7 ∧ Blk W7 w6.heap.size #[.int .i64 t2, .int .i64 t3, .int .i64 t4, .int .i64 t5] 30 ∧ Below w6.heap.size w6 W7 := ⟨_, rfl, blk_new _ _ _ _ rfl, by go_grown⟩
      have z6 := b6.size
      have HB7 : Hid (Below w5.heap.size w5 W7) := b6.trans (B7.mono z6)
      clear B7 b6 HT6 HTT T0 T2 T3 T4 T5
      have AB := HA5.out.below HB7.out
      have d0 : W7.cell? ⟨w.heap.size, 0, none⟩ = some (.int .i64 aw) := AB.cell rfl
      have d1 : W7.cell? ⟨w.heap.size, 1, none⟩ = some (.int .i64 as_) := AB.cell rfl
      have d2 : W7.cell? ⟨w.heap.size, 2, none⟩ = some (.int .i64 ok) := AB.cell rfl
      have d3 : W7.cell? ⟨w.heap.size, 3, none⟩ = some (.int .i64 og) := AB.cell rfl
      have d4 : W7.cell? ⟨w.heap.size, 4, none⟩ = some (.int .i64 oa) := AB.cell rfl
      have d5 : W7.cell? ⟨w.heap.size, 5, none⟩ = some (.int .i64 od) := AB.cell rfl
      have d6 : W7.cell? ⟨w.heap.size, 6, none⟩ = some (.int .i64 oi) := AB.cell rfl
      have d7 : W7.cell? ⟨w.heap.size, 7, none⟩ = some (.float .f64 op) := AB.cell rfl
      have d8 : W7.cell? ⟨w.heap.size, 8, none⟩ = some (.bool ar) := AB.cell rfl
      have d9 : W7.cell? ⟨w.heap.size, 9, none⟩ = some (.string at_) := AB.cell rfl
      have f2 : (pk == 2) = false := by simpa using hk2
      have f3 : (pk == 3) = false := by simpa using hk3
      have f4 : (pk == 4) = false := by simpa using hk4
      have f5 : (pk == 5) = false := by simpa using hk5
      clear AB
      go_wp2_with fail
      refine (HTx.out _).mono ?_
      rintro e wA ⟨rfl, bA⟩
      have HO : Hid _ := HOf.out wA
      rw [HOA.out] at HO
      unfold Oo.val at HO
      simp only at HO
      go_wp2_with fail
      refine Calls.mono HO.out ?_
      rintro e wB ⟨rfl, bB⟩
      obtain ⟨W8, hW8, X8, B8⟩ : ∃ W8, (wB.alloc (.cells #[.int .i64 pk, .int .i64 pg, .int .i64 pa, .int .i64 pd, .int .i64 pi, .float .f64 pp] 25)) = W8 ∧ Blk W8 wB.heap.size #[.int .i64 pk, .int .i64 pg, .int .i64 pa, .int .i64 pd, .int .i64 pi, .float .f64 pp] 25 ∧ Below wB.heap.size wB W8 := ⟨_, rfl, blk_new _ _ _ _ rfl, by go_grown⟩
      have zA := bA.size
      have zB := bB.size
      have B78 : Below W7.heap.size W7 W8 := (bA.trans (bB.mono zA)).trans (B8.mono (Nat.le_trans zA zB))
      have B58 := HB7.out.trans (B78.mono HB7.out.size)
      have XG8 := HXG5.out.below B58
      have X78 := X7.below B78
      have o0 : W8.cell? ⟨wB.heap.size, 0, none⟩ = some (.int .i64 pk) := X8.cell rfl
      have o1 : W8.cell? ⟨wB.heap.size, 1, none⟩ = some (.int .i64 pg) := X8.cell rfl
      have o2 : W8.cell? ⟨wB.heap.size, 2, none⟩ = some (.int .i64 pa) := X8.cell rfl
      have g0 : W8.cell? ⟨w2.heap.size, 0, none⟩ = some (.int .i64 t2) := XG8.cell rfl
      have g1 : W8.cell? ⟨w2.heap.size, 1, none⟩ = some (.int .i64 t3) := XG8.cell rfl
      have g2 : W8.cell? ⟨w2.heap.size, 2, none⟩ = some (.int .i64 t4) := XG8.cell rfl
      have g3 : W8.cell? ⟨w2.heap.size, 3, none⟩ = some (.int .i64 t5) := XG8.cell rfl
      have k0 : W8.cell? ⟨w6.heap.size, 0, none⟩ = some (.int .i64 t2) := X78.cell rfl
      have k1 : W8.cell? ⟨w6.heap.size, 1, none⟩ = some (.int .i64 t3) := X78.cell rfl
      have k2 : W8.cell? ⟨w6.heap.size, 2, none⟩ = some (.int .i64 t4) := X78.cell rfl
      have k3 : W8.cell? ⟨w6.heap.size, 3, none⟩ = some (.int .i64 t5) := X78.cell rfl
      have HBe : Hid (Below w.heap.size w W8) := HB5.out.trans (B58.mono HB5.out.size)
      clear XG8 X78 X8 B58 B78 B8 bA bB
      go_wp2_with fail
      refine (HA.out _).mono ?_
      rintro e w9 ⟨rfl, b9⟩
      go_wp2
      go_ret
      exact ⟨rfl, HBe.out.trans (b9.mono HBe.out.size)⟩
end Go.Proofs.YtgofjheoebabeaaGreat
