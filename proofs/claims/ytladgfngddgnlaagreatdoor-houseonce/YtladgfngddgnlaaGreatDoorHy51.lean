/- HouseRefused for every script and request: it answers true. -/
import Derived.Test.YtladgfngddgnlaaGreatDoorHy49
import Derived.Test.YtladgfngddgnlaaGreatDoorHy48
import Derived.Test.YtladgfngddgnlaaGreatDoorHy41
import Derived.Test.YtladgfngddgnlaaGreatDoorHy42
namespace Go.Proofs.YtladgfngddgnlaaGreatDoor
open Go.RowKit
set_option linter.unusedSimpArgs false
set_option linter.unusedVariables false

end Go.Proofs.YtladgfngddgnlaaGreatDoor

namespace Go.Proofs.YtladgfngddgnlaaGreatDoor
open Go.RowKit
set_option linter.unusedSimpArgs false
set_option linter.unusedVariables false

set_option maxRecDepth 100000 in
set_option maxHeartbeats 16000000 in
theorem once_hs (v : Value) (ls : List Rq) (ra rb : Rq) (w : World) (hl : Rqs w v ls) (hz : ls.length * 88 ≤ 140737488351232) (hfa : ra.fit) (hfb : rb.fit) :
    Calls Tryz.prog 4 #[v, .agg ra.cells.toArray, .agg rb.cells.toArray] w fun e w' => e = .returned (.bool true) ∧ Below w.heap.size w w' := by
  obtain ⟨hpra, hsza⟩ := hfa
  obtain ⟨hprb, hszb⟩ := hfb
  obtain ⟨W0, hW0, A0, A1, B0, Z0⟩ : ∃ W0, ((w.alloc (.cells #[.int .i64 ra.who, .int .i64 ra.stamp, .int .i64 ra.op.k, .int .i64 ra.op.g, .int .i64 ra.op.a, .int .i64 ra.op.d, .int .i64 ra.op.i, .float .f64 ra.op.pr, .bool ra.raw, .string ra.txt] 27)).alloc (.cells #[.int .i64 rb.who, .int .i64 rb.stamp, .int .i64 rb.op.k, .int .i64 rb.op.g, .int .i64 rb.op.a, .int .i64 rb.op.d, .int .i64 rb.op.i, .float .f64 rb.op.pr, .bool rb.raw, .string rb.txt] 27)) = W0 ∧ Blk W0 w.heap.size ra.cells.toArray 27 ∧ Blk W0 (w.heap.size + 1) rb.cells.toArray 27 ∧ Below w.heap.size w W0 ∧ W0.heap.size = w.heap.size + 2 :=
    ⟨_, rfl, (blk_new _ _ _ _ rfl).alloc _, blk_new _ _ _ _ (by simp), by go_grown, by simp⟩
  have HB : Hid _ := begun_hs v ls W0 (hl.below B0) hz
  have HA : Hid _ := awake_calls
  have hlen := runs3 (ls.take 60)
  have hpst : Hid (Pst (runsR h32 (ls.take 60))) := runsR_pst (new_pst 3 2) (ls.take 60)
  generalize runsR h32 (ls.take 60) = H at *
  have HA0 : Hid (Blk W0 w.heap.size ra.cells.toArray 27) := A0
  have HA1 : Hid (Blk W0 (w.heap.size + 1) rb.cells.toArray 27) := A1
  have HB0 : Hid (Below w.heap.size w W0) := B0
  have HTa : Hid _ := fun wx => text_hs ra wx hpra
  have HTb : Hid _ := fun wx => text_hs rb wx hprb
  have HDo : Hid _ := fun (wx : World) (X : Ad) (hm : Hm wx W0.heap.size X H) hB => do_calls wx hm hB hpst.out ra.who ra.stamp ra.text (text_size _ hsza)
  have hon : ∀ s2, s2 ≤ ra.stamp → (doR H ra.who ra.stamp ra.text).2.1 = 0 → _ := fun s2 h2 h0 => once_case (H := H) (by omega) h0 s2 h2 rb.text
  have hps2 := doR_pst hpst.out ra.who ra.stamp ra.text
  obtain ⟨D, hD⟩ : ∃ D, doR H ra.who ra.stamp ra.text = D := ⟨_, rfl⟩
  rw [hD] at HDo hps2
  have HOn : Hid (∀ s2, s2 ≤ ra.stamp → D.2.1 = 0 → ∃ e : Int, (e = 91 ∨ e = 1) ∧ doR D.2.2 ra.who s2 rb.text = (⟨#[]⟩, e, D.2.2)) := fun s2 h1 h2 => by
    have := hon s2 h1 (by rw [hD]; exact h2)
    rw [hD] at this
    exact this
  have HDb : Hid (∀ s2 (wx : World) (X : Ad) (hm : Hm wx W0.heap.size X D.2.2), W0.heap.size ≤ wx.heap.size → _) := fun s2 wx X hm hB => do_calls wx hm hB hps2 ra.who s2 rb.text (text_size _ hszb)
  have HZ0 : Hid _ := Z0
  clear hD A0 A1 B0 hl hz hpst hlen hsza hszb hpra hprb Z0 hon hps2
  unfold Rq.cells at HA0 HA1 ⊢
  unfold Rq.val Rq.cells at HTa HTb
  generalize ra.text = ta at *
  generalize ra.who = aw at *
  generalize ra.stamp = as_ at *
  generalize ra.op.k = ok at *
  generalize ra.op.g = og at *
  generalize ra.op.a = oa at *
  generalize ra.op.d = od at *
  generalize ra.op.i = oi at *
  generalize ra.op.pr = op at *
  generalize ra.raw = ar at *
  generalize ra.txt = at_ at *
  generalize rb.text = tb at *
  generalize rb.who = bw at *
  generalize rb.stamp = bs at *
  generalize rb.op.k = bk at *
  generalize rb.op.g = bg at *
  generalize rb.op.a = ba at *
  generalize rb.op.d = bd at *
  generalize rb.op.i = bi at *
  generalize rb.op.pr = bp at *
  generalize rb.raw = br at *
  generalize rb.txt = bt at *
  go_enter Tryz.func4, Tryz.ntmps4
  go_wp2_with fail
  refine Calls.mono HB.out ?_
  rintro e w1 ⟨X, rfl, m1, b1⟩
  have HM1 : Hid (Hm w1 W0.heap.size X H) := m1
  have HB1 : Hid (Below W0.heap.size W0 w1) := b1
  have HX0 : Hid _ := Blk.below HA0.out b1
  have HX1 : Hid _ := Blk.below HA1.out b1
  have d0 : w1.cell? ⟨w.heap.size, 0, none⟩ = some (.int .i64 aw) := Blk.cell HX0.out rfl
  have d1 : w1.cell? ⟨w.heap.size, 1, none⟩ = some (.int .i64 as_) := Blk.cell HX0.out rfl
  have d2 : w1.cell? ⟨w.heap.size, 2, none⟩ = some (.int .i64 ok) := Blk.cell HX0.out rfl
  have d3 : w1.cell? ⟨w.heap.size, 3, none⟩ = some (.int .i64 og) := Blk.cell HX0.out rfl
  have d4 : w1.cell? ⟨w.heap.size, 4, none⟩ = some (.int .i64 oa) := Blk.cell HX0.out rfl
  have d5 : w1.cell? ⟨w.heap.size, 5, none⟩ = some (.int .i64 od) := Blk.cell HX0.out rfl
  have d6 : w1.cell? ⟨w.heap.size, 6, none⟩ = some (.int .i64 oi) := Blk.cell HX0.out rfl
  have d7 : w1.cell? ⟨w.heap.size, 7, none⟩ = some (.float .f64 op) := Blk.cell HX0.out rfl
  have d8 : w1.cell? ⟨w.heap.size, 8, none⟩ = some (.bool ar) := Blk.cell HX0.out rfl
  have d9 : w1.cell? ⟨w.heap.size, 9, none⟩ = some (.string at_) := Blk.cell HX0.out rfl
  have hz1 := b1.size
  have hnf : ¬ X.foot w.heap.size := fun e => by have := m1.foot_base _ e; have := HZ0.out; omega
  have hnf1 : ¬ X.foot (w.heap.size + 1) := fun e => by have := m1.foot_base _ e; have := HZ0.out; omega
  clear m1 b1 HB hW0 HA0 HA1
  go_wp2_with fail
  go_upto_region 4 with fail
  refine wp_region_held_drew (S := (fun wx => Chg X.foot w1 wx)) (by kernel_rfl) (Chg.of_below (Below.refl w1.heap.size w1) : Chg X.foot w1 w1).drew (fun hS => ?_)
  refine tkG (i := 0) (v := .pointer (some ⟨X.p, 0, none⟩)) rfl hS ?_
  refine tkG (i := 1) (v := .pointer (some ⟨w.heap.size, 0, none⟩)) rfl hS ?_
  refine tkH (i := 2) (v := .int .i64 aw) rfl (fun w3 hS => by have fd0 : w3.cell? ⟨w.heap.size, 0, none⟩ = some (.int .i64 aw) := Chg.cell hS d0 hnf; have fd1 : w3.cell? ⟨w.heap.size, 1, none⟩ = some (.int .i64 as_) := Chg.cell hS d1 hnf; have fd2 : w3.cell? ⟨w.heap.size, 2, none⟩ = some (.int .i64 ok) := Chg.cell hS d2 hnf; have fd3 : w3.cell? ⟨w.heap.size, 3, none⟩ = some (.int .i64 og) := Chg.cell hS d3 hnf; have fd4 : w3.cell? ⟨w.heap.size, 4, none⟩ = some (.int .i64 oa) := Chg.cell hS d4 hnf; have fd5 : w3.cell? ⟨w.heap.size, 5, none⟩ = some (.int .i64 od) := Chg.cell hS d5 hnf; have fd6 : w3.cell? ⟨w.heap.size, 6, none⟩ = some (.int .i64 oi) := Chg.cell hS d6 hnf; have fd7 : w3.cell? ⟨w.heap.size, 7, none⟩ = some (.float .f64 op) := Chg.cell hS d7 hnf; have fd8 : w3.cell? ⟨w.heap.size, 8, none⟩ = some (.bool ar) := Chg.cell hS d8 hnf; have fd9 : w3.cell? ⟨w.heap.size, 9, none⟩ = some (.string at_) := Chg.cell hS d9 hnf; go_simp) hS ?_
  refine tkG (i := 3) (v := .pointer (some ⟨w.heap.size, 1, none⟩)) rfl hS ?_
  refine tkH (i := 4) (v := .int .i64 as_) rfl (fun w3 hS => by have fd0 : w3.cell? ⟨w.heap.size, 0, none⟩ = some (.int .i64 aw) := Chg.cell hS d0 hnf; have fd1 : w3.cell? ⟨w.heap.size, 1, none⟩ = some (.int .i64 as_) := Chg.cell hS d1 hnf; have fd2 : w3.cell? ⟨w.heap.size, 2, none⟩ = some (.int .i64 ok) := Chg.cell hS d2 hnf; have fd3 : w3.cell? ⟨w.heap.size, 3, none⟩ = some (.int .i64 og) := Chg.cell hS d3 hnf; have fd4 : w3.cell? ⟨w.heap.size, 4, none⟩ = some (.int .i64 oa) := Chg.cell hS d4 hnf; have fd5 : w3.cell? ⟨w.heap.size, 5, none⟩ = some (.int .i64 od) := Chg.cell hS d5 hnf; have fd6 : w3.cell? ⟨w.heap.size, 6, none⟩ = some (.int .i64 oi) := Chg.cell hS d6 hnf; have fd7 : w3.cell? ⟨w.heap.size, 7, none⟩ = some (.float .f64 op) := Chg.cell hS d7 hnf; have fd8 : w3.cell? ⟨w.heap.size, 8, none⟩ = some (.bool ar) := Chg.cell hS d8 hnf; have fd9 : w3.cell? ⟨w.heap.size, 9, none⟩ = some (.string at_) := Chg.cell hS d9 hnf; go_simp) hS ?_
  refine tkH (i := 5) (v := .agg #[.int .i64 aw, .int .i64 as_, .int .i64 ok, .int .i64 og, .int .i64 oa, .int .i64 od, .int .i64 oi, .float .f64 op, .bool ar, .string at_]) rfl (fun w3 hS => by have fd0 : w3.cell? ⟨w.heap.size, 0, none⟩ = some (.int .i64 aw) := Chg.cell hS d0 hnf; have fd1 : w3.cell? ⟨w.heap.size, 1, none⟩ = some (.int .i64 as_) := Chg.cell hS d1 hnf; have fd2 : w3.cell? ⟨w.heap.size, 2, none⟩ = some (.int .i64 ok) := Chg.cell hS d2 hnf; have fd3 : w3.cell? ⟨w.heap.size, 3, none⟩ = some (.int .i64 og) := Chg.cell hS d3 hnf; have fd4 : w3.cell? ⟨w.heap.size, 4, none⟩ = some (.int .i64 oa) := Chg.cell hS d4 hnf; have fd5 : w3.cell? ⟨w.heap.size, 5, none⟩ = some (.int .i64 od) := Chg.cell hS d5 hnf; have fd6 : w3.cell? ⟨w.heap.size, 6, none⟩ = some (.int .i64 oi) := Chg.cell hS d6 hnf; have fd7 : w3.cell? ⟨w.heap.size, 7, none⟩ = some (.float .f64 op) := Chg.cell hS d7 hnf; have fd8 : w3.cell? ⟨w.heap.size, 8, none⟩ = some (.bool ar) := Chg.cell hS d8 hnf; have fd9 : w3.cell? ⟨w.heap.size, 9, none⟩ = some (.string at_) := Chg.cell hS d9 hnf; go_simp) hS ?_
  refine wpAnyH_ready (rs := [6]) (by kernel_rfl) (by simp) ?_
  refine AllReadyH.cons rfl (fun K hK => ?_) AllReadyH.nil
  go_simp
  refine (HTa.out _).mono ?_
  rintro e w4 ⟨rfl, b4⟩
  have b4' : Below w1.heap.size w1 w4 := ⟨b4.os, b4.tape, b4.output, b4.size, b4.block⟩
  have C4 : Chg X.foot w1 w4 := Chg.of_below b4'
  refine hK.out _ _ C4 (fun hS => ?_)
  clear hK
  refine wpAnyH_ready (rs := [7]) (by kernel_rfl) (by simp) ?_
  refine AllReadyH.cons rfl (fun K hK => ?_) AllReadyH.nil
  go_simp
  refine (HDo.out w4 X (Hm.below HM1.out b4') (Nat.le_trans hz1 b4'.size)).mono ?_
  rintro e w5 ⟨rfl, X5, m5, s5, p5⟩
  have C5 : Chg X.foot w1 w5 := C4.trans (fun q hq => Or.inl hq) s5.chg
  refine hK.out _ _ C5 (fun hS => ?_)
  clear hK
  refine tkG (i := 8) (v := .tuple #[.string D.1, .int .i64 D.2.1]) rfl hS ?_
  refine tkG (i := 9) (v := .string D.1) rfl hS ?_
  refine tkG (i := 10) (v := .int .i64 D.2.1) rfl hS ?_
  refine tkG (i := 11) (v := .string D.1) rfl hS ?_
  refine tkG (i := 12) (v := .int .i64 D.2.1) rfl hS ?_
  refine wpAnyH_done (by kernel_rfl) ?_ _
  have HM5 : Hid (Hm w5 W0.heap.size X5 D.2.2) := m5
  have HX05 : Hid _ := Blk.chg HX0.out C5 hnf
  have HX15 : Hid _ := Blk.chg HX1.out C5 hnf1
  have HB5 : Hid (Below W0.heap.size W0 w5) := below_chg HB1.out hz1 C5 (fun q hq => HM1.out.foot_base q hq)
  obtain ⟨xp, hxp⟩ : ∃ xp, X.p = xp := ⟨_, rfl⟩
  have HP5 : Hid (X5.p = xp) := p5.trans hxp
  rw [hxp]
  clear hxp
  obtain ⟨D1, D2, DH⟩ := D
  simp only at HOn HDb HM5 ⊢
  clear m5 s5 p5 C5 C4 b4 b4' HDo hS hnf hnf1 d0 d1 d2 d3 d4 d5 d6 d7 d8 d9 HTa HM1 HX0 HX1
  have HR1 : Hid _ := records_hs w5 HM5.out
  rw [HP5.out] at HR1
  go_wp2_with fail
  refine Calls.mono HR1.out ?_
  rintro e w6 ⟨v1, rfl, own1, b6⟩
  have HM6 : Hid (Hm w6 W0.heap.size X5 DH) := HM5.out.below b6
  have HX06 : Hid _ := Blk.below HX05.out b6
  have HX16 : Hid _ := Blk.below HX15.out b6
  have HB6 : Hid (Below W0.heap.size W0 w6) := HB5.out.trans (b6.mono HB5.out.size)
  have HO1 : Hid (w6.ownsRow w5.heap.size 38 2 v1 (hrecs DH).length (rcCells (hrecs DH))) := own1
  have hz6 := HB6.out.size
  have hnf : ¬ X5.foot w.heap.size := fun e => by have := HM6.out.foot_base _ e; have := HZ0.out; omega
  have hnf1 : ¬ X5.foot (w.heap.size + 1) := fun e => by have := HM6.out.foot_base _ e; have := HZ0.out; omega
  have d0 : w6.cell? ⟨w.heap.size, 0, none⟩ = some (.int .i64 aw) := Blk.cell HX06.out rfl
  have d1 : w6.cell? ⟨w.heap.size, 1, none⟩ = some (.int .i64 as_) := Blk.cell HX06.out rfl
  have d2 : w6.cell? ⟨w.heap.size, 2, none⟩ = some (.int .i64 ok) := Blk.cell HX06.out rfl
  have d3 : w6.cell? ⟨w.heap.size, 3, none⟩ = some (.int .i64 og) := Blk.cell HX06.out rfl
  have d4 : w6.cell? ⟨w.heap.size, 4, none⟩ = some (.int .i64 oa) := Blk.cell HX06.out rfl
  have d5 : w6.cell? ⟨w.heap.size, 5, none⟩ = some (.int .i64 od) := Blk.cell HX06.out rfl
  have d6 : w6.cell? ⟨w.heap.size, 6, none⟩ = some (.int .i64 oi) := Blk.cell HX06.out rfl
  have d7 : w6.cell? ⟨w.heap.size, 7, none⟩ = some (.float .f64 op) := Blk.cell HX06.out rfl
  have d8 : w6.cell? ⟨w.heap.size, 8, none⟩ = some (.bool ar) := Blk.cell HX06.out rfl
  have d9 : w6.cell? ⟨w.heap.size, 9, none⟩ = some (.string at_) := Blk.cell HX06.out rfl
  have e0 : w6.cell? ⟨w.heap.size + 1, 0, none⟩ = some (.int .i64 bw) := Blk.cell HX16.out rfl
  have e1 : w6.cell? ⟨w.heap.size + 1, 1, none⟩ = some (.int .i64 bs) := Blk.cell HX16.out rfl
  have e2 : w6.cell? ⟨w.heap.size + 1, 2, none⟩ = some (.int .i64 bk) := Blk.cell HX16.out rfl
  have e3 : w6.cell? ⟨w.heap.size + 1, 3, none⟩ = some (.int .i64 bg) := Blk.cell HX16.out rfl
  have e4 : w6.cell? ⟨w.heap.size + 1, 4, none⟩ = some (.int .i64 ba) := Blk.cell HX16.out rfl
  have e5 : w6.cell? ⟨w.heap.size + 1, 5, none⟩ = some (.int .i64 bd) := Blk.cell HX16.out rfl
  have e6 : w6.cell? ⟨w.heap.size + 1, 6, none⟩ = some (.int .i64 bi) := Blk.cell HX16.out rfl
  have e7 : w6.cell? ⟨w.heap.size + 1, 7, none⟩ = some (.float .f64 bp) := Blk.cell HX16.out rfl
  have e8 : w6.cell? ⟨w.heap.size + 1, 8, none⟩ = some (.bool br) := Blk.cell HX16.out rfl
  have e9 : w6.cell? ⟨w.heap.size + 1, 9, none⟩ = some (.string bt) := Blk.cell HX16.out rfl
  clear own1 b6 HR1
  go_wp2_with fail
  go_upto_region 6 with fail
  refine wp_region_held_drew (S := (fun wx => Chg X5.foot w6 wx)) (by kernel_rfl) (Chg.of_below (Below.refl w6.heap.size w6) : Chg X5.foot w6 w6).drew (fun hS => ?_)
  refine tkG (i := 0) (v := .pointer (some ⟨xp, 0, none⟩)) rfl hS ?_
  refine tkG (i := 1) (v := .pointer (some ⟨w.heap.size, 0, none⟩)) rfl hS ?_
  refine tkH (i := 2) (v := .int .i64 aw) rfl (fun w3 hS => by have fd0 : w3.cell? ⟨w.heap.size, 0, none⟩ = some (.int .i64 aw) := Chg.cell hS d0 hnf; have fd1 : w3.cell? ⟨w.heap.size, 1, none⟩ = some (.int .i64 as_) := Chg.cell hS d1 hnf; have fd2 : w3.cell? ⟨w.heap.size, 2, none⟩ = some (.int .i64 ok) := Chg.cell hS d2 hnf; have fd3 : w3.cell? ⟨w.heap.size, 3, none⟩ = some (.int .i64 og) := Chg.cell hS d3 hnf; have fd4 : w3.cell? ⟨w.heap.size, 4, none⟩ = some (.int .i64 oa) := Chg.cell hS d4 hnf; have fd5 : w3.cell? ⟨w.heap.size, 5, none⟩ = some (.int .i64 od) := Chg.cell hS d5 hnf; have fd6 : w3.cell? ⟨w.heap.size, 6, none⟩ = some (.int .i64 oi) := Chg.cell hS d6 hnf; have fd7 : w3.cell? ⟨w.heap.size, 7, none⟩ = some (.float .f64 op) := Chg.cell hS d7 hnf; have fd8 : w3.cell? ⟨w.heap.size, 8, none⟩ = some (.bool ar) := Chg.cell hS d8 hnf; have fd9 : w3.cell? ⟨w.heap.size, 9, none⟩ = some (.string at_) := Chg.cell hS d9 hnf; go_simp) hS ?_
  refine tkG (i := 3) (v := .pointer (some ⟨w.heap.size, 1, none⟩)) rfl hS ?_
  refine tkH (i := 4) (v := .int .i64 as_) rfl (fun w3 hS => by have fd0 : w3.cell? ⟨w.heap.size, 0, none⟩ = some (.int .i64 aw) := Chg.cell hS d0 hnf; have fd1 : w3.cell? ⟨w.heap.size, 1, none⟩ = some (.int .i64 as_) := Chg.cell hS d1 hnf; have fd2 : w3.cell? ⟨w.heap.size, 2, none⟩ = some (.int .i64 ok) := Chg.cell hS d2 hnf; have fd3 : w3.cell? ⟨w.heap.size, 3, none⟩ = some (.int .i64 og) := Chg.cell hS d3 hnf; have fd4 : w3.cell? ⟨w.heap.size, 4, none⟩ = some (.int .i64 oa) := Chg.cell hS d4 hnf; have fd5 : w3.cell? ⟨w.heap.size, 5, none⟩ = some (.int .i64 od) := Chg.cell hS d5 hnf; have fd6 : w3.cell? ⟨w.heap.size, 6, none⟩ = some (.int .i64 oi) := Chg.cell hS d6 hnf; have fd7 : w3.cell? ⟨w.heap.size, 7, none⟩ = some (.float .f64 op) := Chg.cell hS d7 hnf; have fd8 : w3.cell? ⟨w.heap.size, 8, none⟩ = some (.bool ar) := Chg.cell hS d8 hnf; have fd9 : w3.cell? ⟨w.heap.size, 9, none⟩ = some (.string at_) := Chg.cell hS d9 hnf; go_simp) hS ?_
  refine tkG (i := 5) (v := .pointer (some ⟨w.heap.size + 1, 1, none⟩)) rfl hS ?_
  refine tkH (i := 6) (v := .int .i64 bs) rfl (fun w3 hS => by have fe0 : w3.cell? ⟨w.heap.size + 1, 0, none⟩ = some (.int .i64 bw) := Chg.cell hS e0 hnf1; have fe1 : w3.cell? ⟨w.heap.size + 1, 1, none⟩ = some (.int .i64 bs) := Chg.cell hS e1 hnf1; have fe2 : w3.cell? ⟨w.heap.size + 1, 2, none⟩ = some (.int .i64 bk) := Chg.cell hS e2 hnf1; have fe3 : w3.cell? ⟨w.heap.size + 1, 3, none⟩ = some (.int .i64 bg) := Chg.cell hS e3 hnf1; have fe4 : w3.cell? ⟨w.heap.size + 1, 4, none⟩ = some (.int .i64 ba) := Chg.cell hS e4 hnf1; have fe5 : w3.cell? ⟨w.heap.size + 1, 5, none⟩ = some (.int .i64 bd) := Chg.cell hS e5 hnf1; have fe6 : w3.cell? ⟨w.heap.size + 1, 6, none⟩ = some (.int .i64 bi) := Chg.cell hS e6 hnf1; have fe7 : w3.cell? ⟨w.heap.size + 1, 7, none⟩ = some (.float .f64 bp) := Chg.cell hS e7 hnf1; have fe8 : w3.cell? ⟨w.heap.size + 1, 8, none⟩ = some (.bool br) := Chg.cell hS e8 hnf1; have fe9 : w3.cell? ⟨w.heap.size + 1, 9, none⟩ = some (.string bt) := Chg.cell hS e9 hnf1; go_simp) hS ?_
  refine tkG (i := 7) (v := .int .i64 (min as_ bs)) rfl hS ?_
  refine tkH (i := 8) (v := .agg #[.int .i64 bw, .int .i64 bs, .int .i64 bk, .int .i64 bg, .int .i64 ba, .int .i64 bd, .int .i64 bi, .float .f64 bp, .bool br, .string bt]) rfl (fun w3 hS => by have fe0 : w3.cell? ⟨w.heap.size + 1, 0, none⟩ = some (.int .i64 bw) := Chg.cell hS e0 hnf1; have fe1 : w3.cell? ⟨w.heap.size + 1, 1, none⟩ = some (.int .i64 bs) := Chg.cell hS e1 hnf1; have fe2 : w3.cell? ⟨w.heap.size + 1, 2, none⟩ = some (.int .i64 bk) := Chg.cell hS e2 hnf1; have fe3 : w3.cell? ⟨w.heap.size + 1, 3, none⟩ = some (.int .i64 bg) := Chg.cell hS e3 hnf1; have fe4 : w3.cell? ⟨w.heap.size + 1, 4, none⟩ = some (.int .i64 ba) := Chg.cell hS e4 hnf1; have fe5 : w3.cell? ⟨w.heap.size + 1, 5, none⟩ = some (.int .i64 bd) := Chg.cell hS e5 hnf1; have fe6 : w3.cell? ⟨w.heap.size + 1, 6, none⟩ = some (.int .i64 bi) := Chg.cell hS e6 hnf1; have fe7 : w3.cell? ⟨w.heap.size + 1, 7, none⟩ = some (.float .f64 bp) := Chg.cell hS e7 hnf1; have fe8 : w3.cell? ⟨w.heap.size + 1, 8, none⟩ = some (.bool br) := Chg.cell hS e8 hnf1; have fe9 : w3.cell? ⟨w.heap.size + 1, 9, none⟩ = some (.string bt) := Chg.cell hS e9 hnf1; go_simp) hS ?_
  refine wpAnyH_ready (rs := [9]) (by kernel_rfl) (by simp) ?_
  refine AllReadyH.cons rfl (fun K hK => ?_) AllReadyH.nil
  go_simp
  refine (HTb.out _).mono ?_
  rintro e w7 ⟨rfl, b7⟩
  have b7' : Below w6.heap.size w6 w7 := ⟨b7.os, b7.tape, b7.output, b7.size, b7.block⟩
  have C7 : Chg X5.foot w6 w7 := Chg.of_below b7'
  refine hK.out _ _ C7 (fun hS => ?_)
  clear hK
  refine wpAnyH_ready (rs := [10]) (by kernel_rfl) (by simp) ?_
  refine AllReadyH.cons rfl (fun K hK => ?_) AllReadyH.nil
  go_simp
  have HD8 := HDb.out (min as_ bs) w7 X5 (Hm.below HM6.out b7') (Nat.le_trans hz6 b7'.size)
  rw [HP5.out] at HD8
  obtain ⟨E, hE⟩ : ∃ E, doR DH aw (min as_ bs) tb = E := ⟨_, rfl⟩
  rw [hE] at HD8
  refine HD8.mono ?_
  rintro e w8 ⟨rfl, X8, m8, s8, p8⟩
  have C8 : Chg X5.foot w6 w8 := C7.trans (fun q hq => Or.inl hq) s8.chg
  refine hK.out _ _ C8 (fun hS => ?_)
  clear hK
  refine tkG (i := 11) (v := .tuple #[.string E.1, .int .i64 E.2.1]) rfl hS ?_
  refine tkG (i := 12) (v := .string E.1) rfl hS ?_
  refine tkG (i := 13) (v := .int .i64 E.2.1) rfl hS ?_
  refine tkG (i := 14) (v := .string E.1) rfl hS ?_
  refine tkG (i := 15) (v := .int .i64 E.2.1) rfl hS ?_
  refine wpAnyH_done (by kernel_rfl) ?_ _
  have HM8 : Hid (Hm w8 W0.heap.size X8 E.2.2) := m8
  have HB8 : Hid (Below W0.heap.size W0 w8) := below_chg HB6.out hz6 C8 (fun q hq => HM6.out.foot_base q hq)
  have HO8 : Hid (w8.ownsRow w5.heap.size 38 2 v1 (hrecs DH).length (rcCells (hrecs DH))) := own_hst HO1.out C8 (fun k hk => HM5.out.foot_lt k hk)
  have HP8 : Hid (X8.p = xp) := p8
  have HE : Hid _ := hE
  clear m8 s8 p8 C8 C7 b7 b7' HD8 hE HDb hS hnf hnf1 d0 d1 d2 d3 d4 d5 d6 d7 d8 d9 e0 e1 e2 e3 e4 e5 e6 e7 e8 e9 HTb HX06 HX16
  by_cases h0 : D2 = 0
  · subst h0
    obtain ⟨er, her, hE2⟩ := HOn.out (min as_ bs) (Int.min_le_left _ _) rfl
    rw [HE.out] at hE2
    subst hE2
    simp only at HM8 ⊢
    have HR2 : Hid _ := records_hs w8 HM8.out
    rw [HP8.out] at HR2
    have HW1 : Hid _ := hrecs_small HM8.out
    have hll : (hrecs DH).length < 9223372036854775807 := by
      unfold hrecs
      rw [List.length_append]
      have h1 := hrec2_len DH DH.g
      have h2 := HM8.out.ha.lg.inv.len
      have h3 := HM8.out.ha.lg.inv.g4
      simp only [List.length_singleton]
      omega
    clear HE HOn
    rcases her with rfl | rfl
    · go_wp2_with fail
      refine Calls.mono HR2.out ?_
      rintro e w9 ⟨v2, rfl, own2, b9⟩
      have q1 := rcs_of_own (own_belowL HO8.out b9) HW1.out
      have q2 := rcs_of_own own2 HW1.out
      have HS : Hid _ := sameRecords_ref v2 v1 _ _ w9 q2 q1 hll hll
      rw [sameRc_self] at HS
      have HB9 : Hid (Below W0.heap.size W0 w9) := HB8.out.trans (b9.mono HB8.out.size)
      clear own2 b9 q1 q2
      go_wp2_with fail
      refine Calls.mono HS.out ?_
      rintro e wA ⟨rfl, bA⟩
      go_wp2_with fail
      refine (HA.out _).mono ?_
      rintro e wB ⟨rfl, bB⟩
      go_wp2
      go_ret
      exact ⟨rfl, HB0.out.trans (((HB9.out.trans (bA.mono HB9.out.size)).trans (bB.mono (Nat.le_trans HB9.out.size bA.size))).mono HB0.out.size)⟩
    · go_wp2_with fail
      refine Calls.mono HR2.out ?_
      rintro e w9 ⟨v2, rfl, own2, b9⟩
      have q1 := rcs_of_own (own_belowL HO8.out b9) HW1.out
      have q2 := rcs_of_own own2 HW1.out
      have HS : Hid _ := sameRecords_ref v2 v1 _ _ w9 q2 q1 hll hll
      rw [sameRc_self] at HS
      have HB9 : Hid (Below W0.heap.size W0 w9) := HB8.out.trans (b9.mono HB8.out.size)
      clear own2 b9 q1 q2
      go_wp2_with fail
      refine Calls.mono HS.out ?_
      rintro e wA ⟨rfl, bA⟩
      go_wp2_with fail
      refine (HA.out _).mono ?_
      rintro e wB ⟨rfl, bB⟩
      go_wp2
      go_ret
      exact ⟨rfl, HB0.out.trans (((HB9.out.trans (bA.mono HB9.out.size)).trans (bB.mono (Nat.le_trans HB9.out.size bA.size))).mono HB0.out.size)⟩
  · have hd : (D2 != 0) = true := by simpa using h0
    have hd2 : (D2 == 0) = false := by simpa using h0
    clear h0 HE HOn
    go_wp2_with fail
    refine (HA.out _).mono ?_
    rintro e w9 ⟨rfl, b9⟩
    go_wp2
    go_ret
    exact ⟨rfl, HB0.out.trans ((HB8.out.trans (b9.mono HB8.out.size)).mono HB0.out.size)⟩
end Go.Proofs.YtladgfngddgnlaaGreatDoor
