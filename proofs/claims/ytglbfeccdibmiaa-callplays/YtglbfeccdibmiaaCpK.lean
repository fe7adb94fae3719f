/- like: a book tells what the document's has. -/
import Derived.Test.YtglbfeccdibmiaaCpB
import Derived.Test.YtglbfeccdibmiaaCaI
import Derived.Test.YtglbfeccdibmiaaCaSm
import Derived.Deep.DeepCutAuto
import Derived.Deep.CutBlock
namespace Go.Proofs.Ytglbfeccdibmiaa
open Go.RowKit
set_option linter.unusedSimpArgs false
set_option linter.unusedVariables false
set_option maxHeartbeats 8000000 in
set_option maxRecDepth 100000 in
theorem like_calls {base p : Nat} {v : Value} {B : Bo} (lv : Value) (x : Int) (w : World) (h : Bk w base p v B) (hl : Ods w lv B.os) :
    Calls Try.prog 6 #[.pointer (some ⟨p, 0, none⟩), .agg #[lv, .int .i64 B.nx], .int .i64 x] w fun e w' => e = .returned (.bool true) ∧ Below w.heap.size w w' := by
  have hlen := h.inv.len
  obtain ⟨la, lc, rfl, hcells⟩ := id hl
  obtain ⟨W1, hW1, X1, B1, Z1⟩ : ∃ W1, w.alloc (.cells #[.slice la B.os.length lc, .int .i64 B.nx] 27) = W1 ∧ Blk W1 w.heap.size #[.slice la B.os.length lc, .int .i64 B.nx] 27 ∧ Below w.heap.size w W1 ∧ W1.heap.size = w.heap.size + 1 := ⟨_, rfl, blk_new _ _ _ _ rfl, by go_grown, by simp⟩
  have K1 := h.below B1
  have O1 : Ods W1 (.slice la B.os.length lc) B.os := hl.below B1
  have HG : Hid _ := get_calls x W1 K1
  have HAT : Hid (∀ wx, Below W1.heap.size W1 wx → Calls Try.prog 19 #[.agg #[.slice la B.os.length lc, .int .i64 B.nx], .int .i64 x] wx fun e w' => e = .returned (.int .i64 (fnd B.os x)) ∧ Below wx.heap.size wx w') := fun wx hb => refAt_calls _ B.os B.nx x wx (O1.below hb) (by omega)
  have HOR : Hid (∀ wx, Below W1.heap.size W1 wx → Calls Try.prog 21 #[.pointer (some ⟨p, 0, none⟩)] wx fun e w' => ∃ v', e = .returned v' ∧ w'.ownsRow wx.heap.size 31 6 v' B.os.length (odL B.os) ∧ Below wx.heap.size wx w') := fun wx hb => orders_calls wx (K1.below hb)
  have HBY : Hid (∀ wx, Below W1.heap.size W1 wx → Calls Try.prog 22 #[.pointer (some ⟨p, 0, none⟩)] wx fun e w' => e = .returned (.string (boB B)) ∧ Below wx.heap.size wx w') := fun wx hb => bytes_calls wx (K1.below hb)
  have HRB : Hid (∀ wx, Below W1.heap.size W1 wx → Calls Try.prog 23 #[.agg #[.slice la B.os.length lc, .int .i64 B.nx]] wx fun e w' => e = .returned (.string (boB B)) ∧ Below wx.heap.size wx w') := fun wx hb => refBytes_calls _ B h.inv wx (O1.below hb)
  have HSM : Hid (∀ (wx : World) (vo : Value), Below W1.heap.size W1 wx → Ods wx vo B.os → Calls Try.prog 20 #[vo, .slice la B.os.length lc] wx fun e w' => e = .returned (.bool true) ∧ Below wx.heap.size wx w') := fun wx vo hb ho => same_same vo _ B.os wx ho (O1.below hb) (by omega)
  have y0 : W1.cell? ⟨w.heap.size, 0, none⟩ = some (.slice la B.os.length lc) := X1.cell rfl
  have y1 : W1.cell? ⟨w.heap.size, 1, none⟩ = some (.int .i64 B.nx) := X1.cell rfl
  have HY0 : Hid (∀ wx, Below W1.heap.size W1 wx → wx.cell? ⟨w.heap.size, 0, none⟩ = some (.slice la B.os.length lc)) := fun wx hx => keepY hx y0
  have HY1 : Hid (∀ wx, Below W1.heap.size W1 wx → wx.cell? ⟨w.heap.size, 1, none⟩ = some (.int .i64 B.nx)) := fun wx hx => keepY hx y1
  have HB1 : Hid _ := B1
  have HNE : Hid _ := neqO
  have hbb : ((boB B).toList == (boB B).toList) = true := by simp
  generalize boB B = bs at *
  have HC : Hid (∀ (k : Nat) (o : Od), B.os[k]? = some o → ∃ g off, la = some ⟨g, off, none⟩ ∧ ∀ j u, (oC o)[j]? = some u → W1.cell? ⟨g, off + k * 6 + j, none⟩ = some u) := fun k o ho => by
    rcases hcells with h0 | ⟨g, off, e, hx⟩
    · rw [h0] at ho; simp at ho
    · exact ⟨g, off, e, fun j u hu => keepY B1 (hx k o j u ho hu)⟩
  clear hl h X1 K1 O1 hcells B1 y1
  rcases fnd_cases B.os x with ⟨f1, f2⟩ | ⟨i, o, f1, f2, f3, f4⟩
  · rw [gtB_none f2] at HG
    rw [f1] at HAT
    obtain ⟨n0, n1, n2, n3, n4, n5, HZ⟩ : ∃ (n0 n1 n2 n3 n4 : Int) (n5 : Bool), Hid (n0 = 0 ∧ n1 = 0 ∧ n2 = 0 ∧ n3 = 0 ∧ n4 = 0 ∧ n5 = false) := ⟨0, 0, 0, 0, 0, false, rfl, rfl, rfl, rfl, rfl, rfl⟩
    have HG2 : Hid (Calls Try.prog 18 #[.pointer (some ⟨p, 0, none⟩), .int .i64 x] W1 fun e w' => e = .returned (.tuple #[.agg #[.int .i64 n0, .int .i64 n1, .int .i64 n2, .int .i64 n3, .int .i64 n4, .bool n5], .bool false]) ∧ Below W1.heap.size W1 w') := by
      obtain ⟨h0, h1, h2, h3, h4, h5⟩ := HZ.out
      rw [h0, h1, h2, h3, h4, h5]
      exact HG.out
    clear HG
    have HNZ : Hid (∀ wx : World, (binOp .neq 31 (.agg #[.int .i64 n0, .int .i64 n1, .int .i64 n2, .int .i64 n3, .int .i64 n4, .bool n5]) (.agg #[.int .i64 0, .int .i64 0, .int .i64 0, .int .i64 0, .int .i64 0, .bool false])).run Try.prog wx = .ok (.bool false) wx) := fun wx => by
      obtain ⟨h0, h1, h2, h3, h4, h5⟩ := HZ.out
      rw [h0, h1, h2, h3, h4, h5]
      exact HNE.out wx (0, 0, 0, 0, 0, false)
    clear f1 f2
    go_enter Try.func6, Try.ntmps6
    go_wp2_with fail
    refine Calls.mono HG2.out ?_
    rintro e w2 ⟨rfl, b2⟩
    obtain ⟨W3, hW3, X3, B3⟩ : ∃ W3, w2.alloc (.cells #[.int .i64 n0, .int .i64 n1, .int .i64 n2, .int .i64 n3, .int .i64 n4, .bool n5] 31) = W3 ∧ Blk W3 w2.heap.size #[.int .i64 n0, .int .i64 n1, .int .i64 n2, .int .i64 n3, .int .i64 n4, .bool n5] 31 ∧ Below w2.heap.size w2 W3 := ⟨_, rfl, blk_new _ _ _ _ rfl, by go_grown⟩
    have HB3 : Hid (Below W1.heap.size W1 W3) := b2.trans (B3.mono b2.size)
    obtain ⟨q, hq⟩ : ∃ q, w2.heap.size = q := ⟨_, rfl⟩
    rw [hq] at X3
    have HX3 : Hid _ := X3
    have y0' := HY0.out W3 HB3.out
    have y1' := HY1.out W3 HB3.out
    clear b2 B3 X3 y0
    go_wp2_with fail
    refine Calls.mono (HAT.out _ HB3.out) ?_
    rintro e w4 ⟨rfl, b4⟩
    have HX4 : Hid (∀ wx, Below w4.heap.size w4 wx → Blk wx q #[.int .i64 n0, .int .i64 n1, .int .i64 n2, .int .i64 n3, .int .i64 n4, .bool n5] 31) := fun wx hx => (Blk.below HX3.out b4).below hx
    have HB4 : Hid (Below W1.heap.size W1 w4) := Below.trans HB3.out (b4.mono (Below.size HB3.out))
    clear b4 y0' y1' HX3 HB3
    go_upto_region 3 with fail
    clear hW3 hq
    go_cut [45] (fun bv wx => bv = .bool false ∧ Below w4.heap.size w4 wx)
    case first =>
      refine wp_region_held_drew (S := (fun wx => Below w4.heap.size w4 wx)) (by kernel_rfl) ((Below.refl _ _).drew) (fun hS => ?_)
      refine wpAnyH_take (i := 0) (v := (.int .i64 (-1))) rfl (by kernel_rfl) (by kernel_rfl) (by kernel_rfl) (fun _ _ _ h => h) (Or.inl ⟨by rfl, fun wx hS => by go_simp⟩) hS ?_
      refine wpAnyH_take (i := 1) (v := (.bool true)) rfl (by kernel_rfl) (by kernel_rfl) (by kernel_rfl) (fun _ _ _ h => h) (Or.inl ⟨by rfl, fun wx hS => by go_simp⟩) hS ?_
      refine wpAnyH_take (i := 2) (v := (.bool true)) rfl (by kernel_rfl) (by kernel_rfl) (by kernel_rfl) (fun _ _ _ h => h) (Or.inl ⟨by rfl, fun wx hS => by go_simp⟩) hS ?_
      refine wpAnyH_take (i := 3) (v := (.bool false)) rfl (by kernel_rfl) (by kernel_rfl) (by kernel_rfl) (fun _ _ _ h => h) (Or.inl ⟨by kernel_rfl, fun wx hS => by go_simp⟩) hS ?_
      refine wpAnyH_take (i := 4) (v := (.bool false)) rfl (by kernel_rfl) (by kernel_rfl) (by kernel_rfl) (fun _ _ _ h => h) (Or.inl ⟨by kernel_rfl, fun wx hS => by go_simp⟩) hS ?_
      refine wpAnyH_take (i := 5) (v := (.agg #[.int .i64 n0, .int .i64 n1, .int .i64 n2, .int .i64 n3, .int .i64 n4, .bool n5])) rfl (by kernel_rfl) (by kernel_rfl) (by kernel_rfl) (fun _ _ _ h => h) (Or.inl ⟨by kernel_rfl, fun wx hS => by have t0 := (HX4.out wx hS).cell (o := 0) rfl; have t1 := (HX4.out wx hS).cell (o := 1) rfl; have t2 := (HX4.out wx hS).cell (o := 2) rfl; have t3 := (HX4.out wx hS).cell (o := 3) rfl; have t4 := (HX4.out wx hS).cell (o := 4) rfl; have t5 := (HX4.out wx hS).cell (o := 5) rfl; go_simp⟩) hS ?_
      refine wpAnyH_take (i := 6) (v := (.agg #[.int .i64 0, .int .i64 0, .int .i64 0, .int .i64 0, .int .i64 0, .bool false])) rfl (by kernel_rfl) (by kernel_rfl) (by kernel_rfl) (fun _ _ _ h => h) (Or.inl ⟨by kernel_rfl, fun wx hS => by go_simp⟩) hS ?_
      refine wpAnyH_take (i := 7) (v := (.bool false)) rfl (by kernel_rfl) (by kernel_rfl) (by kernel_rfl) (fun _ _ _ h => h) (Or.inl ⟨by kernel_rfl, fun wx hS => by have t0 := HZ.out.1; have t1 := HZ.out.2.1; have t2 := HZ.out.2.2.1; have t3 := HZ.out.2.2.2.1; have t4 := HZ.out.2.2.2.2.1; have t5 := HZ.out.2.2.2.2.2; go_simp⟩) hS ?_
      refine wpAnyH_take (i := 8) (v := (.bool false)) rfl (by kernel_rfl) (by kernel_rfl) (by kernel_rfl) (fun _ _ _ h => h) (Or.inl ⟨by kernel_rfl, fun wx hS => by go_simp⟩) hS ?_
      refine wpAnyH_take (i := 9) (v := (.bool false)) rfl (by kernel_rfl) (by kernel_rfl) (by kernel_rfl) (fun _ _ _ h => h) (Or.inl ⟨by rfl, fun wx hS => by go_simp⟩) hS ?_
      refine wpAnyH_take (i := 10) (v := (.bool false)) rfl (by kernel_rfl) (by kernel_rfl) (by kernel_rfl) (fun _ _ _ h => h) (Or.inl ⟨by rfl, fun wx hS => by go_simp⟩) hS ?_
      refine wpAnyH_take (i := 11) (v := (.int .i64 (-1))) rfl (by kernel_rfl) (by kernel_rfl) (by kernel_rfl) (fun _ _ _ h => h) (Or.inl ⟨by kernel_rfl, fun wx hS => by go_simp⟩) hS ?_
      refine wpAnyH_take (i := 12) (v := (.bool false)) rfl (by kernel_rfl) (by kernel_rfl) (by kernel_rfl) (fun _ _ _ h => h) (Or.inl ⟨by kernel_rfl, fun wx hS => by go_simp⟩) hS ?_
      refine wpAnyH_take (i := 13) (v := (.bool false)) rfl (by kernel_rfl) (by kernel_rfl) (by kernel_rfl) (fun _ _ _ h => h) (Or.inl ⟨by kernel_rfl, fun wx hS => by go_simp⟩) hS ?_
      refine wpAnyH_take (i := 14) (v := undef) rfl (by kernel_rfl) (by kernel_rfl) (by kernel_rfl) (fun _ _ _ h => h) (Or.inr ⟨by kernel_rfl, rfl⟩) hS ?_
      refine wpAnyH_take (i := 15) (v := undef) rfl (by kernel_rfl) (by kernel_rfl) (by kernel_rfl) (fun _ _ _ h => h) (Or.inr ⟨by kernel_rfl, rfl⟩) hS ?_
      refine wpAnyH_take (i := 16) (v := undef) rfl (by kernel_rfl) (by kernel_rfl) (by kernel_rfl) (fun _ _ _ h => h) (Or.inr ⟨by kernel_rfl, rfl⟩) hS ?_
      refine wpAnyH_take (i := 17) (v := undef) rfl (by kernel_rfl) (by kernel_rfl) (by kernel_rfl) (fun _ _ _ h => h) (Or.inr ⟨by kernel_rfl, rfl⟩) hS ?_
      refine wpAnyH_take (i := 18) (v := undef) rfl (by kernel_rfl) (by kernel_rfl) (by kernel_rfl) (fun _ _ _ h => h) (Or.inr ⟨by kernel_rfl, rfl⟩) hS ?_
      refine wpAnyH_take (i := 19) (v := undef) rfl (by kernel_rfl) (by kernel_rfl) (by kernel_rfl) (fun _ _ _ h => h) (Or.inr ⟨by kernel_rfl, rfl⟩) hS ?_
      refine wpAnyH_take (i := 20) (v := undef) rfl (by kernel_rfl) (by kernel_rfl) (by kernel_rfl) (fun _ _ _ h => h) (Or.inr ⟨by kernel_rfl, rfl⟩) hS ?_
      refine wpAnyH_take (i := 21) (v := undef) rfl (by kernel_rfl) (by kernel_rfl) (by kernel_rfl) (fun _ _ _ h => h) (Or.inr ⟨by kernel_rfl, rfl⟩) hS ?_
      refine wpAnyH_take (i := 22) (v := undef) rfl (by kernel_rfl) (by kernel_rfl) (by kernel_rfl) (fun _ _ _ h => h) (Or.inr ⟨by kernel_rfl, rfl⟩) hS ?_
      refine wpAnyH_take (i := 23) (v := undef) rfl (by kernel_rfl) (by kernel_rfl) (by kernel_rfl) (fun _ _ _ h => h) (Or.inr ⟨by kernel_rfl, rfl⟩) hS ?_
      refine wpAnyH_take (i := 24) (v := undef) rfl (by kernel_rfl) (by kernel_rfl) (by kernel_rfl) (fun _ _ _ h => h) (Or.inr ⟨by kernel_rfl, rfl⟩) hS ?_
      refine wpAnyH_take (i := 25) (v := (.bool false)) rfl (by kernel_rfl) (by kernel_rfl) (by kernel_rfl) (fun _ _ _ h => h) (Or.inl ⟨by kernel_rfl, fun wx hS => by go_simp⟩) hS ?_
      refine wpAnyH_take (i := 26) (v := (.bool false)) rfl (by kernel_rfl) (by kernel_rfl) (by kernel_rfl) (fun _ _ _ h => h) (Or.inl ⟨by rfl, fun wx hS => by go_simp⟩) hS ?_
      refine wpAnyH_done (by kernel_rfl) ?_ _
      go_simp
      rename_i J9 K9 aJ aK
      refine aK _ _ ?_
      go_meet
      exact ⟨rfl, hS⟩
    case rest =>
      obtain ⟨rfl, hcb⟩ := hcut
      have HB5 : Hid (Below W1.heap.size W1 wc) := Below.trans HB4.out (hcb.mono (Below.size HB4.out))
      clear hcb
      go_wp2_with fail
      refine wp_region_held_drew (S := (fun wx => Below W1.heap.size W1 wx)) (by kernel_rfl) (Below.drew HB5.out) (fun hS => ?_)
      refine wpAnyH_take (i := 0) (v := (.pointer (some ⟨p, 0, none⟩))) rfl (by kernel_rfl) (by kernel_rfl) (by kernel_rfl) (fun _ _ _ h => h) (Or.inl ⟨by rfl, fun wx hS => by go_simp⟩) hS ?_
      refine wpAnyH_take (i := 2) (v := (.pointer (some ⟨w.heap.size, 0, none⟩))) rfl (by kernel_rfl) (by kernel_rfl) (by kernel_rfl) (fun _ _ _ h => h) (Or.inl ⟨by rfl, fun wx hS => by go_simp⟩) hS ?_
      refine wpAnyH_take (i := 3) (v := (.slice la B.os.length lc)) rfl (by kernel_rfl) (by kernel_rfl) (by kernel_rfl) (fun _ _ _ h => h) (Or.inl ⟨by rfl, fun wx hS => by have s0 := HY0.out wx hS; go_simp⟩) hS ?_
      refine wpAnyH_ready (rs := [1]) (by kernel_rfl) (by simp) ?_
      refine AllReadyH.cons rfl (fun K hK => ?_) AllReadyH.nil
      go_simp
      refine Calls.mono (HOR.out _ hS) ?_
      rintro e1 q1 ⟨vo, rfl, own1, bq⟩
      have HO1 : Hid _ := own1
      refine hK.out _ _ (hS.trans (bq.mono hS.size)) (fun hS => ?_)
      clear hK bq own1
      refine wpAnyH_ready (rs := [4]) (by kernel_rfl) (by simp) ?_
      refine AllReadyH.cons rfl (fun K hK => ?_) AllReadyH.nil
      go_simp
      refine Calls.mono (HSM.out _ vo hS (ods_own HO1.out)) ?_
      rintro e4 q4 ⟨rfl, bq⟩
      refine hK.out _ _ (hS.trans (bq.mono hS.size)) (fun hS => ?_)
      clear hK bq
      refine wpAnyH_take (i := 5) (v := (.bool true)) rfl (by kernel_rfl) (by kernel_rfl) (by kernel_rfl) (fun _ _ _ h => h) (Or.inl ⟨by rfl, fun wx hS => by go_simp⟩) hS ?_
      refine wpAnyH_take (i := 6) (v := (.pointer (some ⟨p, 0, none⟩))) rfl (by kernel_rfl) (by kernel_rfl) (by kernel_rfl) (fun _ _ _ h => h) (Or.inl ⟨by kernel_rfl, fun wx hS => by go_simp⟩) hS ?_
      refine wpAnyH_take (i := 8) (v := (.agg #[.slice la B.os.length lc, .int .i64 B.nx])) rfl (by kernel_rfl) (by kernel_rfl) (by kernel_rfl) (fun _ _ _ h => h) (Or.inl ⟨by kernel_rfl, fun wx hS => by have t0 := HY0.out wx hS; have t1 := HY1.out wx hS; go_simp⟩) hS ?_
      refine wpAnyH_ready (rs := [7]) (by kernel_rfl) (by simp) ?_
      refine readyH_callK (i := 7) rfl (by kernel_rfl) (fun K hK => ?_)
      go_simp
      refine Calls.mono (HBY.out _ hS) ?_
      rintro e7 q7 ⟨rfl, bq⟩
      refine hK.out _ _ (hS.trans (bq.mono hS.size)) (fun hS => ?_)
      clear hK
      refine wpAnyH_ready (rs := [9]) (by kernel_rfl) (by simp) ?_
      refine readyH_callK (i := 9) rfl (by kernel_rfl) (fun K hK => ?_)
      go_simp
      refine Calls.mono (HRB.out _ hS) ?_
      rintro e9 q9 ⟨rfl, bq⟩
      refine hK.out _ _ (hS.trans (bq.mono hS.size)) (fun hS => ?_)
      clear hK
      refine wpAnyH_take (i := 10) (v := (.bool true)) rfl (by kernel_rfl) (by kernel_rfl) (by kernel_rfl) (fun _ _ _ h => h) (Or.inl ⟨by kernel_rfl, fun wx hS => by go_simp⟩) hS ?_
      refine wpAnyH_take (i := 11) (v := (.bool true)) rfl (by kernel_rfl) (by kernel_rfl) (by kernel_rfl) (fun _ _ _ h => h) (Or.inl ⟨by rfl, fun wx hS => by go_simp⟩) hS ?_
      refine wpAnyH_ready (rs := [12]) (by kernel_rfl) (by simp) ?_
      refine AllReadyH.cons rfl (fun K hK => ?_) AllReadyH.nil
      go_simp
      refine hK.out _ _ hS (fun hS => ?_)
      clear hK
      refine wpAnyH_done (by kernel_rfl) ?_ _
      go_wp2
      go_ret
      exact ⟨rfl, Below.trans HB1.out (hS.mono (Below.size HB1.out))⟩
  · have HO : Hid _ := f2
    rw [gtB_some f1 f2 f3] at HG
    rw [f1] at HAT
    obtain ⟨g, off, rfl, hx⟩ := HC.out i o f2
    have hi0 : ¬ (i : Int) < 0 := by omega
    have hi1 : (i : Int) < (B.os.length : Int) := by omega
    have hi2 : (0 : Int) ≤ (i : Int) := by omega
    have hi3 : decide ((i : Int) < 0) = false := decide_eq_false hi0
    have hi4 : decide ((0 : Int) ≤ (i : Int)) = true := decide_eq_true hi2
    have hoc : (oC o).toArray = #[.int .i64 o.id, .int .i64 o.own, .int .i64 o.pr, .int .i64 o.am, .int .i64 o.pl, .bool o.by] := rfl
    rw [hoc] at HG
    have HM : Hid (∀ wx, Below W1.heap.size W1 wx → wx.cell? ⟨g, off + i * 6, none⟩ = some (.int .i64 o.id) ∧ wx.cell? ⟨g, off + i * 6 + 1, none⟩ = some (.int .i64 o.own) ∧ wx.cell? ⟨g, off + i * 6 + 2, none⟩ = some (.int .i64 o.pr) ∧ wx.cell? ⟨g, off + i * 6 + 3, none⟩ = some (.int .i64 o.am) ∧ wx.cell? ⟨g, off + i * 6 + 4, none⟩ = some (.int .i64 o.pl) ∧ wx.cell? ⟨g, off + i * 6 + 5, none⟩ = some (.bool o.by)) := fun wx hb => ⟨keepY hb (hx 0 _ rfl), keepY hb (hx 1 _ rfl), keepY hb (hx 2 _ rfl), keepY hb (hx 3 _ rfl), keepY hb (hx 4 _ rfl), keepY hb (hx 5 _ rfl)⟩
    clear f1 f2 f3 f4 hoc hx
    go_enter Try.func6, Try.ntmps6
    go_wp2_with fail
    refine Calls.mono HG.out ?_
    rintro e w2 ⟨rfl, b2⟩
    obtain ⟨W3, hW3, X3, B3⟩ : ∃ W3, w2.alloc (.cells #[.int .i64 o.id, .int .i64 o.own, .int .i64 o.pr, .int .i64 o.am, .int .i64 o.pl, .bool o.by] 31) = W3 ∧ Blk W3 w2.heap.size #[.int .i64 o.id, .int .i64 o.own, .int .i64 o.pr, .int .i64 o.am, .int .i64 o.pl, .bool o.by] 31 ∧ Below w2.heap.size w2 W3 := ⟨_, rfl, blk_new _ _ _ _ rfl, by go_grown⟩
    have HB3 : Hid (Below W1.heap.size W1 W3) := b2.trans (B3.mono b2.size)
    obtain ⟨q, hq⟩ : ∃ q, w2.heap.size = q := ⟨_, rfl⟩
    rw [hq] at X3
    have HX3 : Hid _ := X3
    have y0' := HY0.out W3 HB3.out
    have y1' := HY1.out W3 HB3.out
    clear b2 B3 X3 y0
    go_wp2_with fail
    refine Calls.mono (HAT.out _ HB3.out) ?_
    rintro e w4 ⟨rfl, b4⟩
    have HX4 : Hid (∀ wx, Below w4.heap.size w4 wx → Blk wx q #[.int .i64 o.id, .int .i64 o.own, .int .i64 o.pr, .int .i64 o.am, .int .i64 o.pl, .bool o.by] 31) := fun wx hx => (Blk.below HX3.out b4).below hx
    have HB4 : Hid (Below W1.heap.size W1 w4) := Below.trans HB3.out (b4.mono (Below.size HB3.out))
    clear b4 y0' y1' HX3 HB3
    go_upto_region 3 with fail
    clear hW3 hq
    go_cut [45] (fun bv wx => bv = .bool false ∧ Below w4.heap.size w4 wx)
    case first =>
      refine wp_region_held_drew (S := (fun wx => Below w4.heap.size w4 wx)) (by kernel_rfl) ((Below.refl _ _).drew) (fun hS => ?_)
      refine wpAnyH_take (i := 0) (v := (.int .i64 i)) rfl (by kernel_rfl) (by kernel_rfl) (by kernel_rfl) (fun _ _ _ h => h) (Or.inl ⟨by rfl, fun wx hS => by go_simp⟩) hS ?_
      refine wpAnyH_take (i := 1) (v := (.bool false)) rfl (by kernel_rfl) (by kernel_rfl) (by kernel_rfl) (fun _ _ _ h => h) (Or.inl ⟨by rfl, fun wx hS => by go_simp⟩) hS ?_
      refine wpAnyH_take (i := 2) (v := (.bool false)) rfl (by kernel_rfl) (by kernel_rfl) (by kernel_rfl) (fun _ _ _ h => h) (Or.inl ⟨by rfl, fun wx hS => by go_simp⟩) hS ?_
      refine wpAnyH_take (i := 3) (v := undef) rfl (by kernel_rfl) (by kernel_rfl) (by kernel_rfl) (fun _ _ _ h => h) (Or.inr ⟨by kernel_rfl, rfl⟩) hS ?_
      refine wpAnyH_take (i := 4) (v := undef) rfl (by kernel_rfl) (by kernel_rfl) (by kernel_rfl) (fun _ _ _ h => h) (Or.inr ⟨by kernel_rfl, rfl⟩) hS ?_
      refine wpAnyH_take (i := 5) (v := undef) rfl (by kernel_rfl) (by kernel_rfl) (by kernel_rfl) (fun _ _ _ h => h) (Or.inr ⟨by kernel_rfl, rfl⟩) hS ?_
      refine wpAnyH_take (i := 6) (v := undef) rfl (by kernel_rfl) (by kernel_rfl) (by kernel_rfl) (fun _ _ _ h => h) (Or.inr ⟨by kernel_rfl, rfl⟩) hS ?_
      refine wpAnyH_take (i := 7) (v := undef) rfl (by kernel_rfl) (by kernel_rfl) (by kernel_rfl) (fun _ _ _ h => h) (Or.inr ⟨by kernel_rfl, rfl⟩) hS ?_
      refine wpAnyH_take (i := 8) (v := undef) rfl (by kernel_rfl) (by kernel_rfl) (by kernel_rfl) (fun _ _ _ h => h) (Or.inr ⟨by kernel_rfl, rfl⟩) hS ?_
      refine wpAnyH_take (i := 9) (v := (.bool false)) rfl (by kernel_rfl) (by kernel_rfl) (by kernel_rfl) (fun _ _ _ h => h) (Or.inl ⟨by rfl, fun wx hS => by go_simp⟩) hS ?_
      refine wpAnyH_take (i := 10) (v := (.bool false)) rfl (by kernel_rfl) (by kernel_rfl) (by kernel_rfl) (fun _ _ _ h => h) (Or.inl ⟨by rfl, fun wx hS => by go_simp⟩) hS ?_
      refine wpAnyH_take (i := 11) (v := (.int .i64 i)) rfl (by kernel_rfl) (by kernel_rfl) (by kernel_rfl) (fun _ _ _ h => h) (Or.inl ⟨by kernel_rfl, fun wx hS => by go_simp⟩) hS ?_
      refine wpAnyH_take (i := 12) (v := (.bool true)) rfl (by kernel_rfl) (by kernel_rfl) (by kernel_rfl) (fun _ _ _ h => h) (Or.inl ⟨by kernel_rfl, fun wx hS => by go_simp⟩) hS ?_
      refine wpAnyH_take (i := 13) (v := (.bool true)) rfl (by kernel_rfl) (by kernel_rfl) (by kernel_rfl) (fun _ _ _ h => h) (Or.inl ⟨by kernel_rfl, fun wx hS => by go_simp⟩) hS ?_
      refine wpAnyH_take (i := 14) (v := (.bool true)) rfl (by kernel_rfl) (by kernel_rfl) (by kernel_rfl) (fun _ _ _ h => h) (Or.inl ⟨by kernel_rfl, fun wx hS => by go_simp⟩) hS ?_
      refine wpAnyH_take (i := 15) (v := (.bool false)) rfl (by kernel_rfl) (by kernel_rfl) (by kernel_rfl) (fun _ _ _ h => h) (Or.inl ⟨by kernel_rfl, fun wx hS => by go_simp⟩) hS ?_
      refine wpAnyH_take (i := 16) (v := (.bool false)) rfl (by kernel_rfl) (by kernel_rfl) (by kernel_rfl) (fun _ _ _ h => h) (Or.inl ⟨by kernel_rfl, fun wx hS => by go_simp⟩) hS ?_
      refine wpAnyH_take (i := 17) (v := (.agg #[.int .i64 o.id, .int .i64 o.own, .int .i64 o.pr, .int .i64 o.am, .int .i64 o.pl, .bool o.by])) rfl (by kernel_rfl) (by kernel_rfl) (by kernel_rfl) (fun _ _ _ h => h) (Or.inl ⟨by kernel_rfl, fun wx hS => by have t0 := (HX4.out wx hS).cell (o := 0) rfl; have t1 := (HX4.out wx hS).cell (o := 1) rfl; have t2 := (HX4.out wx hS).cell (o := 2) rfl; have t3 := (HX4.out wx hS).cell (o := 3) rfl; have t4 := (HX4.out wx hS).cell (o := 4) rfl; have t5 := (HX4.out wx hS).cell (o := 5) rfl; go_simp⟩) hS ?_
      refine wpAnyH_take (i := 18) (v := (.pointer (some ⟨w.heap.size, 0, none⟩))) rfl (by kernel_rfl) (by kernel_rfl) (by kernel_rfl) (fun _ _ _ h => h) (Or.inl ⟨by kernel_rfl, fun wx hS => by go_simp⟩) hS ?_
      refine wpAnyH_take (i := 19) (v := (.slice (some ⟨g, off, none⟩) B.os.length lc)) rfl (by kernel_rfl) (by kernel_rfl) (by kernel_rfl) (fun _ _ _ h => h) (Or.inl ⟨by kernel_rfl, fun wx hS => by have t0 := HY0.out wx (Below.trans HB4.out (hS.mono (Below.size HB4.out))); go_simp⟩) hS ?_
      refine wpAnyH_take (i := 20) (v := (.int .i64 i)) rfl (by kernel_rfl) (by kernel_rfl) (by kernel_rfl) (fun _ _ _ h => h) (Or.inl ⟨by kernel_rfl, fun wx hS => by go_simp⟩) hS ?_
      refine wpAnyH_take (i := 21) (v := (.pointer (some ⟨g, off + i * 6, none⟩))) rfl (by kernel_rfl) (by kernel_rfl) (by kernel_rfl) (fun _ _ _ h => h) (Or.inl ⟨by kernel_rfl, fun wx hS => by go_simp⟩) hS ?_
      refine wpAnyH_take (i := 22) (v := (.agg #[.int .i64 o.id, .int .i64 o.own, .int .i64 o.pr, .int .i64 o.am, .int .i64 o.pl, .bool o.by])) rfl (by kernel_rfl) (by kernel_rfl) (by kernel_rfl) (fun _ _ _ h => h) (Or.inl ⟨by kernel_rfl, fun wx hS => by have t0 := (HM.out wx (Below.trans HB4.out (hS.mono (Below.size HB4.out)))).1; have t1 := (HM.out wx (Below.trans HB4.out (hS.mono (Below.size HB4.out)))).2.1; have t2 := (HM.out wx (Below.trans HB4.out (hS.mono (Below.size HB4.out)))).2.2.1; have t3 := (HM.out wx (Below.trans HB4.out (hS.mono (Below.size HB4.out)))).2.2.2.1; have t4 := (HM.out wx (Below.trans HB4.out (hS.mono (Below.size HB4.out)))).2.2.2.2.1; have t5 := (HM.out wx (Below.trans HB4.out (hS.mono (Below.size HB4.out)))).2.2.2.2.2; go_simp⟩) hS ?_
      refine wpAnyH_take (i := 23) (v := (.bool false)) rfl (by kernel_rfl) (by kernel_rfl) (by kernel_rfl) (fun _ _ _ h => h) (Or.inl ⟨by kernel_rfl, fun wx hS => by have t0 := HNE.out wx o; go_simp⟩) hS ?_
      refine wpAnyH_take (i := 24) (v := (.bool false)) rfl (by kernel_rfl) (by kernel_rfl) (by kernel_rfl) (fun _ _ _ h => h) (Or.inl ⟨by kernel_rfl, fun wx hS => by go_simp⟩) hS ?_
      refine wpAnyH_take (i := 25) (v := (.bool false)) rfl (by kernel_rfl) (by kernel_rfl) (by kernel_rfl) (fun _ _ _ h => h) (Or.inl ⟨by kernel_rfl, fun wx hS => by go_simp⟩) hS ?_
      refine wpAnyH_take (i := 26) (v := (.bool false)) rfl (by kernel_rfl) (by kernel_rfl) (by kernel_rfl) (fun _ _ _ h => h) (Or.inl ⟨by rfl, fun wx hS => by go_simp⟩) hS ?_
      refine wpAnyH_done (by kernel_rfl) ?_ _
      go_simp
      rename_i J9 K9 aJ aK
      refine aK _ _ ?_
      go_meet
      exact ⟨rfl, hS⟩
    case rest =>
      obtain ⟨rfl, hcb⟩ := hcut
      have HB5 : Hid (Below W1.heap.size W1 wc) := Below.trans HB4.out (hcb.mono (Below.size HB4.out))
      clear hcb
      go_wp2_with fail
      refine wp_region_held_drew (S := (fun wx => Below W1.heap.size W1 wx)) (by kernel_rfl) (Below.drew HB5.out) (fun hS => ?_)
      refine wpAnyH_take (i := 0) (v := (.pointer (some ⟨p, 0, none⟩))) rfl (by kernel_rfl) (by kernel_rfl) (by kernel_rfl) (fun _ _ _ h => h) (Or.inl ⟨by rfl, fun wx hS => by go_simp⟩) hS ?_
      refine wpAnyH_take (i := 2) (v := (.pointer (some ⟨w.heap.size, 0, none⟩))) rfl (by kernel_rfl) (by kernel_rfl) (by kernel_rfl) (fun _ _ _ h => h) (Or.inl ⟨by rfl, fun wx hS => by go_simp⟩) hS ?_
      refine wpAnyH_take (i := 3) (v := (.slice (some ⟨g, off, none⟩) B.os.length lc)) rfl (by kernel_rfl) (by kernel_rfl) (by kernel_rfl) (fun _ _ _ h => h) (Or.inl ⟨by rfl, fun wx hS => by have s0 := HY0.out wx hS; go_simp⟩) hS ?_
      refine wpAnyH_ready (rs := [1]) (by kernel_rfl) (by simp) ?_
      refine AllReadyH.cons rfl (fun K hK => ?_) AllReadyH.nil
      go_simp
      refine Calls.mono (HOR.out _ hS) ?_
      rintro e1 q1 ⟨vo, rfl, own1, bq⟩
      have HO1 : Hid _ := own1
      refine hK.out _ _ (hS.trans (bq.mono hS.size)) (fun hS => ?_)
      clear hK bq own1
      refine wpAnyH_ready (rs := [4]) (by kernel_rfl) (by simp) ?_
      refine AllReadyH.cons rfl (fun K hK => ?_) AllReadyH.nil
      go_simp
      refine Calls.mono (HSM.out _ vo hS (ods_own HO1.out)) ?_
      rintro e4 q4 ⟨rfl, bq⟩
      refine hK.out _ _ (hS.trans (bq.mono hS.size)) (fun hS => ?_)
      clear hK bq
      refine wpAnyH_take (i := 5) (v := (.bool true)) rfl (by kernel_rfl) (by kernel_rfl) (by kernel_rfl) (fun _ _ _ h => h) (Or.inl ⟨by rfl, fun wx hS => by go_simp⟩) hS ?_
      refine wpAnyH_take (i := 6) (v := (.pointer (some ⟨p, 0, none⟩))) rfl (by kernel_rfl) (by kernel_rfl) (by kernel_rfl) (fun _ _ _ h => h) (Or.inl ⟨by kernel_rfl, fun wx hS => by go_simp⟩) hS ?_
      refine wpAnyH_take (i := 8) (v := (.agg #[.slice (some ⟨g, off, none⟩) B.os.length lc, .int .i64 B.nx])) rfl (by kernel_rfl) (by kernel_rfl) (by kernel_rfl) (fun _ _ _ h => h) (Or.inl ⟨by kernel_rfl, fun wx hS => by have t0 := HY0.out wx hS; have t1 := HY1.out wx hS; go_simp⟩) hS ?_
      refine wpAnyH_ready (rs := [7]) (by kernel_rfl) (by simp) ?_
      refine readyH_callK (i := 7) rfl (by kernel_rfl) (fun K hK => ?_)
      go_simp
      refine Calls.mono (HBY.out _ hS) ?_
      rintro e7 q7 ⟨rfl, bq⟩
      refine hK.out _ _ (hS.trans (bq.mono hS.size)) (fun hS => ?_)
      clear hK
      refine wpAnyH_ready (rs := [9]) (by kernel_rfl) (by simp) ?_
      refine readyH_callK (i := 9) rfl (by kernel_rfl) (fun K hK => ?_)
      go_simp
      refine Calls.mono (HRB.out _ hS) ?_
      rintro e9 q9 ⟨rfl, bq⟩
      refine hK.out _ _ (hS.trans (bq.mono hS.size)) (fun hS => ?_)
      clear hK
      refine wpAnyH_take (i := 10) (v := (.bool true)) rfl (by kernel_rfl) (by kernel_rfl) (by kernel_rfl) (fun _ _ _ h => h) (Or.inl ⟨by kernel_rfl, fun wx hS => by go_simp⟩) hS ?_
      refine wpAnyH_take (i := 11) (v := (.bool true)) rfl (by kernel_rfl) (by kernel_rfl) (by kernel_rfl) (fun _ _ _ h => h) (Or.inl ⟨by rfl, fun wx hS => by go_simp⟩) hS ?_
      refine wpAnyH_ready (rs := [12]) (by kernel_rfl) (by simp) ?_
      refine AllReadyH.cons rfl (fun K hK => ?_) AllReadyH.nil
      go_simp
      refine hK.out _ _ hS (fun hS => ?_)
      clear hK
      refine wpAnyH_done (by kernel_rfl) ?_ _
      go_wp2
      go_ret
      exact ⟨rfl, Below.trans HB1.out (hS.mono (Below.size HB1.out))⟩
end Go.Proofs.Ytglbfeccdibmiaa
