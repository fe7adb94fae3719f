/- Clear. -/
import Derived.Test.YtpekfpfhonechaaGreatWa23
import Derived.Test.YtpekfpfhonechaaGreatWa14
namespace Go.Proofs.YtpekfpfhonechaaGreat.Cal
open Go.Shelf Go.RowKit Go.Lib Go.Sort
set_option linter.unusedSimpArgs false
set_option linter.unusedVariables false
variable {base p : Nat} {v : Value} {B : Bo}

theorem own_setAt {w : World} {n z g q cap : Nat} {t : TypeId} {u : Value} {xs : List Value} (h : w.ownsRow base t z (.slice (some ⟨g, 0, none⟩) n cap) n xs) (hq : q < n * z) : (w.setCell ⟨g, q, none⟩ u).ownsRow base t z (.slice (some ⟨g, 0, none⟩) n cap) n (xs.set q u) := by
  refine ⟨by rw [List.length_set]; exact h.1, ?_⟩
  rcases h.2 with ⟨h1, _⟩ | ⟨g', cap', cur, h1, hb, hB, hnc, hcm, hcs, ht⟩
  · cases h1
  · injection h1 with h1 h2 h3
    injection h1 with h1
    injection h1 with h1
    subst h1 h3
    refine Or.inr ⟨g, cap, cur.setIfInBounds q u, rfl, hb, heap_setCell_same w g q cur t u hB, hnc, hcm, by simpa using hcs, ?_⟩
    rw [Array.toList_setIfInBounds, List.take_set, ht]
theorem odL_setAm : ∀ {X : List Od} {i : Nat} {o : Od} {m : Int}, X[i]? = some o → (odL X).set (i * 6 + 3) (.int .i64 m) = odL (X.set i (o.setAm m))
  | x :: X, 0, o, m, h => by
    have e : x = o := by simpa using h
    subst e
    rw [odL_cons, List.set_cons_zero, odL_cons, List.set_append_left _ _ (by rw [oC_len]; omega)]
    rfl
  | x :: X, i + 1, o, m, h => by
    have h' : X[i]? = some o := by simpa using h
    rw [odL_cons, List.set_cons_succ, odL_cons, List.set_append_right _ _ (by rw [oC_len]; omega), oC_len, show (i + 1) * 6 + 3 - 6 = i * 6 + 3 by omega, odL_setAm h']
theorem Ofb.cell {w w' : World} (h : Ofb p v w w') {a : Addr} {u : Value} (hu : w.cell? a = some u) (h1 : a.block ≠ p) (h2 : v.ownBlock ≠ some a.block) : w'.cell? a = some u :=
  (World.cell?_of_block (h.block a.block (World.block_lt_of_cell? w _ hu) h1 h2)).trans hu
set_option maxHeartbeats 1000000 in
set_option maxRecDepth 100000 in
/-- find, of a book whose amounts may be anything. -/
theorem findR_calls (x nx : Int) (l : List Od) (w : World) (hb : Blk w p #[.int .i64 nx, v] 103) (hl : Ods w v l) (hn : l.length ≤ 64) : Calls Tryz.prog 111 #[.pointer (some ⟨p, 0, none⟩), .int .i64 x] w fun e w' => e = .returned (.int .i64 (fnd l x)) ∧ Below w.heap.size w w' := by
  have e1 : ∀ args w, (callFunc 131 args).run Tryz.prog w = .ok (.enter 131 args) w := by intro args w; kernel_rfl
  obtain ⟨W0, hW0, X0, B0, Z0⟩ : ∃ W0, (w.alloc (.cells #[.int .i64 x] 3)) = W0 ∧ Blk W0 w.heap.size #[.int .i64 x] 3 ∧ Below w.heap.size w W0 ∧ W0.heap.size = w.heap.size + 1 :=
    ⟨_, rfl, blk_new _ _ _ _ rfl, by go_grown, by simp⟩
  have c0 : W0.cell? ⟨p, 1, none⟩ = some v := (hb.below B0).cell rfl
  have hcx : W0.cell? ⟨w.heap.size, 0, none⟩ = some (.int .i64 x) := X0.cell rfl
  have HC : Hid _ := indexFunc_calls (fun o => o.id == x) 131 #[.pointer (some ⟨w.heap.size, 0, none⟩)] v l W0 e1 (hl.below B0) (by omega) (fun o wx hb => (find1_calls o x w.heap.size wx ((hb.cell (p := ⟨w.heap.size, 0, none⟩) X0.lt).trans hcx)).mono fun _ _ k => ⟨k.1, k.2.below⟩)
  obtain ⟨pp, cap, rfl, hc⟩ := hl
  clear e1 hb hcx X0 hc
  go_enter Tryz.func111, Tryz.ntmps111
  go_wp2_with fail
  refine Calls.mono HC.out ?_
  rintro e w1 ⟨rfl, b1⟩
  go_wp2
  go_ret
  exact ⟨rfl, B0.trans (b1.mono (by omega))⟩
theorem crs_amt (l : List Od) : 0 ≤ (crs l).2 ∧ (crs l).2 ≤ 67108864 := by
  have := crs_bd (jdg l) (jd_jdg l) (jdg l).length
  rw [List.take_length] at this
  exact this
theorem foldl_ids (fs : List Fi) : ∀ l : List Od, (fs.foldl lessAt l).map Od.id = l.map Od.id := by
  induction fs with
  | nil => intro l; rfl
  | cons f fs ih => intro l; rw [List.foldl_cons, ih, less_ids]
set_option maxRecDepth 100000 in
theorem clear1_calls (o : Od) (w : World) : Calls Tryz.prog 119 #[.agg (oC o).toArray] w fun e w' => e = .returned (.bool (o.am == 0)) ∧ Gr w w' := by
  unfold oC
  generalize o.id = x1 at *
  generalize o.own = x2 at *
  generalize o.pr = x3 at *
  generalize o.am = x4 at *
  generalize o.pl = x5 at *
  generalize o.by = x6 at *
  go_enter Tryz.func119, Tryz.ntmps119
  go_wp2
  go_ret
  exact ⟨rfl, (Gr.refl _).alloc _⟩

set_option maxHeartbeats 16000000 in
set_option maxRecDepth 100000 in
theorem clear_calls (w : World) (h : Bk w base p v B) (hB : base ≤ w.heap.size) :
    Calls Tryz.prog 90 #[.pointer (some ⟨p, 0, none⟩)] w fun e w' => ∃ vF v', e = .returned (.tuple #[.int .i64 (crs B.os).1, .int .i64 (crs B.os).2, vF]) ∧ w'.ownsRow w.heap.size 163 3 vF B.fl.length (fiL B.fl) ∧ Bst w w' base p v v' B.clr := by
  have hm := made_calls w h
  have HH : Hid _ := h
  have hlen := h.inv.len
  have hca := crs_amt B.os
  have hpl := h.blk.lt
  have c0 : w.cell? ⟨p, 1, none⟩ = some v := h.blk.cell rfl
  have HC : Hid _ := cross_calls v B.os w h.ods (by omega)
  have HF : Hid _ := fun (w1 : World) (b1 : Below w.heap.size w w1) => fills_calls v B.os (crs B.os).1 (crs B.os).2 w1 ((h.below b1).ods) (by omega) (by omega)
  have HFL : Hid (fills B.os (crs B.os).1 (crs B.os).2 = B.fl) := rfl
  rw [HFL.out] at HF
  obtain ⟨oc, ocap, rfl⟩ := own_form h.row
  generalize hcp : (crs B.os).1 = cp at *
  generalize hcn : (crs B.os).2 = cn at *
  clear h
  go_enter Tryz.func90, Tryz.ntmps90
  go_wp2_with fail
  refine hm.mono ?_
  rintro e w0 ⟨rfl, rfl⟩
  go_wp2_with fail
  refine Calls.mono HC.out ?_
  rintro e w1 ⟨rfl, b1⟩
  have c1 : w1.cell? ⟨p, 1, none⟩ = some (.slice oc B.os.length ocap) := (HH.out.below b1).blk.cell rfl
  go_wp2_with fail
  refine Calls.mono (HF.out w1 b1) ?_
  rintro e w2 ⟨vF, rfl, own2, b2⟩
  have B2 : Below w0.heap.size w0 w2 := b1.trans (b2.mono b1.size)
  have z1 := b1.size
  have z2 := b2.size
  have HB2 : Hid _ := HH.out.below B2
  have HO2 : Hid _ := own2
  have hFl : B.fl.length ≤ 128 := by
    have h1 : B.fl.length = (B.fl.map fun f => f.1).length := by simp
    unfold Bo.fl fills
    rw [List.length_append]
    have a1 := fll_len (stab (fun a b => decide (cfB a b < 0)) ((jdg B.os).filter (bAt (crs B.os).1))) (crs B.os).2
    have a2 := fll_len (stab (fun a b => decide (cfS a b < 0)) ((jdg B.os).filter (sAt (crs B.os).1))) (crs B.os).2
    rw [stab_len] at a1 a2
    have a3 := ((jd_jdg B.os).filter (bAt (crs B.os).1)).1
    have a4 := ((jd_jdg B.os).filter (sAt (crs B.os).1)).1
    omega
  obtain ⟨fc, fcap, rfl⟩ := own_form own2
  have HNE : Hid (∀ q, (Value.slice fc B.fl.length fcap).ownBlock = some q → w1.heap.size ≤ q ∧ q < w2.heap.size) := fun q hq => own2.lt q hq
  have HRW : Hid (∀ q, (Value.slice oc B.os.length ocap).ownBlock = some q → q < w0.heap.size) := fun q hq => (HH.out.row.lt q hq).2
  clear own2 HC HF hm
  go_wp2
  go_loopw [27] (fun i wr => ∃ k : Nat, k ≤ B.fl.length ∧ i = .int .i64 k ∧ Hid (wr.ownsRow base 51 6 (.slice oc B.os.length ocap) B.os.length (odL ((B.fl.take k).foldl lessAt B.os))) ∧ Hid (Blk wr p #[.int .i64 B.nx, .slice oc B.os.length ocap] 103) ∧ Ofb p (.slice oc B.os.length ocap) w2 wr) (fun i _ => B.fl.length - (intOf i).toNat)
  case atStart => exact ⟨0, Nat.zero_le _, rfl, HB2.out.row, HB2.out.blk, Ofb.refl _ _ _⟩
  case round =>
    obtain ⟨k, hk, rfl, HR, HBL, ofr⟩ := hrel
    have zr := ofr.size
    by_cases hlt : k < B.fl.length
    · have hd : decide ((k : Int) < B.fl.length) = true := by simp only [decide_eq_true_eq]; omega
      obtain ⟨f, hf⟩ : ∃ f, B.fl[k]? = some f := ⟨B.fl[k], by simp [hlt]⟩
      have hfm := List.mem_of_getElem? hf
      obtain ⟨o0, ho0, hid0, -, -, -⟩ := fills_mem HH.out.inv (p := (crs B.os).1) (n := (crs B.os).2) (f := f) hfm
      obtain ⟨gF, hgF⟩ : ∃ gF, fc = some ⟨gF, 0, none⟩ := by
        rcases HO2.out.2 with ⟨h1, h2⟩ | ⟨g, cap, cur, h1, _⟩
        · exfalso; omega
        · injection h1 with h1 _ _; exact ⟨g, h1⟩
      subst hgF
      obtain ⟨r, hr⟩ : ∃ r, oc = some ⟨r, 0, none⟩ := by
        rcases HH.out.row.2 with ⟨h1, h2⟩ | ⟨g, cap, cur, h1, _⟩
        · exfalso
          have : B.os = [] := List.eq_nil_of_length_eq_zero h2
          rw [this] at ho0; cases ho0
        · injection h1 with h1 _ _; exact ⟨g, h1⟩
      subst hr
      obtain ⟨cap, hcap⟩ : ∃ cap, cap = ocap := ⟨_, rfl⟩
      subst hcap
      have hgn := HNE.out gF rfl
      have hrn := HRW.out r rfl
      have hrp : r ≠ p := fun e => HH.out.ne (by rw [e]; rfl)
      have cF : ∀ j u, (fC f)[j]? = some u → wr.cell? ⟨gF, k * 3 + j, none⟩ = some u := fun j u hu => by
        have := World.ownsRow.cells (w := w2) HO2.out (g := gF) rfl (k * 3 + j) u (fiL_get _ k j f u hf hu)
        rw [Addr.add_lit, Nat.zero_add] at this
        exact ofr.cell this (by show gF ≠ p; omega) (by simp only [Value.ownBlock]; intro e; injection e with e; have e' : r = gF := e; omega)
      have d0 : wr.cell? ⟨gF, k * 3, none⟩ = some (.int .i64 f.1) := cF 0 _ rfl
      have d1 : wr.cell? ⟨gF, k * 3 + 1, none⟩ = some (.int .i64 f.2.1) := cF 1 _ rfl
      have d2 : wr.cell? ⟨gF, k * 3 + 2, none⟩ = some (.int .i64 f.2.2) := cF 2 _ rfl
      obtain ⟨W1, hW1, XM, BW1, Z1⟩ : ∃ W1, (wr.alloc (.cells #[.int .i64 f.1, .int .i64 f.2.1, .int .i64 f.2.2] 163)) = W1 ∧ Blk W1 wr.heap.size #[.int .i64 f.1, .int .i64 f.2.1, .int .i64 f.2.2] 163 ∧ Below wr.heap.size wr W1 ∧ W1.heap.size = wr.heap.size + 1 :=
        ⟨_, rfl, blk_new _ _ _ _ rfl, by go_grown, by simp⟩
      -- where the order stands
      have hids := foldl_ids (B.fl.take k) B.os
      have hpw : ((B.fl.take k).foldl lessAt B.os).Pairwise fun a b => a.id ≠ b.id := by
        have h1 := HH.out.inv.nodup
        rw [← hids] at h1
        unfold List.Nodup at h1
        rwa [List.pairwise_map] at h1
      have hlo : ((B.fl.take k).foldl lessAt B.os).length = B.os.length := by
        have := congrArg List.length hids
        simpa using this
      obtain ⟨i, o, f1, f2, f3, f4⟩ : ∃ (i : Nat) (o : Od), fnd ((B.fl.take k).foldl lessAt B.os) f.1 = i ∧ ((B.fl.take k).foldl lessAt B.os)[i]? = some o ∧ o.id = f.1 ∧ i < B.os.length := by
        rcases fnd_cases ((B.fl.take k).foldl lessAt B.os) f.1 with ⟨h1, h2⟩ | ⟨i, o, h1, h2, h3, h4⟩
        · exfalso
          have : f.1 ∈ ((B.fl.take k).foldl lessAt B.os).map Od.id := by rw [hids, hid0]; exact List.mem_map.2 ⟨o0, ho0, rfl⟩
          obtain ⟨q, hq, e⟩ := List.mem_map.1 this
          exact h2 q hq e
        · exact ⟨i, o, h1, h2, h3, by rw [← hlo]; exact h4⟩
      have hob : 0 ≤ o.am ∧ o.am ≤ 1048576 := by
        have := List.mem_of_getElem? f2
        rw [less_fold] at this
        obtain ⟨q, hq, e⟩ := List.mem_map.1 this
        have h1 := got_take HH.out.inv (crs B.os).1 (crs B.os).2 k hq
        have h2 := may_am (HH.out.inv.may q hq)
        have h3 : o.am = q.am - got (B.fl.take k) q.id := by rw [← e]; rfl
        have h4 : got (B.fl.take k) q.id = got ((fills B.os (crs B.os).1 (crs B.os).2).take k) q.id := rfl
        omega
      have hfb : 1 ≤ f.2.2 ∧ f.2.2 ≤ 1048576 := by
        obtain ⟨q, hq, _, _, h3, h4⟩ := fills_mem HH.out.inv (p := (crs B.os).1) (n := (crs B.os).2) (f := f) hfm
        have := may_am (HH.out.inv.may q hq)
        omega
      have HST : Hid (((B.fl.take k).foldl lessAt B.os).set i (o.setAm (o.am - f.2.2)) = (B.fl.take (k + 1)).foldl lessAt B.os) := by
        show _ = _
        rw [less_set hpw f2 f f3]
        have hkk := List.getElem?_eq_some_iff.1 hf
        rw [List.take_succ_eq_append_getElem hkk.1, hkk.2, List.foldl_append]
        rfl
      have HOI : Hid (((B.fl.take k).foldl lessAt B.os)[i]? = some o ∧ True) := ⟨f2, trivial⟩
      have HFD : Hid _ := findR_calls f.1 B.nx ((B.fl.take k).foldl lessAt B.os) W1.drew (v := .slice (some ⟨r, 0, none⟩) B.os.length cap) (p := p) (Blk.below HBL.out BW1).drew (by
        have q := ownB (ownB HR.out BW1) (Below.refl W1.heap.size W1).drew
        rw [← hlo] at q ⊢
        exact ods_own q) (by omega)
      rw [f1] at HFD
      have k1 : W1.drew.cell? ⟨p, 1, none⟩ = some (.slice (some ⟨r, 0, none⟩) B.os.length cap) := (Blk.below HBL.out BW1).cell rfl
      have k2 : W1.drew.cell? ⟨wr.heap.size, 0, none⟩ = some (.int .i64 f.1) := XM.cell rfl
      have k3 : W1.drew.cell? ⟨wr.heap.size, 2, none⟩ = some (.int .i64 f.2.2) := XM.cell rfl
      have ZD : W1.drew.heap.size = wr.heap.size + 1 := Z1
      obtain ⟨x3, hx3⟩ : ∃ x3, o.am = x3 := ⟨_, rfl⟩
      rw [hx3] at HST hob
      have HX3 : Hid (o.am = x3) := hx3
      generalize f.1 = f0 at *
      generalize f.2.1 = fo at *
      generalize f.2.2 = f2 at *
      have hi0 : (0 : Int) ≤ (i : Int) := by omega
      have hi1 : (i : Int) < (B.os.length : Int) := by omega
      have hsub : IntKind.i64.wrap (x3 - f2) = x3 - f2 := by rw [IntKind.wrap_i64]; omega
      clear cF hfm hids hpw hlo ho0 hid0 hf f1 f3 XM hx3
      go_wp2_with fail
      refine wp_region_held_drew (S := fun wx => wx.cell? ⟨p, 1, none⟩ = some (.slice (some ⟨r, 0, none⟩) B.os.length cap) ∧ wx.cell? ⟨wr.heap.size, 0, none⟩ = some (.int .i64 f0) ∧ wx.cell? ⟨wr.heap.size, 2, none⟩ = some (.int .i64 f2)) (by kernel_rfl) ⟨k1, k2, k3⟩ (fun hS => ?_)
      refine tkH (i := 0) (v := (.pointer (some ⟨p, 0, none⟩))) rfl (fun w hS => by obtain ⟨s0, s1, s2⟩ := hS; go_simp) hS ?_
      refine tkH (i := 1) (v := (.pointer (some ⟨p, 0, none⟩))) rfl (fun w hS => by obtain ⟨s0, s1, s2⟩ := hS; go_simp) hS ?_
      refine tkH (i := 2) (v := (.pointer (some ⟨p, 1, none⟩))) rfl (fun w hS => by obtain ⟨s0, s1, s2⟩ := hS; go_simp) hS ?_
      refine tkH (i := 3) (v := (.slice (some ⟨r, 0, none⟩) B.os.length cap)) rfl (fun w hS => by obtain ⟨s0, s1, s2⟩ := hS; go_simp) hS ?_
      refine tkH (i := 4) (v := (.pointer (some ⟨p, 0, none⟩))) rfl (fun w hS => by obtain ⟨s0, s1, s2⟩ := hS; go_simp) hS ?_
      refine tkH (i := 5) (v := (.pointer (some ⟨wr.heap.size, 0, none⟩))) rfl (fun w hS => by obtain ⟨s0, s1, s2⟩ := hS; go_simp) hS ?_
      refine tkH (i := 6) (v := (.int .i64 f0)) rfl (fun w hS => by obtain ⟨s0, s1, s2⟩ := hS; go_simp) hS ?_
      refine tkH (i := 11) (v := (.pointer (some ⟨wr.heap.size, 2, none⟩))) rfl (fun w hS => by obtain ⟨s0, s1, s2⟩ := hS; go_simp) hS ?_
      refine tkH (i := 12) (v := (.int .i64 f2)) rfl (fun w hS => by obtain ⟨s0, s1, s2⟩ := hS; go_simp) hS ?_
      refine wpAnyH_ready (rs := [7]) (by kernel_rfl) (by simp) ?_
      refine AllReadyH.cons rfl (fun K hK => ?_) AllReadyH.nil
      go_simp
      refine Calls.mono HFD.out ?_
      rintro e w3 ⟨rfl, b3⟩
      go_simp
      have s1 := (b3.cell (p := ⟨p, 1, none⟩) (World.block_lt_of_cell? _ _ hS.1)).trans hS.1
      have s2 := (b3.cell (p := ⟨wr.heap.size, 0, none⟩) (World.block_lt_of_cell? _ _ hS.2.1)).trans hS.2.1
      have s3 := (b3.cell (p := ⟨wr.heap.size, 2, none⟩) (World.block_lt_of_cell? _ _ hS.2.2)).trans hS.2.2
      refine hK.out _ _ ⟨s1, s2, s3⟩ (fun hS => ?_)
      clear hK
      have B3 : Below wr.heap.size wr w3 := BW1.drew.trans (b3.mono (by show wr.heap.size ≤ W1.heap.size; omega))
      have own3 := ownB HR.out B3
      have e3 : w3.cell? ⟨r, i * 6 + 3, none⟩ = some (.int .i64 x3) := by
        have := World.ownsRow.cells (w := w3) own3 (g := r) rfl (i * 6 + 3) (.int .i64 x3) (odL_get _ i 3 o _ HOI.out.1 (by rw [← HX3.out]; rfl))
        rwa [Addr.add_lit, Nat.zero_add] at this
      have fr3 : w3.frozen? ⟨r, i * 6 + 3, none⟩ = false := by
        rcases own3.2 with ⟨q1, _⟩ | ⟨q1, q2, q3, q4, q5, q6, _⟩
        · cases q1
        · injection q4 with q4 _ _
          injection q4 with q4
          injection q4 with q4
          rw [q4]
          exact frozen_of_row w3 q1 _ q3 _ q6
      have W4F : Hid ((w3.setCell ⟨r, i * 6 + 3, none⟩ (.int .i64 (x3 - f2))).ownsRow base 51 6 (.slice (some ⟨r, 0, none⟩) B.os.length cap) B.os.length (odL ((B.fl.take (k + 1)).foldl lessAt B.os))) := by
        have q := own_setAt (u := .int .i64 (x3 - f2)) (q := i * 6 + 3) own3 (by omega)
        rw [odL_setAm HOI.out.1] at q
        have q2 := HST.out
        show World.ownsRow _ _ _ _ _ _ _
        rw [← q2]
        exact q
      have P4 : Hid (Blk (w3.setCell ⟨r, i * 6 + 3, none⟩ (.int .i64 (x3 - f2))) p #[.int .i64 B.nx, .slice (some ⟨r, 0, none⟩) B.os.length cap] 103) := (Blk.below HBL.out B3).setOther (p := ⟨r, i * 6 + 3, none⟩) (fun e => hrp e.symm) _
      have O4 : Hid (Ofb p (.slice (some ⟨r, 0, none⟩) B.os.length cap) w2 (w3.setCell ⟨r, i * 6 + 3, none⟩ (.int .i64 (x3 - f2)))) := ofb_cell (ofr.trans (fun q hq => Or.inl hq) (Ofb.of_below B3)) (q := ⟨r, i * 6 + 3, none⟩) (Or.inr (Or.inl rfl)) _
      clear own3
      refine tkH (i := 8) (v := (.pointer (some ⟨r, i * 6, none⟩))) rfl (fun w hS => by obtain ⟨s0, s1, s2⟩ := hS; go_simp) hS ?_
      refine tkH (i := 9) (v := (.pointer (some ⟨r, i * 6 + 3, none⟩))) rfl (fun w hS => by obtain ⟨s0, s1, s2⟩ := hS; go_simp) hS ?_
      refine wpAnyH_ready (rs := [10]) (by kernel_rfl) (by simp) ?_
      refine AllReadyH.cons rfl (fun K hK => ?_) AllReadyH.nil
      go_simp
      refine hK.out _ _ hS (fun hS => ?_)
      clear hK
      refine tkH (i := 13) (v := (.int .i64 (x3 - f2))) rfl (fun w hS => by obtain ⟨s0, s1, s2⟩ := hS; go_simp) hS ?_
      refine tkH (i := 14) (v := (.pointer (some ⟨r, i * 6, none⟩))) rfl (fun w hS => by obtain ⟨s0, s1, s2⟩ := hS; go_simp) hS ?_
      refine tkH (i := 15) (v := (.pointer (some ⟨r, i * 6 + 3, none⟩))) rfl (fun w hS => by obtain ⟨s0, s1, s2⟩ := hS; go_simp) hS ?_
      refine wpAnyH_ready (rs := [16]) (by kernel_rfl) (by simp) ?_
      refine AllReadyH.cons rfl (fun K hK => ?_) AllReadyH.nil
      go_simp
      refine hK.out _ _ ⟨(World.cell?_of_block (Below.heap_setCell _ _ _ _ (by show p ≠ r; omega))).trans hS.1, (World.cell?_of_block (Below.heap_setCell _ _ _ _ (by show wr.heap.size ≠ r; omega))).trans hS.2.1, (World.cell?_of_block (Below.heap_setCell _ _ _ _ (by show wr.heap.size ≠ r; omega))).trans hS.2.2⟩ (fun hS => ?_)
      clear hK
      refine wpAnyH_done (by kernel_rfl) ?_ _
      go_wp2
      exact ⟨⟨k + 1, by omega, by go_num, W4F.out, P4.out, O4.out⟩, by simp [intOf]; omega⟩
    · have hd : decide ((k : Int) < B.fl.length) = false := by simp only [decide_eq_false_iff_not]; omega
      have htk : B.fl.take k = B.fl := List.take_of_length_le (by omega)
      rw [htk] at HR
      have hids := foldl_ids B.fl B.os
      have hlo : (B.fl.foldl lessAt B.os).length = B.os.length := by
        have := congrArg List.length hids
        simpa using this
      have e1 : ∀ args w, (callFunc 119 args).run Tryz.prog w = .ok (.enter 119 args) w := by intro args w; kernel_rfl
      have HD : Hid _ := delFunc_calls (fun o => o.am == 0) 119 #[] base (.slice oc B.os.length ocap) (B.fl.foldl lessAt B.os) wr e1 (by rw [hlo]; exact HR.out) (by omega) (by omega) (fun o wx => (clear1_calls o wx).mono fun _ _ q => ⟨q.1, q.2.below⟩)
      have c5 : wr.cell? ⟨p, 1, none⟩ = some (.slice oc B.os.length ocap) := Blk.cell (w := wr) HBL.out rfl
      clear e1 hids hlo
      go_wp2_with fail
      refine Calls.mono HD.out ?_
      rintro e w4 ⟨v4, rfl, own4, ob4, hno4, hof4⟩
      obtain ⟨c4, cp4, rfl⟩ := own_form own4
      have O4 : Ofb p (.slice oc B.os.length ocap) wr w4 := by
        cases hv : (Value.slice oc B.os.length ocap).ownBlock with
        | none => exact Ofb.of_below (hno4 hv)
        | some q =>
          have ho := hof4 q hv
          exact ⟨ho.os, ho.tape, ho.output, ho.size, fun j hj h1 h2 => ho.block j hj (fun e => h2 (by rw [hv, e]))⟩
      have P4 : Blk w4 p #[.int .i64 B.nx, .slice oc B.os.length ocap] 103 := by
        cases hv : (Value.slice oc B.os.length ocap).ownBlock with
        | none => exact Blk.below HBL.out (hno4 hv)
        | some q => exact Blk.off HBL.out (hof4 q hv) (fun e => HH.out.ne (by rw [hv, e]))
      have c6 : w4.cell? ⟨p, 1, none⟩ = some (.slice oc B.os.length ocap) := P4.cell rfl
      have f6 : w4.frozen? ⟨p, 1, none⟩ = false := P4.frozen
      have HO5 : Hid (Ofb p (.slice oc B.os.length ocap) w2 (w4.setCell ⟨p, 1, none⟩ (.slice c4 ((B.fl.foldl lessAt B.os).filter fun o => !(o.am == 0)).length cp4))) := ofb_cell (ofr.trans (fun q hq => Or.inl hq) O4) (q := ⟨p, 1, none⟩) (Or.inl rfl) _
      have HF : Hid (Bst w2 (w4.setCell ⟨p, 1, none⟩ (.slice c4 ((B.fl.foldl lessAt B.os).filter fun o => !(o.am == 0)).length cp4)) base p (.slice oc B.os.length ocap) (.slice c4 ((B.fl.foldl lessAt B.os).filter fun o => !(o.am == 0)).length cp4) B.clr) := by
        refine ⟨⟨P4.set 1 _, ?_, HH.out.le, by rw [ob4]; exact HH.out.ne, HH.out.inv.clr⟩, HO5.out, fun q hq => Or.inl (by rw [← ob4]; exact hq)⟩
        exact own4.kept (row := some p) ⟨rfl, rfl, rfl, by rw [World.size_setCell]; exact Nat.le_refl _, fun j hj hjp => Below.heap_setCell _ _ _ _ (by intro e; exact hjp (by rw [e]))⟩ (Or.inr (by rw [ob4]; exact HH.out.ne))
      have HOF : Hid ((w4.setCell ⟨p, 1, none⟩ (.slice c4 ((B.fl.foldl lessAt B.os).filter fun o => !(o.am == 0)).length cp4)).ownsRow w0.heap.size 163 3 (.slice fc B.fl.length fcap) B.fl.length (fiL B.fl)) := by
        refine own_base (b := w1.heap.size) ?_ z1
        refine ⟨HO2.out.1, ?_⟩
        rcases HO2.out.2 with q1 | ⟨g, cap, cur, q1, q2, q3, q4⟩
        · exact Or.inl q1
        · refine Or.inr ⟨g, cap, cur, q1, q2, ?_, q4⟩
          have hgn := HNE.out g (by rw [q1]; rfl)
          exact (HO5.out.block g hgn.2 (by omega) (fun e => by have := HRW.out g e; omega)).trans q3
      clear own4 ob4 hno4 hof4 O4 P4
      go_wp2
      refine bodyPost_ret (v := .tuple #[.int .i64 cp, .int .i64 cn, .slice fc B.fl.length fcap]) (by simp [results, Tryz.results90, go_sem]) rfl ?_
      exact ⟨_, _, rfl, HOF.out, Bst.first B2 HF.out⟩
end Go.Proofs.YtpekfpfhonechaaGreat.Cal

namespace Go.Proofs.YtpekfpfhonechaaGreat.Cal
open Go.Sort
set_option linter.unusedSimpArgs false
set_option linter.unusedVariables false

theorem fl_len (B : Bo) : B.fl.length ≤ 128 := by
  unfold Bo.fl fills
  rw [List.length_append]
  have a1 := fll_len (stab (fun a b => decide (cfB a b < 0)) ((jdg B.os).filter (bAt (crs B.os).1))) (crs B.os).2
  have a2 := fll_len (stab (fun a b => decide (cfS a b < 0)) ((jdg B.os).filter (sAt (crs B.os).1))) (crs B.os).2
  rw [stab_len] at a1 a2
  have a3 := ((jd_jdg B.os).filter (bAt (crs B.os).1)).1
  have a4 := ((jd_jdg B.os).filter (sAt (crs B.os).1)).1
  omega
end Go.Proofs.YtpekfpfhonechaaGreat.Cal

namespace Go.Proofs.YtpekfpfhonechaaGreat.Cal
open Go.Sort
set_option linter.unusedSimpArgs false
set_option linter.unusedVariables false

/-- A price and an amount that are the best of some of the orders. -/
def Best (J t : List Od) (s : Int × Int) : Prop :=
  (s = (0, 0) ∧ ∀ o ∈ t, trd J o.pr = 0) ∨ (∃ o ∈ t, s = (o.pr, trd J o.pr) ∧ 0 < s.2 ∧ ∀ q ∈ t, trd J q.pr ≤ s.2 ∧ (trd J q.pr = s.2 → s.1 ≤ q.pr))
theorem amt_nn (l : List Od) (h : ∀ o ∈ l, 1 ≤ o.am) : 0 ≤ amt l := by
  induction l with
  | nil => simp [amt]
  | cons o l ih =>
    have h1 := h o (List.mem_cons_self ..)
    have h2 := ih (fun x hx => h x (List.mem_cons_of_mem _ hx))
    simp only [amt]; omega
theorem may_am1 {o : Od} (h : mayB o = true) : 1 ≤ o.am := by
  unfold mayB at h
  simp only [Bool.and_eq_true, decide_eq_true_eq] at h
  exact h.2.1
theorem may_pr {o : Od} (h : mayB o = true) : 0 ≤ o.pr := by
  unfold mayB at h
  simp only [Bool.and_eq_true, decide_eq_true_eq] at h
  exact h.1.2.1
theorem trd_nn {J : List Od} (h : ∀ o ∈ J, mayB o = true) (x : Int) : 0 ≤ trd J x := by
  have h1 := amt_nn (J.filter (bAt x)) (fun o ho => may_am1 (h o (List.mem_filter.1 ho).1))
  have h2 := amt_nn (J.filter (sAt x)) (fun o ho => may_am1 (h o (List.mem_filter.1 ho).1))
  unfold trd
  omega
theorem best_step {J t : List Od} (h : ∀ o ∈ J, mayB o = true) {s : Int × Int} (hb : Best J t s) {o : Od} (ho : o ∈ J) : Best J (t ++ [o]) (crS J s o) := by
  have hn := trd_nn h o.pr
  have hp := may_pr (h o ho)
  unfold crS
  rcases hb with ⟨rfl, h0⟩ | ⟨q, hq, hs, hpos, hall⟩
  · by_cases hc : (0 : Int) < trd J o.pr ∨ (trd J o.pr = 0 ∧ o.pr < 0)
    · have hc' : (0 : Int) < trd J o.pr := by omega
      rw [if_pos (Or.inl hc')]
      refine Or.inr ⟨o, by simp, rfl, hc', fun y hy => ?_⟩
      rcases List.mem_append.1 hy with e | e
      · have := h0 y e
        exact ⟨by show trd J y.pr ≤ trd J o.pr; omega, fun k => by have k' : trd J y.pr = trd J o.pr := k; omega⟩
      · rw [List.mem_singleton.1 e]; exact ⟨Int.le_refl _, fun _ => Int.le_refl _⟩
    · rw [if_neg hc]
      refine Or.inl ⟨rfl, fun y hy => ?_⟩
      rcases List.mem_append.1 hy with e | e
      · exact h0 y e
      · rw [List.mem_singleton.1 e]; omega
  · obtain ⟨sp, sn⟩ := s
    simp only at hs hpos hall ⊢
    by_cases hc : sn < trd J o.pr ∨ (trd J o.pr = sn ∧ o.pr < sp)
    · rw [if_pos hc]
      refine Or.inr ⟨o, by simp, rfl, by show 0 < trd J o.pr; omega, fun y hy => ?_⟩
      show trd J y.pr ≤ trd J o.pr ∧ (trd J y.pr = trd J o.pr → o.pr ≤ y.pr)
      rcases List.mem_append.1 hy with e | e
      · have k := hall y e
        refine ⟨by omega, fun k2 => ?_⟩
        rcases hc with c | c
        · omega
        · have := k.2 (by omega); omega
      · rw [List.mem_singleton.1 e]; exact ⟨Int.le_refl _, fun _ => Int.le_refl _⟩
    · rw [if_neg hc]
      refine Or.inr ⟨q, List.mem_append.2 (Or.inl hq), hs, hpos, fun y hy => ?_⟩
      show trd J y.pr ≤ sn ∧ (trd J y.pr = sn → sp ≤ y.pr)
      rcases List.mem_append.1 hy with e | e
      · exact hall y e
      · rw [List.mem_singleton.1 e]; exact ⟨by omega, fun k => by omega⟩
theorem best_fold {J : List Od} (h : ∀ o ∈ J, mayB o = true) : ∀ (u t : List Od) (s : Int × Int), (∀ o ∈ u, o ∈ J) → Best J t s → Best J (t ++ u) (u.foldl (crS J) s)
  | [], t, s, _, hb => by simpa using hb
  | o :: u, t, s, hu, hb => by
    have := best_fold h u (t ++ [o]) (crS J s o) (fun x hx => hu x (List.mem_cons_of_mem _ hx)) (best_step h hb (hu o (List.mem_cons_self ..)))
    simpa using this
theorem best_all {J : List Od} (h : ∀ o ∈ J, mayB o = true) : Best J J (J.foldl (crS J) (0, 0)) := by
  have := best_fold h J [] (0, 0) (fun o ho => ho) (Or.inl ⟨rfl, fun o ho => by cases ho⟩)
  simpa using this
theorem amt_perm {a b : List Od} (h : a.Perm b) : amt a = amt b := by
  induction h with
  | nil => rfl
  | cons x _ ih => simp only [amt, ih]
  | swap x y l => simp only [amt]; omega
  | trans _ _ ih1 ih2 => exact ih1.trans ih2
/-- Where something is sold, as much is sold at the price of an order that is not above. -/
theorem sell_at (x : Int) : ∀ J : List Od, (∃ o ∈ J, sAt x o = true) → ∃ o ∈ J, sAt x o = true ∧ ∀ q ∈ J, sAt x q = true → q.pr ≤ o.pr
  | [], h => by obtain ⟨o, ho, _⟩ := h; cases ho
  | a :: J, h => by
    by_cases hJ : ∃ o ∈ J, sAt x o = true
    · obtain ⟨o, ho, h1, h2⟩ := sell_at x J hJ
      by_cases ha : sAt x a = true ∧ o.pr < a.pr
      · refine ⟨a, List.mem_cons_self .., ha.1, fun q hq hs => ?_⟩
        rcases List.mem_cons.1 hq with e | e
        · rw [e]; exact Int.le_refl _
        · have := h2 q e hs; omega
      · refine ⟨o, List.mem_cons_of_mem _ ho, h1, fun q hq hs => ?_⟩
        rcases List.mem_cons.1 hq with e | e
        · rw [e] at hs ⊢
          rcases Int.lt_or_le o.pr a.pr with k | k
          · exact absurd ⟨hs, k⟩ ha
          · exact k
        · exact h2 q e hs
    · obtain ⟨o, ho, h1⟩ := h
      rcases List.mem_cons.1 ho with e | e
      · rw [e] at h1
        refine ⟨a, List.mem_cons_self .., h1, fun q hq hs => ?_⟩
        rcases List.mem_cons.1 hq with e2 | e2
        · rw [e2]; exact Int.le_refl _
        · exact absurd ⟨q, e2, hs⟩ hJ
      · exact absurd ⟨o, e, h1⟩ hJ
theorem amt_sub {f g : Od → Bool} : ∀ (J : List Od), (∀ o ∈ J, 1 ≤ o.am) → (∀ o ∈ J, f o = true → g o = true) → amt (J.filter f) ≤ amt (J.filter g)
  | [], _, _ => by simp [amt]
  | o :: J, ha, h => by
    have ih := amt_sub (f := f) (g := g) J (fun q hq => ha q (List.mem_cons_of_mem _ hq)) (fun q hq => h q (List.mem_cons_of_mem _ hq))
    have h1 := ha o (List.mem_cons_self ..)
    have h2 := h o (List.mem_cons_self ..)
    rw [List.filter_cons, List.filter_cons]
    cases hf : f o
    · cases hg : g o
      · simpa using ih
      · simp only [if_true, Bool.false_eq_true, if_false, amt]; omega
    · rw [h2 hf]
      simp only [if_true, amt]; omega
theorem trd_low {J : List Od} (h : ∀ o ∈ J, mayB o = true) {x : Int} (hx : 0 < trd J x) : ∃ o ∈ J, o.pr ≤ x ∧ trd J x ≤ trd J o.pr := by
  have ha : ∀ o ∈ J, 1 ≤ o.am := fun o ho => may_am1 (h o ho)
  have hs : 0 < amt (J.filter (sAt x)) := by unfold trd at hx; omega
  have hne : ∃ o ∈ J, sAt x o = true := by
    cases hf : J.filter (sAt x) with
    | nil => rw [hf] at hs; simp [amt] at hs
    | cons o t =>
      have : o ∈ J.filter (sAt x) := by rw [hf]; exact List.mem_cons_self ..
      exact ⟨o, (List.mem_filter.1 this).1, (List.mem_filter.1 this).2⟩
  obtain ⟨o, ho, h1, h2⟩ := sell_at x J hne
  have hox : o.pr ≤ x := by
    unfold sAt at h1
    simp only [Bool.and_eq_true, decide_eq_true_eq] at h1
    exact h1.2
  refine ⟨o, ho, hox, ?_⟩
  have e1 : amt (J.filter (bAt x)) ≤ amt (J.filter (bAt o.pr)) := amt_sub J ha (fun q hq hb => by
    unfold bAt at hb ⊢
    simp only [Bool.and_eq_true, decide_eq_true_eq] at hb ⊢
    exact ⟨hb.1, by omega⟩)
  have e2 : amt (J.filter (sAt x)) ≤ amt (J.filter (sAt o.pr)) := amt_sub J ha (fun q hq hb => by
    have h3 := h2 q hq hb
    unfold sAt at hb ⊢
    simp only [Bool.and_eq_true, decide_eq_true_eq] at hb ⊢
    exact ⟨hb.1, h3⟩)
  unfold trd
  omega
/-- At no price more is traded; at each lower one less. -/
theorem crs_most {J : List Od} (h : ∀ o ∈ J, mayB o = true) (x : Int) : trd J x ≤ (J.foldl (crS J) (0, 0)).2 ∧ (0 < (J.foldl (crS J) (0, 0)).2 → x < (J.foldl (crS J) (0, 0)).1 → trd J x < (J.foldl (crS J) (0, 0)).2) := by
  have hb := best_all h
  generalize J.foldl (crS J) (0, 0) = s at *
  have hn := trd_nn h x
  rcases hb with ⟨rfl, h0⟩ | ⟨q, hq, hs, hpos, hall⟩
  · refine ⟨?_, fun k => by exact absurd k (by decide)⟩
    show trd J x ≤ 0
    rcases Int.lt_or_le 0 (trd J x) with k | k
    · obtain ⟨o, ho, h1, h2⟩ := trd_low h k
      have := h0 o ho
      omega
    · exact k
  · rcases Int.lt_or_le 0 (trd J x) with k | k
    · obtain ⟨o, ho, h1, h2⟩ := trd_low h k
      have h3 := hall o ho
      refine ⟨by omega, fun _ hx => ?_⟩
      rcases Int.lt_or_le (trd J x) s.2 with k2 | k2
      · exact k2
      · have := h3.2 (by omega); omega
    · exact ⟨by omega, fun _ _ => by omega⟩
theorem crs_hits {J : List Od} (h : ∀ o ∈ J, mayB o = true) : (0 < (J.foldl (crS J) (0, 0)).2 → trd J (J.foldl (crS J) (0, 0)).1 = (J.foldl (crS J) (0, 0)).2) ∧ ((J.foldl (crS J) (0, 0)).2 = 0 → (J.foldl (crS J) (0, 0)).1 = 0) ∧ 0 ≤ (J.foldl (crS J) (0, 0)).2 := by
  have hb := best_all h
  generalize J.foldl (crS J) (0, 0) = s at *
  rcases hb with ⟨rfl, h0⟩ | ⟨q, hq, hs, hpos, hall⟩
  · exact ⟨fun k => absurd k (by decide), fun _ => rfl, Int.le_refl _⟩
  · refine ⟨fun _ => by rw [hs], fun k => by omega, by omega⟩
end Go.Proofs.YtpekfpfhonechaaGreat.Cal
