/- MerkleGrows: a tree has the records, root and proofs of those that are there. -/
import Derived.Test.YtpcafjbebhcilaaGreatTmG
import Derived.Test.YtpcafjbebhcilaaGreatTmOr
namespace Go.Proofs.YtpcafjbebhcilaaGreat
open Go.RowKit
set_option linter.unusedSimpArgs false
set_option linter.unusedVariables false
variable {p b x y : Nat} {T T' : List ByteArray} {S : List (Int × ByteArray)} {w w' : World}

theorem maxG {s : ByteArray} (h : s.size ≤ 140737488351232) : s.size ≤ maxLen := by unfold maxLen; omega
/-- What is true behind each call. -/
structure GrI (w0 w : World) (k p b x y : Nat) (T : List ByteArray) (d : List Rc) (v lv dv : Value) : Prop where
  t : Tre w (k + 1) k p b x y T [] d lv dv
  row : w.ownsRow w0.heap.size 47 2 v d.length (rcCells d)
  ap : Apt v lv
  lo : Below w0.heap.size w0 w
theorem GrI.grew {w0 : World} {k c : Nat} {d : List Rc} {v lv dv : Value} (h : GrI w0 w k p b x y T d v lv dv) (hx : w0.heap.size ≤ x) (hy : w0.heap.size ≤ y) (g : Grew x y p b T [] w c T' w') : GrI w0 w' k p b x y T' d v lv dv :=
  ⟨h.t.grew g, own_off2 h.t.book h.row g.off, h.ap, g.off.below hx hy h.lo h.lo.size⟩
theorem GrI.below {w0 : World} {k : Nat} {d : List Rc} {v lv dv : Value} (h : GrI w0 w k p b x y T d v lv dv) (g : Below w.heap.size w w') : GrI w0 w' k p b x y T d v lv dv :=
  ⟨h.t.below g, own_below h.row g, h.ap, chain h.lo g⟩
theorem GrI.rcs {w0 : World} {k : Nat} {d : List Rc} {v lv dv : Value} (h : GrI w0 w k p b x y T d v lv dv) : Rcs w v d := rcs_of_own h.row (fun m hm => by have := h.t.fit m hm; unfold maxLen; omega)
theorem GrI.off {w0 : World} {k g n : Nat} {d : List Rc} {v lv dv u : Value} {xs : List Value} (h : GrI w0 w k p b x y T d v lv dv) (hu : w.ownsRow w0.heap.size 47 2 u n xs) (hg : u.ownBlock = some g) (a1 : Apt u lv) (a2 : Apt u v) (o : Off g w w') : GrI w0 w' k p b x y T d v lv dv := by
  have ha := h.t.book.apart hu (by decide) (by decide)
  rw [hg] at ha
  obtain ⟨ls, od, _⟩ := h.t.lvs
  have hk : g ≠ k := fun e => by
    obtain ⟨cur, hc⟩ := own_heap hu hg
    have := h.t.blk
    unfold Blk at this
    rw [e, this] at hc
    injection hc with hc
    injection hc with _ hc
    exact absurd hc (by decide)
  exact ⟨h.t.off o hk ⟨fun e => ha.1 (by rw [e]), fun e => ha.2.1 (by rw [e]), fun e => ha.2.2.1 (by rw [e]), fun e => ha.2.2.2 (by rw [e])⟩ (a1 g hg) (fun e => apt_types hu od (by decide) g hg e), World.ownsRow.kept h.row o.byM (Or.inr (a2 g hg)), h.ap, o.below (hu.lt g hg).1 h.lo h.lo.size⟩

set_option maxHeartbeats 16000000 in
set_option maxRecDepth 100000 in
theorem merkleGrows_calls (v : Value) (l : List Tac) (key : ByteArray) (w : World) (hl : Tacs w v l) (hk : key.size ≤ maxLen) :
    Calls Tryz.prog 3 #[v, .string key] w fun e w' => e = .returned (.bool true) ∧ Below w.heap.size w w' := by
  have HAW : Hid _ := fun (wx : World) => awake_calls wx
  obtain ⟨a, cap, rfl, hE⟩ := hl.any
  have HL : Hid _ := hE
  clear hl hE
  go_enter Tryz.func3, Tryz.ntmps3
  go_wp2_with fail
  refine (newBook_calls _).mono ?_
  rintro e w1 ⟨p, b, x, y, rfl, hB, b1, hp, hb, hx, hy⟩
  go_wp2_with fail
  refine (treeNew_calls _ hB (by decide)).mono ?_
  rintro e w2 ⟨k, rfl, hk2, T2, b2⟩
  have I2 : GrI w w2 k p b x y [] [] (.slice none 0 0) (.slice none 0 0) (.slice none 0 0) := ⟨T2, World.ownsRow_nil _ _ _ _, apt_nil _, chain b1 b2⟩
  have HW : Hid (w.heap.size ≤ k ∧ w.heap.size ≤ x ∧ w.heap.size ≤ y) := ⟨Nat.le_trans b1.size hk2, hx, hy⟩
  clear b1 b2 hB T2 hk2 hx hy hp hb
  go_wp2_with fail
  go_loopw [7, 8] (fun o i wr => ∃ (n : Nat) (T : List ByteArray) (d : List Rc) (lv dv : Value), n ≤ l.length ∧ n ≤ 80 ∧ i = .int .i64 n ∧ Hid (GrI w wr k p b x y T d o lv dv) ∧ T.length ≤ 400 * n ∧ d.length ≤ n) (fun o i _ => l.length - (intOf i).toNat)
  case atStart => exact ⟨0, [], [], _, _, Nat.zero_le _, Nat.zero_le _, rfl, I2, Nat.le_refl _, Nat.le_refl _⟩
  case round =>
    obtain ⟨n, T, d, lv, dv, hn, hn8, rfl, HI, hTl, hdl⟩ := hrel
    obtain ⟨oa, oc, rfl⟩ := own_sliceM (HI.out).row
    by_cases hlt : n < l.length ∧ n < 80
    · obtain ⟨hlt, hlt8⟩ := hlt
      have d1 : decide ((n : Int) < (l.length : Int)) = true := by simp only [decide_eq_true_eq]; omega
      have d2 : decide ((n : Int) < 80) = true := by simp only [decide_eq_true_eq]; omega
      have hnl : (n : Int) < (l.length : Int) := by omega
      obtain ⟨g, off, rfl, _, hgw, hc, hfit⟩ := HL.out n hlt
      have c0 : wr.cell? ⟨g, off + n * 3, none⟩ = some (.int .i64 l[n].kind) := by
        have := hc 0 _ rfl
        rw [Nat.add_zero] at this
        exact keepCell (HI.out).lo this
      have c1 : wr.cell? ⟨g, off + n * 3 + 1, none⟩ = some (.string l[n].key) := keepCell (HI.out).lo (hc 1 _ rfl)
      have c2 : wr.cell? ⟨g, off + n * 3 + 2, none⟩ = some (.string l[n].dat) := keepCell (HI.out).lo (hc 2 _ rfl)
      generalize l[n] = q at *
      have HP : Hid _ := play_calls q.kind q.key q.dat (.slice oa d.length oc) d w.heap.size wr (HI.out).t (by omega) (by omega) (by omega) (maxG hfit.1) (maxG hfit.2) (HI.out).row (HI.out).lo.size (HI.out).t.rise (HI.out).t.fit (HI.out).ap.or
      clear hc hfit
      go_wp2_with fail
      refine Calls.mono HP.out ?_
      rintro e w3 ⟨c, v3, ok, lv3, dv3, T3, rfl, t3, C3, N3, M3, hT3, _, o3, ap3, hok⟩
      obtain rfl : ok = true := hok rfl
      have hs := stepL_len c q.key q.dat d
      obtain ⟨oa3, oc3, rfl⟩ := own_sliceM o3
      have HI3 : Hid (GrI w w3 k p b x y T3 (stepL c q.key q.dat d) (.slice oa3 (stepL c q.key q.dat d).length oc3) lv3 dv3) := ⟨t3, o3, apt_of ap3, Tch.low (HI.out).t C3 HW.out.1 HW.out.2.1 HW.out.2.2 (HI.out).lo⟩
      clear t3 C3 N3 M3 o3 ap3 hok HP c0 c1 c2 HI
      generalize stepL c q.key q.dat d = d3 at *
      go_wp2_with fail
      refine Calls.mono (treeRootM_calls w3 (HI3.out).t (by omega) (by omega)) ?_
      rintro e w4 ⟨rt4, T4, rfl, hR4, G4⟩
      have l4 := G4.len
      have HI4 : Hid _ := (HI3.out).grew HW.out.2.1 HW.out.2.2 G4
      have HR4 : Hid _ := hR4
      clear hR4 G4 HI3
      go_wp2_with fail
      refine Calls.mono (root_law (.slice oa3 d3.length oc3) d3 w4 (by omega) (HI4.out).rcs (HI4.out).t.fit (HI4.out).t.book (by omega)) ?_
      rintro e w5 ⟨rt5, T5, rfl, hR5, G5⟩
      have l5 := G5.len
      have e5 : rt5 = rt4 := hR5.same (RootOf.ext G5.ext HR4.out)
      subst e5
      have HI5 : Hid _ := (HI4.out).grew HW.out.2.1 HW.out.2.2 G5
      clear hR5 G5 HI4 HR4
      go_wp2
      refine ⟨⟨n + 1, T5, d3, lv3, dv3, by omega, by omega, by norm_cast, HI5.out, by omega, by omega⟩, ?_⟩
      simp [intOf]; omega
    · have hend : Hid (T.length ≤ 32000 ∧ d.length ≤ 80) := ⟨by omega, by omega⟩
      have hstop : decide ((n : Int) < (l.length : Int)) = false ∨ (decide ((n : Int) < (l.length : Int)) = true ∧ decide ((n : Int) < 80) = false) := by
        rcases Nat.lt_or_ge n l.length with h1 | h1
        · exact Or.inr ⟨decide_eq_true (by omega), decide_eq_false (by omega)⟩
        · exact Or.inl (decide_eq_false (by omega))
      obtain ⟨hT8, hd8⟩ := hend.out
      have HF : Hid _ := refFits_calls key
      clear hlt hn hn8 hTl hdl HL
      rcases hstop with hs | ⟨hs1, hs2⟩
      · have hs3 : ¬ (n : Int) < (l.length : Int) := of_decide_eq_false hs
        cases hik : isK key
        · rw [hik] at HF
          go_wp2_with fail
          refine Calls.mono (treeProve_bad key wr (HI.out).t hik) ?_
          rintro e w3 ⟨he, b3⟩
          obtain ⟨n0, q0, m0, cp0, rfl, HM0⟩ : ∃ (n0 : Int) (q0 : Option Addr) (m0 cp0 : Nat), e = .returned (.tuple #[.agg #[.int .i64 n0, .slice q0 m0 cp0], .int .i64 14]) ∧ Hid (m0 = 0) := ⟨0, none, 0, 0, he, rfl⟩
          have dm : ((m0 : Int) == 0) = true := by rw [HM0.out]; rfl
          have dm' : decide ((m0 : Int) = 0) = true := dm
          obtain ⟨W4, hW4, X4, B4⟩ : ∃ W4, w3.alloc (.cells #[.int .i64 n0, .slice q0 m0 cp0] 36) = W4 ∧ Blk W4 w3.heap.size #[.int .i64 n0, .slice q0 m0 cp0] 36 ∧ Below w3.heap.size w3 W4 := ⟨_, rfl, blk_new _ _ _ _ rfl, by go_grown⟩
          have e1 : W4.cell? ⟨w3.heap.size, 1, none⟩ = some (.slice q0 m0 cp0) := X4.cell rfl
          have LO : Below w.heap.size w W4 := chain (chain (HI.out).lo b3) B4
          clear he hik
          go_wp2_with fail
          refine (HF.out _).mono ?_
          rintro e w5 ⟨rfl, rfl⟩
          go_wp2_with fail
          refine (HAW.out _).mono ?_
          rintro e w6 ⟨rfl, b6⟩
          go_wp2
          go_ret
          exact ⟨rfl, chain LO b6⟩
        · rw [hik] at HF
          go_wp2_with fail
          refine Calls.mono (treeProve_calls key wr (HI.out).t (by omega) (by omega) hik) ?_
          rintro e w3 ⟨rr, L, ls, T3, pv, cv, hlv, hsp, hpo, rfl, ho, hss, G3⟩
          have l3 := G3.len
          have hzz := (HI.out).t.fit
          have hoks : ∀ q ∈ L, ptOk q.1 = true := fun q hq => by
            obtain ⟨i, hi⟩ := hpo.each q.1 (List.mem_map.2 ⟨q, hq, rfl⟩)
            exact (hi.ok hlv (by omega) hzz).1
          have hL2 : L.length ≤ 2 := by have := hpo.two; rw [List.length_map] at this; exact this
          have I3 := (HI.out).grew HW.out.2.1 HW.out.2.2 G3
          obtain ⟨W4, hW4, X4, B4⟩ : ∃ W4, w3.alloc (.cells #[.int .i64 d.length, .slice pv L.length cv] 36) = W4 ∧ Blk W4 w3.heap.size #[.int .i64 d.length, .slice pv L.length cv] 36 ∧ Below w3.heap.size w3 W4 := ⟨_, rfl, blk_new _ _ _ _ rfl, by go_grown⟩
          have HI4 : Hid _ := I3.below B4
          have HOW : Hid _ := own_below ho B4
          have HSS : Hid (∀ q ∈ L, W4.ownsRow wr.heap.size 9 1 q.2 q.1.sides.length (txC q.1.sides)) := fun q hq => own_below (hss q hq) B4
          have HPO : Hid _ := hpo
          have HSP : Hid _ := hsp
          have HLV : Hid _ := hlv
          have HOK : Hid _ := hoks
          clear hlv hsp hpo ho hss G3 hzz hoks I3 HI hik
          go_wp2_with fail
          refine (HF.out _).mono ?_
          rintro e w5 ⟨rfl, rfl⟩
          go_wp2_with fail
          refine Calls.mono (treeRecords_calls _ (HI4.out).t (by omega)) ?_
          rintro e w6 ⟨v6, rfl, o6, b6⟩
          obtain ⟨ga, gc, rfl⟩ := own_sliceM o6
          have X6 := X4.below b6
          have e0 : w6.cell? ⟨w3.heap.size, 0, none⟩ = some (.int .i64 d.length) := X6.cell rfl
          have e1 : w6.cell? ⟨w3.heap.size, 1, none⟩ = some (.slice pv L.length cv) := X6.cell rfl
          have I6 := (HI4.out).below b6
          have HAG : Hid (Apt (.slice ga d.length gc) lv ∧ Apt (.slice ga d.length gc) (.slice oa d.length oc)) := ⟨fun g hg e => by
            have h1 := (o6.lt g hg).1
            have h2 := ((HI4.out).t.rows.lt g e).2
            omega, fun g hg e => by
            have h1 := (o6.lt g hg).1
            have h2 := ((HI4.out).row.lt g e).2
            omega⟩
          have bD : Below w6.heap.size w6 w6.drew := (Below.refl _ _).drew
          have HI7 : Hid _ := I6.below bD
          have HB7 : Hid _ := (HI7.out).t.book
          have HGO : Hid (w6.drew.ownsRow w.heap.size 47 2 (.slice ga d.length gc) d.length (rcCells d)) := own_below (ownsRow_weakM o6 (HI4.out).lo.size) bD
          have HPRF : Hid _ := proof_law _ d ls key rr w6.drew (HI7.out).rcs (by omega) (HI7.out).t.rise HSP.out (HI7.out).t.fit HLV.out HB7.out (by omega)
          have HOW7 : Hid _ := own_below (own_below HOW.out b6) bD
          have HSS7 : Hid (∀ q ∈ L, w6.drew.ownsRow wr.heap.size 9 1 q.2 q.1.sides.length (txC q.1.sides)) := fun q hq => own_below (own_below (HSS.out q hq) b6) bD
          clear I6 o6 b6 HI4 HOW HSS X4 X6 hW4 B4 bD
          go_wp2_with fail
          refine wp_region_any (by kernel_rfl) ?_
          change wpAny _ _ _ _ _ _ _ (World.drew _)
          refine wpAny_take (i := 0) (v := (.int .i64 0)) rfl (by kernel_rfl) (by kernel_rfl) (by kernel_rfl) (fun _ _ _ h => h) (Or.inl ⟨by first | rfl | kernel_rfl, fun w => by go_simp⟩) ?_
          refine wpAny_take (i := 1) (v := (.bool false)) rfl (by kernel_rfl) (by kernel_rfl) (by kernel_rfl) (fun _ _ _ h => h) (Or.inl ⟨by first | rfl | kernel_rfl, fun w => by go_simp⟩) ?_
          refine wpAny_take (i := 2) (v := (.bool false)) rfl (by kernel_rfl) (by kernel_rfl) (by kernel_rfl) (fun _ _ _ h => h) (Or.inl ⟨by first | rfl | kernel_rfl, fun w => by go_simp⟩) ?_
          refine wpAny_take (i := 4) (v := (.pointer (some ⟨p, 0, none⟩))) rfl (by kernel_rfl) (by kernel_rfl) (by kernel_rfl) (fun _ _ _ h => h) (Or.inl ⟨by first | rfl | kernel_rfl, fun w => by go_simp⟩) ?_
          refine wpAny_take (i := 5) (v := (.slice oa d.length oc)) rfl (by kernel_rfl) (by kernel_rfl) (by kernel_rfl) (fun _ _ _ h => h) (Or.inl ⟨by first | rfl | kernel_rfl, fun w => by go_simp⟩) ?_
          refine wpAny_take (i := 6) (v := (.string key)) rfl (by kernel_rfl) (by kernel_rfl) (by kernel_rfl) (fun _ _ _ h => h) (Or.inl ⟨by first | rfl | kernel_rfl, fun w => by go_simp⟩) ?_
          refine wpAny_ready (rs := [3, 7]) (by kernel_rfl) (by simp) ?_
          refine AllReady.cons rfl (fun K hK => ?_) (AllReady.cons rfl (fun K hK => ?_) AllReady.nil)
          · go_simp
            refine hK _ _ ?_
            clear hK
            refine wpAny_ready (rs := [7]) (by kernel_rfl) (by simp) ?_
            refine AllReady.cons rfl (fun K hK => ?_) AllReady.nil
            go_simp
            refine Calls.mono HPRF.out ?_
            rintro e w8 ⟨L2, T8, pv2, cv2, rfl, pf2, o2, os2, G8⟩
            have l8 := G8.len
            have f0 : w8.cell? ⟨w3.heap.size, 0, none⟩ = some (.int .i64 d.length) := keepCell2 HB7.out G8.off e0
            have f1 : w8.cell? ⟨w3.heap.size, 1, none⟩ = some (.slice pv L.length cv) := keepCell2 HB7.out G8.off e1
            have hsame : L.map Prod.fst = L2.map Prod.fst := PF.same (PF.ext (PathsOk.pf HPO.out (Spot.le HSP.out)) G8.ext) pf2
            have hp1 := (ptsC_own (own_off2 HB7.out HOW7.out G8.off) (fun q hq => own_off2 HB7.out (HSS7.out q hq) G8.off) HOK.out).1
            have hp2 := (ptsC_own o2 os2 (fun q hq => by
              have : q.1 ∈ L.map Prod.fst := by rw [hsame]; exact List.mem_map.2 ⟨q, hq, rfl⟩
              obtain ⟨q', hq', e'⟩ := List.mem_map.1 this
              rw [← e']; exact HOK.out q' hq')).1
            rw [← hsame] at hp2
            have hSP := sameProof_same ⟨d.length, L.map Prod.fst⟩ (.slice pv L.length cv) (.slice pv2 L2.length cv2) w8 hp1 hp2 (by simp; omega) (fun t ht => by obtain ⟨q, hq, e'⟩ := List.mem_map.1 ht; rw [← e']; exact (ptOk_parts (HOK.out q hq)).2.2.2.1)
            unfold Pf.val at hSP
            have HSPP : Hid _ := hSP
            have HI8 : Hid _ := (HI7.out).grew HW.out.2.1 HW.out.2.2 G8
            have HG8 : Hid _ := own_off2 HB7.out HGO.out G8.off
            clear hSP hp1 hp2 pf2 o2 os2 G8 hsame
            refine hK _ _ ?_
            clear hK
            refine wpAny_ready (rs := [8]) (by kernel_rfl) (by simp) ?_
            refine AllReady.cons rfl (fun K hK => ?_) AllReady.nil
            go_simp
            refine Calls.mono HSPP.out ?_
            rintro e w9 ⟨rfl, b9⟩
            refine hK _ _ ?_
            clear hK
            have HI9 : Hid _ := (HI8.out).below b9
            have HG9 : Hid _ := own_below HG8.out b9
            have hSR := sameRecords_ref (.slice ga d.length gc) (.slice oa d.length oc) d d w9 (rcs_of_own HG9.out (fun m hm => by have := (HI9.out).t.fit m hm; unfold maxLen; omega)) (HI9.out).rcs (by omega) (by omega)
            rw [sameRc_self] at hSR
            have HSR : Hid _ := hSR
            clear hSR
            refine wpAny_take (i := 9) (v := (.bool false)) rfl (by kernel_rfl) (by kernel_rfl) (by kernel_rfl) (fun _ _ _ h => h) (Or.inl ⟨by first | rfl | kernel_rfl, fun w => by go_simp⟩) ?_
            refine wpAny_take (i := 10) (v := (.bool false)) rfl (by kernel_rfl) (by kernel_rfl) (by kernel_rfl) (fun _ _ _ h => h) (Or.inl ⟨by first | rfl | kernel_rfl, fun w => by go_simp⟩) ?_
            refine wpAny_take (i := 11) (v := (.bool false)) rfl (by kernel_rfl) (by kernel_rfl) (by kernel_rfl) (fun _ _ _ h => h) (Or.inl ⟨by first | rfl | kernel_rfl, fun w => by go_simp⟩) ?_
            refine wpAny_take (i := 12) (v := (.slice ga d.length gc)) rfl (by kernel_rfl) (by kernel_rfl) (by kernel_rfl) (fun _ _ _ h => h) (Or.inl ⟨by first | rfl | kernel_rfl, fun w => by go_simp⟩) ?_
            refine wpAny_take (i := 13) (v := (.slice oa d.length oc)) rfl (by kernel_rfl) (by kernel_rfl) (by kernel_rfl) (fun _ _ _ h => h) (Or.inl ⟨by first | rfl | kernel_rfl, fun w => by go_simp⟩) ?_
            refine wpAny_ready (rs := [14]) (by kernel_rfl) (by simp) ?_
            refine AllReady.cons rfl (fun K hK => ?_) AllReady.nil
            go_simp
            refine Calls.mono HSR.out ?_
            rintro e w10 ⟨rfl, b10⟩
            refine hK _ _ ?_
            clear hK
            refine wpAny_take (i := 15) (v := (.bool false)) rfl (by kernel_rfl) (by kernel_rfl) (by kernel_rfl) (fun _ _ _ h => h) (Or.inl ⟨by first | rfl | kernel_rfl, fun w => by go_simp⟩) ?_
            refine wpAny_take (i := 16) (v := (.bool false)) rfl (by kernel_rfl) (by kernel_rfl) (by kernel_rfl) (fun _ _ _ h => h) (Or.inl ⟨by first | rfl | kernel_rfl, fun w => by go_simp⟩) ?_
            refine wpAny_done (by kernel_rfl) ?_ _
            have HI10 : Hid (GrI w w10 k p b x y T8 d (.slice oa d.length oc) lv dv) := (HI9.out).below b10
            have HG10 : Hid _ := own_below HG9.out b10
            clear HI8 HG8 HI9 HG9 b9 b10 HSPP HSR f0 f1
            go_wp2_with fail
            go_loopw [14] (fun i wz => ∃ (m : Nat) (xs : List Value), m ≤ d.length ∧ i = .int .i64 m ∧ Hid (GrI w wz k p b x y T8 d (.slice oa d.length oc) lv dv ∧ wz.ownsRow w.heap.size 47 2 (.slice ga d.length gc) d.length xs)) (fun i _ => d.length - (intOf i).toNat)
            case atStart => exact ⟨0, _, Nat.zero_le _, rfl, HI10.out, HG10.out⟩
            case round =>
              obtain ⟨m, xs, hm, rfl, HX⟩ := hrel
              by_cases hmd : m < d.length
              · have d9 : decide ((m : Int) < (d.length : Int)) = true := by simp only [decide_eq_true_eq]; omega
                have hml : (m : Int) < (d.length : Int) := by omega
                obtain ⟨g3, rfl, hx3⟩ : ∃ g3, ga = some ⟨g3, 0, none⟩ ∧ Hid (wr.ownsRow w.heap.size 47 2 (.slice (some ⟨g3, 0, none⟩) d.length gc) d.length xs) := by
                  obtain ⟨g3, c3, q, _, _⟩ := HX.out.2.form (by omega)
                  injection q with q1 _ q3
                  subst q1
                  exact ⟨g3, rfl, HX.out.2⟩
                have f3 : wr.frozen? ⟨g3, m * 2 + 1, none⟩ = false := (hx3.out).frozenAt _
                obtain ⟨u3, hu3⟩ : ∃ u3, wr.cell? ⟨g3, m * 2 + 1, none⟩ = some u3 := by
                  rw [(hx3.out).cellAt _ (by omega), List.getElem?_eq_getElem (by rw [(hx3.out).1]; omega)]
                  exact ⟨_, rfl⟩
                have HN : Hid (GrI w (wr.setCell ⟨g3, m * 2 + 1, none⟩ (.string ⟨#[115, 112, 111, 105, 108, 116]⟩)) k p b x y T8 d (.slice oa d.length oc) lv dv ∧ (wr.setCell ⟨g3, m * 2 + 1, none⟩ (.string ⟨#[115, 112, 111, 105, 108, 116]⟩)).ownsRow w.heap.size 47 2 (.slice (some ⟨g3, 0, none⟩) d.length gc) d.length (xs.set (m * 2 + 1) (.string ⟨#[115, 112, 111, 105, 108, 116]⟩))) :=
                  ⟨GrI.off (g := g3) HX.out.1 hx3.out rfl HAG.out.1 HAG.out.2 (Off.setCell (Off.refl g3 wr) (p := ⟨g3, m * 2 + 1, none⟩) rfl _), ((hx3.out).stored _ _).1⟩
                clear HX hx3
                go_wp2
                refine ⟨⟨m + 1, _, by omega, by norm_cast, HN.out⟩, ?_⟩
                simp [intOf]; omega
              · have d9 : decide ((m : Int) < (d.length : Int)) = false := by simp only [decide_eq_false_iff_not]; omega
                have d9' : ¬ (m : Int) < (d.length : Int) := by omega
                have HI11 : Hid _ := HX.out.1
                clear HX HG10 HI10
                go_wp2_with fail
                refine Calls.mono (treeRecords_calls wr (HI11.out).t (by omega)) ?_
                rintro e w12 ⟨v12, rfl, o12, b12⟩
                obtain ⟨ra, rc, rfl⟩ := own_sliceM o12
                have HI12 : Hid _ := (HI11.out).below b12
                have hSR := sameRecords_ref (.slice ra d.length rc) (.slice oa d.length oc) d d w12 (rcs_of_own o12 (fun m hm => by have := (HI12.out).t.fit m hm; unfold maxLen; omega)) (HI12.out).rcs (by omega) (by omega)
                rw [sameRc_self] at hSR
                have HSR : Hid _ := hSR
                clear hSR o12 b12 HI11
                go_wp2_with fail
                refine Calls.mono HSR.out ?_
                rintro e w13 ⟨rfl, b13⟩
                go_wp2_with fail
                refine (HAW.out _).mono ?_
                rintro e w14 ⟨rfl, b14⟩
                go_wp2
                go_ret
                exact ⟨rfl, chain (chain (HI12.out).lo b13) b14⟩
          · go_simp
            refine Calls.mono HPRF.out ?_
            rintro e w8 ⟨L2, T8, pv2, cv2, rfl, pf2, o2, os2, G8⟩
            have l8 := G8.len
            have f0 : w8.cell? ⟨w3.heap.size, 0, none⟩ = some (.int .i64 d.length) := keepCell2 HB7.out G8.off e0
            have f1 : w8.cell? ⟨w3.heap.size, 1, none⟩ = some (.slice pv L.length cv) := keepCell2 HB7.out G8.off e1
            have hsame : L.map Prod.fst = L2.map Prod.fst := PF.same (PF.ext (PathsOk.pf HPO.out (Spot.le HSP.out)) G8.ext) pf2
            have hp1 := (ptsC_own (own_off2 HB7.out HOW7.out G8.off) (fun q hq => own_off2 HB7.out (HSS7.out q hq) G8.off) HOK.out).1
            have hp2 := (ptsC_own o2 os2 (fun q hq => by
              have : q.1 ∈ L.map Prod.fst := by rw [hsame]; exact List.mem_map.2 ⟨q, hq, rfl⟩
              obtain ⟨q', hq', e'⟩ := List.mem_map.1 this
              rw [← e']; exact HOK.out q' hq')).1
            rw [← hsame] at hp2
            have hSP := sameProof_same ⟨d.length, L.map Prod.fst⟩ (.slice pv L.length cv) (.slice pv2 L2.length cv2) w8 hp1 hp2 (by simp; omega) (fun t ht => by obtain ⟨q, hq, e'⟩ := List.mem_map.1 ht; rw [← e']; exact (ptOk_parts (HOK.out q hq)).2.2.2.1)
            unfold Pf.val at hSP
            have HSPP : Hid _ := hSP
            have HI8 : Hid _ := (HI7.out).grew HW.out.2.1 HW.out.2.2 G8
            have HG8 : Hid _ := own_off2 HB7.out HGO.out G8.off
            clear hSP hp1 hp2 pf2 o2 os2 G8 hsame
            refine hK _ _ ?_
            clear hK
            refine wpAny_ready (rs := [3]) (by kernel_rfl) (by simp) ?_
            refine AllReady.cons rfl (fun K hK => ?_) AllReady.nil
            go_simp
            refine hK _ _ ?_
            clear hK
            refine wpAny_ready (rs := [8]) (by kernel_rfl) (by simp) ?_
            refine AllReady.cons rfl (fun K hK => ?_) AllReady.nil
            go_simp
            refine Calls.mono HSPP.out ?_
            rintro e w9 ⟨rfl, b9⟩
            refine hK _ _ ?_
            clear hK
            have HI9 : Hid _ := (HI8.out).below b9
            have HG9 : Hid _ := own_below HG8.out b9
            have hSR := sameRecords_ref (.slice ga d.length gc) (.slice oa d.length oc) d d w9 (rcs_of_own HG9.out (fun m hm => by have := (HI9.out).t.fit m hm; unfold maxLen; omega)) (HI9.out).rcs (by omega) (by omega)
            rw [sameRc_self] at hSR
            have HSR : Hid _ := hSR
            clear hSR
            refine wpAny_take (i := 9) (v := (.bool false)) rfl (by kernel_rfl) (by kernel_rfl) (by kernel_rfl) (fun _ _ _ h => h) (Or.inl ⟨by first | rfl | kernel_rfl, fun w => by go_simp⟩) ?_
            refine wpAny_take (i := 10) (v := (.bool false)) rfl (by kernel_rfl) (by kernel_rfl) (by kernel_rfl) (fun _ _ _ h => h) (Or.inl ⟨by first | rfl | kernel_rfl, fun w => by go_simp⟩) ?_
            refine wpAny_take (i := 11) (v := (.bool false)) rfl (by kernel_rfl) (by kernel_rfl) (by kernel_rfl) (fun _ _ _ h => h) (Or.inl ⟨by first | rfl | kernel_rfl, fun w => by go_simp⟩) ?_
            refine wpAny_take (i := 12) (v := (.slice ga d.length gc)) rfl (by kernel_rfl) (by kernel_rfl) (by kernel_rfl) (fun _ _ _ h => h) (Or.inl ⟨by first | rfl | kernel_rfl, fun w => by go_simp⟩) ?_
            refine wpAny_take (i := 13) (v := (.slice oa d.length oc)) rfl (by kernel_rfl) (by kernel_rfl) (by kernel_rfl) (fun _ _ _ h => h) (Or.inl ⟨by first | rfl | kernel_rfl, fun w => by go_simp⟩) ?_
            refine wpAny_ready (rs := [14]) (by kernel_rfl) (by simp) ?_
            refine AllReady.cons rfl (fun K hK => ?_) AllReady.nil
            go_simp
            refine Calls.mono HSR.out ?_
            rintro e w10 ⟨rfl, b10⟩
            refine hK _ _ ?_
            clear hK
            refine wpAny_take (i := 15) (v := (.bool false)) rfl (by kernel_rfl) (by kernel_rfl) (by kernel_rfl) (fun _ _ _ h => h) (Or.inl ⟨by first | rfl | kernel_rfl, fun w => by go_simp⟩) ?_
            refine wpAny_take (i := 16) (v := (.bool false)) rfl (by kernel_rfl) (by kernel_rfl) (by kernel_rfl) (fun _ _ _ h => h) (Or.inl ⟨by first | rfl | kernel_rfl, fun w => by go_simp⟩) ?_
            refine wpAny_done (by kernel_rfl) ?_ _
            have HI10 : Hid (GrI w w10 k p b x y T8 d (.slice oa d.length oc) lv dv) := (HI9.out).below b10
            have HG10 : Hid _ := own_below HG9.out b10
            clear HI8 HG8 HI9 HG9 b9 b10 HSPP HSR f0 f1
            go_wp2_with fail
            go_loopw [14] (fun i wz => ∃ (m : Nat) (xs : List Value), m ≤ d.length ∧ i = .int .i64 m ∧ Hid (GrI w wz k p b x y T8 d (.slice oa d.length oc) lv dv ∧ wz.ownsRow w.heap.size 47 2 (.slice ga d.length gc) d.length xs)) (fun i _ => d.length - (intOf i).toNat)
            case atStart => exact ⟨0, _, Nat.zero_le _, rfl, HI10.out, HG10.out⟩
            case round =>
              obtain ⟨m, xs, hm, rfl, HX⟩ := hrel
              by_cases hmd : m < d.length
              · have d9 : decide ((m : Int) < (d.length : Int)) = true := by simp only [decide_eq_true_eq]; omega
                have hml : (m : Int) < (d.length : Int) := by omega
                obtain ⟨g3, rfl, hx3⟩ : ∃ g3, ga = some ⟨g3, 0, none⟩ ∧ Hid (wr.ownsRow w.heap.size 47 2 (.slice (some ⟨g3, 0, none⟩) d.length gc) d.length xs) := by
                  obtain ⟨g3, c3, q, _, _⟩ := HX.out.2.form (by omega)
                  injection q with q1 _ q3
                  subst q1
                  exact ⟨g3, rfl, HX.out.2⟩
                have f3 : wr.frozen? ⟨g3, m * 2 + 1, none⟩ = false := (hx3.out).frozenAt _
                obtain ⟨u3, hu3⟩ : ∃ u3, wr.cell? ⟨g3, m * 2 + 1, none⟩ = some u3 := by
                  rw [(hx3.out).cellAt _ (by omega), List.getElem?_eq_getElem (by rw [(hx3.out).1]; omega)]
                  exact ⟨_, rfl⟩
                have HN : Hid (GrI w (wr.setCell ⟨g3, m * 2 + 1, none⟩ (.string ⟨#[115, 112, 111, 105, 108, 116]⟩)) k p b x y T8 d (.slice oa d.length oc) lv dv ∧ (wr.setCell ⟨g3, m * 2 + 1, none⟩ (.string ⟨#[115, 112, 111, 105, 108, 116]⟩)).ownsRow w.heap.size 47 2 (.slice (some ⟨g3, 0, none⟩) d.length gc) d.length (xs.set (m * 2 + 1) (.string ⟨#[115, 112, 111, 105, 108, 116]⟩))) :=
                  ⟨GrI.off (g := g3) HX.out.1 hx3.out rfl HAG.out.1 HAG.out.2 (Off.setCell (Off.refl g3 wr) (p := ⟨g3, m * 2 + 1, none⟩) rfl _), ((hx3.out).stored _ _).1⟩
                clear HX hx3
                go_wp2
                refine ⟨⟨m + 1, _, by omega, by norm_cast, HN.out⟩, ?_⟩
                simp [intOf]; omega
              · have d9 : decide ((m : Int) < (d.length : Int)) = false := by simp only [decide_eq_false_iff_not]; omega
                have d9' : ¬ (m : Int) < (d.length : Int) := by omega
                have HI11 : Hid _ := HX.out.1
                clear HX HG10 HI10
                go_wp2_with fail
                refine Calls.mono (treeRecords_calls wr (HI11.out).t (by omega)) ?_
                rintro e w12 ⟨v12, rfl, o12, b12⟩
                obtain ⟨ra, rc, rfl⟩ := own_sliceM o12
                have HI12 : Hid _ := (HI11.out).below b12
                have hSR := sameRecords_ref (.slice ra d.length rc) (.slice oa d.length oc) d d w12 (rcs_of_own o12 (fun m hm => by have := (HI12.out).t.fit m hm; unfold maxLen; omega)) (HI12.out).rcs (by omega) (by omega)
                rw [sameRc_self] at hSR
                have HSR : Hid _ := hSR
                clear hSR o12 b12 HI11
                go_wp2_with fail
                refine Calls.mono HSR.out ?_
                rintro e w13 ⟨rfl, b13⟩
                go_wp2_with fail
                refine (HAW.out _).mono ?_
                rintro e w14 ⟨rfl, b14⟩
                go_wp2
                go_ret
                exact ⟨rfl, chain (chain (HI12.out).lo b13) b14⟩
      · have hs3 : (n : Int) < (l.length : Int) := of_decide_eq_true hs1
        have hs4 : ¬ (n : Int) < 80 := of_decide_eq_false hs2
        cases hik : isK key
        · rw [hik] at HF
          go_wp2_with fail
          refine Calls.mono (treeProve_bad key wr (HI.out).t hik) ?_
          rintro e w3 ⟨he, b3⟩
          obtain ⟨n0, q0, m0, cp0, rfl, HM0⟩ : ∃ (n0 : Int) (q0 : Option Addr) (m0 cp0 : Nat), e = .returned (.tuple #[.agg #[.int .i64 n0, .slice q0 m0 cp0], .int .i64 14]) ∧ Hid (m0 = 0) := ⟨0, none, 0, 0, he, rfl⟩
          have dm : ((m0 : Int) == 0) = true := by rw [HM0.out]; rfl
          have dm' : decide ((m0 : Int) = 0) = true := dm
          obtain ⟨W4, hW4, X4, B4⟩ : ∃ W4, w3.alloc (.cells #[.int .i64 n0, .slice q0 m0 cp0] 36) = W4 ∧ Blk W4 w3.heap.size #[.int .i64 n0, .slice q0 m0 cp0] 36 ∧ Below w3.heap.size w3 W4 := ⟨_, rfl, blk_new _ _ _ _ rfl, by go_grown⟩
          have e1 : W4.cell? ⟨w3.heap.size, 1, none⟩ = some (.slice q0 m0 cp0) := X4.cell rfl
          have LO : Below w.heap.size w W4 := chain (chain (HI.out).lo b3) B4
          clear he hik
          go_wp2_with fail
          refine (HF.out _).mono ?_
          rintro e w5 ⟨rfl, rfl⟩
          go_wp2_with fail
          refine (HAW.out _).mono ?_
          rintro e w6 ⟨rfl, b6⟩
          go_wp2
          go_ret
          exact ⟨rfl, chain LO b6⟩
        · rw [hik] at HF
          go_wp2_with fail
          refine Calls.mono (treeProve_calls key wr (HI.out).t (by omega) (by omega) hik) ?_
          rintro e w3 ⟨rr, L, ls, T3, pv, cv, hlv, hsp, hpo, rfl, ho, hss, G3⟩
          have l3 := G3.len
          have hzz := (HI.out).t.fit
          have hoks : ∀ q ∈ L, ptOk q.1 = true := fun q hq => by
            obtain ⟨i, hi⟩ := hpo.each q.1 (List.mem_map.2 ⟨q, hq, rfl⟩)
            exact (hi.ok hlv (by omega) hzz).1
          have hL2 : L.length ≤ 2 := by have := hpo.two; rw [List.length_map] at this; exact this
          have I3 := (HI.out).grew HW.out.2.1 HW.out.2.2 G3
          obtain ⟨W4, hW4, X4, B4⟩ : ∃ W4, w3.alloc (.cells #[.int .i64 d.length, .slice pv L.length cv] 36) = W4 ∧ Blk W4 w3.heap.size #[.int .i64 d.length, .slice pv L.length cv] 36 ∧ Below w3.heap.size w3 W4 := ⟨_, rfl, blk_new _ _ _ _ rfl, by go_grown⟩
          have HI4 : Hid _ := I3.below B4
          have HOW : Hid _ := own_below ho B4
          have HSS : Hid (∀ q ∈ L, W4.ownsRow wr.heap.size 9 1 q.2 q.1.sides.length (txC q.1.sides)) := fun q hq => own_below (hss q hq) B4
          have HPO : Hid _ := hpo
          have HSP : Hid _ := hsp
          have HLV : Hid _ := hlv
          have HOK : Hid _ := hoks
          clear hlv hsp hpo ho hss G3 hzz hoks I3 HI hik
          go_wp2_with fail
          refine (HF.out _).mono ?_
          rintro e w5 ⟨rfl, rfl⟩
          go_wp2_with fail
          refine Calls.mono (treeRecords_calls _ (HI4.out).t (by omega)) ?_
          rintro e w6 ⟨v6, rfl, o6, b6⟩
          obtain ⟨ga, gc, rfl⟩ := own_sliceM o6
          have X6 := X4.below b6
          have e0 : w6.cell? ⟨w3.heap.size, 0, none⟩ = some (.int .i64 d.length) := X6.cell rfl
          have e1 : w6.cell? ⟨w3.heap.size, 1, none⟩ = some (.slice pv L.length cv) := X6.cell rfl
          have I6 := (HI4.out).below b6
          have HAG : Hid (Apt (.slice ga d.length gc) lv ∧ Apt (.slice ga d.length gc) (.slice oa d.length oc)) := ⟨fun g hg e => by
            have h1 := (o6.lt g hg).1
            have h2 := ((HI4.out).t.rows.lt g e).2
            omega, fun g hg e => by
            have h1 := (o6.lt g hg).1
            have h2 := ((HI4.out).row.lt g e).2
            omega⟩
          have bD : Below w6.heap.size w6 w6.drew := (Below.refl _ _).drew
          have HI7 : Hid _ := I6.below bD
          have HB7 : Hid _ := (HI7.out).t.book
          have HGO : Hid (w6.drew.ownsRow w.heap.size 47 2 (.slice ga d.length gc) d.length (rcCells d)) := own_below (ownsRow_weakM o6 (HI4.out).lo.size) bD
          have HPRF : Hid _ := proof_law _ d ls key rr w6.drew (HI7.out).rcs (by omega) (HI7.out).t.rise HSP.out (HI7.out).t.fit HLV.out HB7.out (by omega)
          have HOW7 : Hid _ := own_below (own_below HOW.out b6) bD
          have HSS7 : Hid (∀ q ∈ L, w6.drew.ownsRow wr.heap.size 9 1 q.2 q.1.sides.length (txC q.1.sides)) := fun q hq => own_below (own_below (HSS.out q hq) b6) bD
          clear I6 o6 b6 HI4 HOW HSS X4 X6 hW4 B4 bD
          go_wp2_with fail
          refine wp_region_any (by kernel_rfl) ?_
          change wpAny _ _ _ _ _ _ _ (World.drew _)
          refine wpAny_take (i := 0) (v := (.int .i64 0)) rfl (by kernel_rfl) (by kernel_rfl) (by kernel_rfl) (fun _ _ _ h => h) (Or.inl ⟨by first | rfl | kernel_rfl, fun w => by go_simp⟩) ?_
          refine wpAny_take (i := 1) (v := (.bool false)) rfl (by kernel_rfl) (by kernel_rfl) (by kernel_rfl) (fun _ _ _ h => h) (Or.inl ⟨by first | rfl | kernel_rfl, fun w => by go_simp⟩) ?_
          refine wpAny_take (i := 2) (v := (.bool false)) rfl (by kernel_rfl) (by kernel_rfl) (by kernel_rfl) (fun _ _ _ h => h) (Or.inl ⟨by first | rfl | kernel_rfl, fun w => by go_simp⟩) ?_
          refine wpAny_take (i := 4) (v := (.pointer (some ⟨p, 0, none⟩))) rfl (by kernel_rfl) (by kernel_rfl) (by kernel_rfl) (fun _ _ _ h => h) (Or.inl ⟨by first | rfl | kernel_rfl, fun w => by go_simp⟩) ?_
          refine wpAny_take (i := 5) (v := (.slice oa d.length oc)) rfl (by kernel_rfl) (by kernel_rfl) (by kernel_rfl) (fun _ _ _ h => h) (Or.inl ⟨by first | rfl | kernel_rfl, fun w => by go_simp⟩) ?_
          refine wpAny_take (i := 6) (v := (.string key)) rfl (by kernel_rfl) (by kernel_rfl) (by kernel_rfl) (fun _ _ _ h => h) (Or.inl ⟨by first | rfl | kernel_rfl, fun w => by go_simp⟩) ?_
          refine wpAny_ready (rs := [3, 7]) (by kernel_rfl) (by simp) ?_
          refine AllReady.cons rfl (fun K hK => ?_) (AllReady.cons rfl (fun K hK => ?_) AllReady.nil)
          · go_simp
            refine hK _ _ ?_
            clear hK
            refine wpAny_ready (rs := [7]) (by kernel_rfl) (by simp) ?_
            refine AllReady.cons rfl (fun K hK => ?_) AllReady.nil
            go_simp
            refine Calls.mono HPRF.out ?_
            rintro e w8 ⟨L2, T8, pv2, cv2, rfl, pf2, o2, os2, G8⟩
            have l8 := G8.len
            have f0 : w8.cell? ⟨w3.heap.size, 0, none⟩ = some (.int .i64 d.length) := keepCell2 HB7.out G8.off e0
            have f1 : w8.cell? ⟨w3.heap.size, 1, none⟩ = some (.slice pv L.length cv) := keepCell2 HB7.out G8.off e1
            have hsame : L.map Prod.fst = L2.map Prod.fst := PF.same (PF.ext (PathsOk.pf HPO.out (Spot.le HSP.out)) G8.ext) pf2
            have hp1 := (ptsC_own (own_off2 HB7.out HOW7.out G8.off) (fun q hq => own_off2 HB7.out (HSS7.out q hq) G8.off) HOK.out).1
            have hp2 := (ptsC_own o2 os2 (fun q hq => by
              have : q.1 ∈ L.map Prod.fst := by rw [hsame]; exact List.mem_map.2 ⟨q, hq, rfl⟩
              obtain ⟨q', hq', e'⟩ := List.mem_map.1 this
              rw [← e']; exact HOK.out q' hq')).1
            rw [← hsame] at hp2
            have hSP := sameProof_same ⟨d.length, L.map Prod.fst⟩ (.slice pv L.length cv) (.slice pv2 L2.length cv2) w8 hp1 hp2 (by simp; omega) (fun t ht => by obtain ⟨q, hq, e'⟩ := List.mem_map.1 ht; rw [← e']; exact (ptOk_parts (HOK.out q hq)).2.2.2.1)
            unfold Pf.val at hSP
            have HSPP : Hid _ := hSP
            have HI8 : Hid _ := (HI7.out).grew HW.out.2.1 HW.out.2.2 G8
            have HG8 : Hid _ := own_off2 HB7.out HGO.out G8.off
            clear hSP hp1 hp2 pf2 o2 os2 G8 hsame
            refine hK _ _ ?_
            clear hK
            refine wpAny_ready (rs := [8]) (by kernel_rfl) (by simp) ?_
            refine AllReady.cons rfl (fun K hK => ?_) AllReady.nil
            go_simp
            refine Calls.mono HSPP.out ?_
            rintro e w9 ⟨rfl, b9⟩
            refine hK _ _ ?_
            clear hK
            have HI9 : Hid _ := (HI8.out).below b9
            have HG9 : Hid _ := own_below HG8.out b9
            have hSR := sameRecords_ref (.slice ga d.length gc) (.slice oa d.length oc) d d w9 (rcs_of_own HG9.out (fun m hm => by have := (HI9.out).t.fit m hm; unfold maxLen; omega)) (HI9.out).rcs (by omega) (by omega)
            rw [sameRc_self] at hSR
            have HSR : Hid _ := hSR
            clear hSR
            refine wpAny_take (i := 9) (v := (.bool false)) rfl (by kernel_rfl) (by kernel_rfl) (by kernel_rfl) (fun _ _ _ h => h) (Or.inl ⟨by first | rfl | kernel_rfl, fun w => by go_simp⟩) ?_
            refine wpAny_take (i := 10) (v := (.bool false)) rfl (by kernel_rfl) (by kernel_rfl) (by kernel_rfl) (fun _ _ _ h => h) (Or.inl ⟨by first | rfl | kernel_rfl, fun w => by go_simp⟩) ?_
            refine wpAny_take (i := 11) (v := (.bool false)) rfl (by kernel_rfl) (by kernel_rfl) (by kernel_rfl) (fun _ _ _ h => h) (Or.inl ⟨by first | rfl | kernel_rfl, fun w => by go_simp⟩) ?_
            refine wpAny_take (i := 12) (v := (.slice ga d.length gc)) rfl (by kernel_rfl) (by kernel_rfl) (by kernel_rfl) (fun _ _ _ h => h) (Or.inl ⟨by first | rfl | kernel_rfl, fun w => by go_simp⟩) ?_
            refine wpAny_take (i := 13) (v := (.slice oa d.length oc)) rfl (by kernel_rfl) (by kernel_rfl) (by kernel_rfl) (fun _ _ _ h => h) (Or.inl ⟨by first | rfl | kernel_rfl, fun w => by go_simp⟩) ?_
            refine wpAny_ready (rs := [14]) (by kernel_rfl) (by simp) ?_
            refine AllReady.cons rfl (fun K hK => ?_) AllReady.nil
            go_simp
            refine Calls.mono HSR.out ?_
            rintro e w10 ⟨rfl, b10⟩
            refine hK _ _ ?_
            clear hK
            refine wpAny_take (i := 15) (v := (.bool false)) rfl (by kernel_rfl) (by kernel_rfl) (by kernel_rfl) (fun _ _ _ h => h) (Or.inl ⟨by first | rfl | kernel_rfl, fun w => by go_simp⟩) ?_
            refine wpAny_take (i := 16) (v := (.bool false)) rfl (by kernel_rfl) (by kernel_rfl) (by kernel_rfl) (fun _ _ _ h => h) (Or.inl ⟨by first | rfl | kernel_rfl, fun w => by go_simp⟩) ?_
            refine wpAny_done (by kernel_rfl) ?_ _
            have HI10 : Hid (GrI w w10 k p b x y T8 d (.slice oa d.length oc) lv dv) := (HI9.out).below b10
            have HG10 : Hid _ := own_below HG9.out b10
            clear HI8 HG8 HI9 HG9 b9 b10 HSPP HSR f0 f1
            go_wp2_with fail
            go_loopw [14] (fun i wz => ∃ (m : Nat) (xs : List Value), m ≤ d.length ∧ i = .int .i64 m ∧ Hid (GrI w wz k p b x y T8 d (.slice oa d.length oc) lv dv ∧ wz.ownsRow w.heap.size 47 2 (.slice ga d.length gc) d.length xs)) (fun i _ => d.length - (intOf i).toNat)
            case atStart => exact ⟨0, _, Nat.zero_le _, rfl, HI10.out, HG10.out⟩
            case round =>
              obtain ⟨m, xs, hm, rfl, HX⟩ := hrel
              by_cases hmd : m < d.length
              · have d9 : decide ((m : Int) < (d.length : Int)) = true := by simp only [decide_eq_true_eq]; omega
                have hml : (m : Int) < (d.length : Int) := by omega
                obtain ⟨g3, rfl, hx3⟩ : ∃ g3, ga = some ⟨g3, 0, none⟩ ∧ Hid (wr.ownsRow w.heap.size 47 2 (.slice (some ⟨g3, 0, none⟩) d.length gc) d.length xs) := by
                  obtain ⟨g3, c3, q, _, _⟩ := HX.out.2.form (by omega)
                  injection q with q1 _ q3
                  subst q1
                  exact ⟨g3, rfl, HX.out.2⟩
                have f3 : wr.frozen? ⟨g3, m * 2 + 1, none⟩ = false := (hx3.out).frozenAt _
                obtain ⟨u3, hu3⟩ : ∃ u3, wr.cell? ⟨g3, m * 2 + 1, none⟩ = some u3 := by
                  rw [(hx3.out).cellAt _ (by omega), List.getElem?_eq_getElem (by rw [(hx3.out).1]; omega)]
                  exact ⟨_, rfl⟩
                have HN : Hid (GrI w (wr.setCell ⟨g3, m * 2 + 1, none⟩ (.string ⟨#[115, 112, 111, 105, 108, 116]⟩)) k p b x y T8 d (.slice oa d.length oc) lv dv ∧ (wr.setCell ⟨g3, m * 2 + 1, none⟩ (.string ⟨#[115, 112, 111, 105, 108, 116]⟩)).ownsRow w.heap.size 47 2 (.slice (some ⟨g3, 0, none⟩) d.length gc) d.length (xs.set (m * 2 + 1) (.string ⟨#[115, 112, 111, 105, 108, 116]⟩))) :=
                  ⟨GrI.off (g := g3) HX.out.1 hx3.out rfl HAG.out.1 HAG.out.2 (Off.setCell (Off.refl g3 wr) (p := ⟨g3, m * 2 + 1, none⟩) rfl _), ((hx3.out).stored _ _).1⟩
                clear HX hx3
                go_wp2
                refine ⟨⟨m + 1, _, by omega, by norm_cast, HN.out⟩, ?_⟩
                simp [intOf]; omega
              · have d9 : decide ((m : Int) < (d.length : Int)) = false := by simp only [decide_eq_false_iff_not]; omega
                have d9' : ¬ (m : Int) < (d.length : Int) := by omega
                have HI11 : Hid _ := HX.out.1
                clear HX HG10 HI10
                go_wp2_with fail
                refine Calls.mono (treeRecords_calls wr (HI11.out).t (by omega)) ?_
                rintro e w12 ⟨v12, rfl, o12, b12⟩
                obtain ⟨ra, rc, rfl⟩ := own_sliceM o12
                have HI12 : Hid _ := (HI11.out).below b12
                have hSR := sameRecords_ref (.slice ra d.length rc) (.slice oa d.length oc) d d w12 (rcs_of_own o12 (fun m hm => by have := (HI12.out).t.fit m hm; unfold maxLen; omega)) (HI12.out).rcs (by omega) (by omega)
                rw [sameRc_self] at hSR
                have HSR : Hid _ := hSR
                clear hSR o12 b12 HI11
                go_wp2_with fail
                refine Calls.mono HSR.out ?_
                rintro e w13 ⟨rfl, b13⟩
                go_wp2_with fail
                refine (HAW.out _).mono ?_
                rintro e w14 ⟨rfl, b14⟩
                go_wp2
                go_ret
                exact ⟨rfl, chain (chain (HI12.out).lo b13) b14⟩
          · go_simp
            refine Calls.mono HPRF.out ?_
            rintro e w8 ⟨L2, T8, pv2, cv2, rfl, pf2, o2, os2, G8⟩
            have l8 := G8.len
            have f0 : w8.cell? ⟨w3.heap.size, 0, none⟩ = some (.int .i64 d.length) := keepCell2 HB7.out G8.off e0
            have f1 : w8.cell? ⟨w3.heap.size, 1, none⟩ = some (.slice pv L.length cv) := keepCell2 HB7.out G8.off e1
            have hsame : L.map Prod.fst = L2.map Prod.fst := PF.same (PF.ext (PathsOk.pf HPO.out (Spot.le HSP.out)) G8.ext) pf2
            have hp1 := (ptsC_own (own_off2 HB7.out HOW7.out G8.off) (fun q hq => own_off2 HB7.out (HSS7.out q hq) G8.off) HOK.out).1
            have hp2 := (ptsC_own o2 os2 (fun q hq => by
              have : q.1 ∈ L.map Prod.fst := by rw [hsame]; exact List.mem_map.2 ⟨q, hq, rfl⟩
              obtain ⟨q', hq', e'⟩ := List.mem_map.1 this
              rw [← e']; exact HOK.out q' hq')).1
            rw [← hsame] at hp2
            have hSP := sameProof_same ⟨d.length, L.map Prod.fst⟩ (.slice pv L.length cv) (.slice pv2 L2.length cv2) w8 hp1 hp2 (by simp; omega) (fun t ht => by obtain ⟨q, hq, e'⟩ := List.mem_map.1 ht; rw [← e']; exact (ptOk_parts (HOK.out q hq)).2.2.2.1)
            unfold Pf.val at hSP
            have HSPP : Hid _ := hSP
            have HI8 : Hid _ := (HI7.out).grew HW.out.2.1 HW.out.2.2 G8
            have HG8 : Hid _ := own_off2 HB7.out HGO.out G8.off
            clear hSP hp1 hp2 pf2 o2 os2 G8 hsame
            refine hK _ _ ?_
            clear hK
            refine wpAny_ready (rs := [3]) (by kernel_rfl) (by simp) ?_
            refine AllReady.cons rfl (fun K hK => ?_) AllReady.nil
            go_simp
            refine hK _ _ ?_
            clear hK
            refine wpAny_ready (rs := [8]) (by kernel_rfl) (by simp) ?_
            refine AllReady.cons rfl (fun K hK => ?_) AllReady.nil
            go_simp
            refine Calls.mono HSPP.out ?_
            rintro e w9 ⟨rfl, b9⟩
            refine hK _ _ ?_
            clear hK
            have HI9 : Hid _ := (HI8.out).below b9
            have HG9 : Hid _ := own_below HG8.out b9
            have hSR := sameRecords_ref (.slice ga d.length gc) (.slice oa d.length oc) d d w9 (rcs_of_own HG9.out (fun m hm => by have := (HI9.out).t.fit m hm; unfold maxLen; omega)) (HI9.out).rcs (by omega) (by omega)
            rw [sameRc_self] at hSR
            have HSR : Hid _ := hSR
            clear hSR
            refine wpAny_take (i := 9) (v := (.bool false)) rfl (by kernel_rfl) (by kernel_rfl) (by kernel_rfl) (fun _ _ _ h => h) (Or.inl ⟨by first | rfl | kernel_rfl, fun w => by go_simp⟩) ?_
            refine wpAny_take (i := 10) (v := (.bool false)) rfl (by kernel_rfl) (by kernel_rfl) (by kernel_rfl) (fun _ _ _ h => h) (Or.inl ⟨by first | rfl | kernel_rfl, fun w => by go_simp⟩) ?_
            refine wpAny_take (i := 11) (v := (.bool false)) rfl (by kernel_rfl) (by kernel_rfl) (by kernel_rfl) (fun _ _ _ h => h) (Or.inl ⟨by first | rfl | kernel_rfl, fun w => by go_simp⟩) ?_
            refine wpAny_take (i := 12) (v := (.slice ga d.length gc)) rfl (by kernel_rfl) (by kernel_rfl) (by kernel_rfl) (fun _ _ _ h => h) (Or.inl ⟨by first | rfl | kernel_rfl, fun w => by go_simp⟩) ?_
            refine wpAny_take (i := 13) (v := (.slice oa d.length oc)) rfl (by kernel_rfl) (by kernel_rfl) (by kernel_rfl) (fun _ _ _ h => h) (Or.inl ⟨by first | rfl | kernel_rfl, fun w => by go_simp⟩) ?_
            refine wpAny_ready (rs := [14]) (by kernel_rfl) (by simp) ?_
            refine AllReady.cons rfl (fun K hK => ?_) AllReady.nil
            go_simp
            refine Calls.mono HSR.out ?_
            rintro e w10 ⟨rfl, b10⟩
            refine hK _ _ ?_
            clear hK
            refine wpAny_take (i := 15) (v := (.bool false)) rfl (by kernel_rfl) (by kernel_rfl) (by kernel_rfl) (fun _ _ _ h => h) (Or.inl ⟨by first | rfl | kernel_rfl, fun w => by go_simp⟩) ?_
            refine wpAny_take (i := 16) (v := (.bool false)) rfl (by kernel_rfl) (by kernel_rfl) (by kernel_rfl) (fun _ _ _ h => h) (Or.inl ⟨by first | rfl | kernel_rfl, fun w => by go_simp⟩) ?_
            refine wpAny_done (by kernel_rfl) ?_ _
            have HI10 : Hid (GrI w w10 k p b x y T8 d (.slice oa d.length oc) lv dv) := (HI9.out).below b10
            have HG10 : Hid _ := own_below HG9.out b10
            clear HI8 HG8 HI9 HG9 b9 b10 HSPP HSR f0 f1
            go_wp2_with fail
            go_loopw [14] (fun i wz => ∃ (m : Nat) (xs : List Value), m ≤ d.length ∧ i = .int .i64 m ∧ Hid (GrI w wz k p b x y T8 d (.slice oa d.length oc) lv dv ∧ wz.ownsRow w.heap.size 47 2 (.slice ga d.length gc) d.length xs)) (fun i _ => d.length - (intOf i).toNat)
            case atStart => exact ⟨0, _, Nat.zero_le _, rfl, HI10.out, HG10.out⟩
            case round =>
              obtain ⟨m, xs, hm, rfl, HX⟩ := hrel
              by_cases hmd : m < d.length
              · have d9 : decide ((m : Int) < (d.length : Int)) = true := by simp only [decide_eq_true_eq]; omega
                have hml : (m : Int) < (d.length : Int) := by omega
                obtain ⟨g3, rfl, hx3⟩ : ∃ g3, ga = some ⟨g3, 0, none⟩ ∧ Hid (wr.ownsRow w.heap.size 47 2 (.slice (some ⟨g3, 0, none⟩) d.length gc) d.length xs) := by
                  obtain ⟨g3, c3, q, _, _⟩ := HX.out.2.form (by omega)
                  injection q with q1 _ q3
                  subst q1
                  exact ⟨g3, rfl, HX.out.2⟩
                have f3 : wr.frozen? ⟨g3, m * 2 + 1, none⟩ = false := (hx3.out).frozenAt _
                obtain ⟨u3, hu3⟩ : ∃ u3, wr.cell? ⟨g3, m * 2 + 1, none⟩ = some u3 := by
                  rw [(hx3.out).cellAt _ (by omega), List.getElem?_eq_getElem (by rw [(hx3.out).1]; omega)]
                  exact ⟨_, rfl⟩
                have HN : Hid (GrI w (wr.setCell ⟨g3, m * 2 + 1, none⟩ (.string ⟨#[115, 112, 111, 105, 108, 116]⟩)) k p b x y T8 d (.slice oa d.length oc) lv dv ∧ (wr.setCell ⟨g3, m * 2 + 1, none⟩ (.string ⟨#[115, 112, 111, 105, 108, 116]⟩)).ownsRow w.heap.size 47 2 (.slice (some ⟨g3, 0, none⟩) d.length gc) d.length (xs.set (m * 2 + 1) (.string ⟨#[115, 112, 111, 105, 108, 116]⟩))) :=
                  ⟨GrI.off (g := g3) HX.out.1 hx3.out rfl HAG.out.1 HAG.out.2 (Off.setCell (Off.refl g3 wr) (p := ⟨g3, m * 2 + 1, none⟩) rfl _), ((hx3.out).stored _ _).1⟩
                clear HX hx3
                go_wp2
                refine ⟨⟨m + 1, _, by omega, by norm_cast, HN.out⟩, ?_⟩
                simp [intOf]; omega
              · have d9 : decide ((m : Int) < (d.length : Int)) = false := by simp only [decide_eq_false_iff_not]; omega
                have d9' : ¬ (m : Int) < (d.length : Int) := by omega
                have HI11 : Hid _ := HX.out.1
                clear HX HG10 HI10
                go_wp2_with fail
                refine Calls.mono (treeRecords_calls wr (HI11.out).t (by omega)) ?_
                rintro e w12 ⟨v12, rfl, o12, b12⟩
                obtain ⟨ra, rc, rfl⟩ := own_sliceM o12
                have HI12 : Hid _ := (HI11.out).below b12
                have hSR := sameRecords_ref (.slice ra d.length rc) (.slice oa d.length oc) d d w12 (rcs_of_own o12 (fun m hm => by have := (HI12.out).t.fit m hm; unfold maxLen; omega)) (HI12.out).rcs (by omega) (by omega)
                rw [sameRc_self] at hSR
                have HSR : Hid _ := hSR
                clear hSR o12 b12 HI11
                go_wp2_with fail
                refine Calls.mono HSR.out ?_
                rintro e w13 ⟨rfl, b13⟩
                go_wp2_with fail
                refine (HAW.out _).mono ?_
                rintro e w14 ⟨rfl, b14⟩
                go_wp2
                go_ret
                exact ⟨rfl, chain (chain (HI12.out).lo b13) b14⟩
end Go.Proofs.YtpcafjbebhcilaaGreat
