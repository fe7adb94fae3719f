/- WholeProofs: the law. -/
import Derived.Test.YtocphdikppeijaaWx53
import Derived.Test.YtocphdikppeijaaWx44
import Derived.Deep.DeepCutAuto
import Derived.Deep.CutBlock
namespace Go.Proofs.Ytocphdikppeijaa
open Go.RowKit
set_option linter.unusedSimpArgs false
set_option linter.unusedVariables false

def arnW (n m : Int) : Int := if n.tmod m < 0 then 0 - n.tmod m else n.tmod m
theorem arnW_range (n m : Int) (h : 1 ≤ m) : 0 ≤ arnW n m ∧ arnW n m < m := by
  unfold arnW
  have h1 := Int.tmod_lt_of_pos n (show 0 < m by omega)
  have h2 : -m < n.tmod m := by
    have := Int.lt_tmod_of_pos n (show 0 < m by omega)
    omega
  split <;> omega
theorem aroundW_calls (n m : Int) (w : World) (h : 1 ≤ m) (hm : m ≤ 1000000) : Calls Try.prog 11 #[.int .i64 n, .int .i64 m] w fun e w' => e = .returned (.int .i64 (arnW n m)) ∧ w' = w := by
  have h1 := Int.tmod_lt_of_pos n (show 0 < m by omega)
  have h2 : -m < n.tmod m := by
    have := Int.lt_tmod_of_pos n (show 0 < m by omega)
    omega
  have e0 : ¬ m = 0 := by omega
  have e00 : (m == 0) = false := by simpa using e0
  have e1 : IntKind.i64.wrap (n.tmod m) = n.tmod m := wrapC (by omega) (by omega)
  have e2 : IntKind.i64.wrap (0 - n.tmod m) = 0 - n.tmod m := wrapC (by omega) (by omega)
  have e3 : IntKind.i64.wrap (-n.tmod m) = -n.tmod m := wrapC (by omega) (by omega)
  by_cases hn : n.tmod m < 0
  · have hd : decide (n.tmod m < 0) = true := decide_eq_true hn
    have HR : Hid (arnW n m = 0 - n.tmod m) := by show _ = _; unfold arnW; rw [if_pos hn]
    go_enter Try.func11, Try.ntmps11
    go_wp2
    go_ret
    exact ⟨by rw [HR.out]; simp, rfl⟩
  · have hd : decide (n.tmod m < 0) = false := decide_eq_false hn
    have HR : Hid (arnW n m = n.tmod m) := by show _ = _; unfold arnW; rw [if_neg hn]
    go_enter Try.func11, Try.ntmps11
    go_wp2
    go_ret
    exact ⟨by rw [HR.out]; rfl, rfl⟩
theorem rcsC_cut {w : World} {a : Option Addr} {l : List Rc} {cap : Nat} (h : RcsC w (.slice a l.length cap) l) (h60 : 60 < l.length) : RcsC w (.slice a 60 cap) (l.take 60) := by
  obtain ⟨hr, a', cap', e, hc, hm⟩ := h
  have e60 : (l.take 60).length = 60 := by rw [List.length_take]; omega
  simp only [Value.slice.injEq] at e
  obtain ⟨rfl, _, rfl⟩ := e
  refine ⟨?_, a, cap, by rw [e60], by omega, hm⟩
  rcases hr with ⟨_, h0⟩ | ⟨g, off, c, e, hx⟩
  · rw [h0] at h60; simp at h60
  · simp only [Value.slice.injEq] at e
    obtain ⟨rfl, _, rfl⟩ := e
    refine Or.inr ⟨g, off, cap, by rw [e60], fun i hi => ?_⟩
    rw [List.getElem_take]
    exact hx i (by omega)

set_option maxHeartbeats 4000000 in
set_option maxRecDepth 100000 in
theorem wholeProofs_calls (v : Value) (l : List Rc) (key : ByteArray) (who : Int) (w : World) (hl : RcsC w v l) :
    Calls Try.prog 3 #[v, .string key, .int .i64 who] w fun e w' => e = .returned (.bool true) ∧ Below w.heap.size w w' := by
  have HN : Hid _ := newBook_calls w
  have HL : Hid _ := hl
  have HAr : Hid _ := fun wx => aroundW_calls who 256 wx (by decide) (by decide)
  have hsg : isSg (arnW who 256) = true := by
    have := arnW_range who 256 (by decide)
    unfold isSg
    simp only [decide_eq_true_eq]
    omega
  have HSG : Hid _ := hsg
  clear hsg
  generalize arnW who 256 = wh at *
  obtain ⟨a, cap, rfl⟩ : ∃ a cap, v = .slice a l.length cap := by obtain ⟨_, a, cap, e, _⟩ := hl; exact ⟨a, cap, e⟩
  have hcap : l.length ≤ cap ∧ cap ≤ 9223372036854775807 := by
    obtain ⟨_, a', cap', e, h1, h2⟩ := hl
    simp only [Value.slice.injEq] at e
    obtain ⟨_, _, rfl⟩ := e
    exact ⟨h1, h2⟩
  clear hl
  go_enter Try.func3, Try.ntmps3
  go_wp2_with fail
  refine Calls.mono HN.out ?_
  rintro e w1 ⟨p, b, x, y, rfl, hB, b1, g1, g2, g3, g4⟩
  have HL1 : Hid _ := RcsC.below HL.out b1
  clear HL
  go_upto_if 22 with fail
  go_cut [0] (fun s1 wx => s1 = .slice a (min 60 l.length) cap ∧ wx = w1)
  case first =>
    by_cases h : 60 < l.length
    · have hd : decide (60 < (l.length : Int)) = true := by simp only [decide_eq_true_eq]; omega
      go_wp2_with fail
      go_meet
      exact ⟨by rw [Nat.min_eq_left (by omega)], rfl⟩
    · have hd : decide (60 < (l.length : Int)) = false := by simp only [decide_eq_false_iff_not]; omega
      go_wp2_with fail
      go_meet
      exact ⟨by rw [Nat.min_eq_right (by omega)], rfl⟩
  case rest =>
    obtain ⟨rfl, rfl⟩ := hcut
    rename World => w2
    obtain ⟨l1, zl, HL2⟩ : ∃ l1 : List Rc, l1.length = min 60 l.length ∧ Hid (RcsC w2 (.slice a l1.length cap) l1) := by
      by_cases h : 60 < l.length
      · refine ⟨l.take 60, by rw [List.length_take], ?_⟩
        have e60 : (l.take 60).length = 60 := by rw [List.length_take]; omega
        have := rcsC_cut HL1.out h
        rw [e60]
        exact this
      · exact ⟨l, by omega, HL1.out⟩
    rw [← zl]
    have zl' : l1.length ≤ 60 := by omega
    clear HL1 zl hcap
    have HR : Hid _ := root_calls _ l1 w2 HL2.out.1 (by omega) hB (by simp) (by simp)
    have HI : Hid _ := fun (wx : World) (h : Rcs wx (.slice a l1.length cap) l1) => rise_ref _ l1 wx h (by omega)
    have HF : Hid _ := refFits_calls key
    have HA : Hid _ := works_calls
    go_wp2_with fail
    refine Calls.mono HR.out ?_
    rintro e w4 P4
    by_cases r1 : riseR l1 = 0
    · obtain ⟨r, T4, rfl, R4, G4⟩ := P4.good r1
      have l4 := G4.len
      simp only [List.length_nil, Nat.zero_add] at l4
      have b4 : Below w.heap.size w w4 := G4.off.below g3 g4 b1 b1.size
      have hL4 := Rcs.off2 HL2.out.1 hB G4.off
      have HP : Hid _ := proveRecs_calls _ l1 key w4 hL4 (by omega) G4.book (by simp) (by omega)
      have HL4 : Hid _ := hL4
      have HR4 : Hid _ := R4
      have HB4 : Hid _ := G4.book
      clear P4 G4 R4 HL2 HR hL4
      go_wp2_with fail
      refine Calls.mono HP.out ?_
      rintro e w5 P5
      cases hk : isK key
      · obtain ⟨he, b5⟩ := P5.field r1 hk
        obtain ⟨n0, q0, m0, cp0, rfl⟩ : ∃ (n0 : Int) (q0 : Option Addr) (m0 cp0 : Nat), e = .returned (.tuple #[.agg #[.int .i64 n0, .slice q0 m0 cp0], .int .i64 14]) := ⟨0, none, 0, 0, he⟩
        have c1 := HI.out
        have c2 := HF.out
        rw [r1] at c1
        rw [hk] at c2
        have C1 : Hid _ := fun wx (hb : Below w5.heap.size w5 wx) => c1 wx ((Rcs.below HL4.out b5).below hb)
        have C2 : Hid _ := c2
        clear c1 c2 HI HF P5 HP HL4 HR4 HB4
        obtain ⟨W6, hW6, B6⟩ : ∃ W6, w5.alloc (.cells #[.int .i64 n0, .slice q0 m0 cp0] 30) = W6 ∧ Below w5.heap.size w5 W6 := ⟨_, rfl, by go_grown⟩
        go_wp2_with fail
        refine (C1.out _ B6).mono ?_
        rintro e w7 ⟨rfl, b7⟩
        go_wp2_with fail
        refine (C2.out _).mono ?_
        rintro e w8 ⟨rfl, rfl⟩
        go_wp2_with fail
        refine (HA.out _).mono ?_
        rintro e w9 ⟨rfl, b9⟩
        go_wp2
        go_ret
        exact ⟨rfl, chain (chain (chain (chain b4 b5) B6) b7) b9⟩
      · obtain ⟨rr, L, ls, T5, pv, cv, hlv, hsp, hpo, rfl, ho, hss, G5⟩ := P5.good r1 hk
        have l5 := G5.len
        have b5 : Below w.heap.size w w5 := G5.off.below g3 g4 b4 b4.size
        obtain ⟨hn4, hzz⟩ := riseR_ok r1
        have hfit := hpo.fits hlv hn4 hzz
        have hshow := hpo.shows hsp
        have hR5 := RootOf.ext G5.ext HR4.out
        have hled := hpo.led hlv hR5
        have htr : Truth l1 key (valB ⟨l1.length, L.map Prod.fst⟩ key) (thereB ⟨l1.length, L.map Prod.fst⟩ key) := sound (by omega) hR5 r1 hfit hshow hled
        have hoks : ∀ q ∈ L, ptOk q.1 = true := fun q hq => by
          obtain ⟨i, hi⟩ := hpo.each q.1 (List.mem_map.2 ⟨q, hq, rfl⟩)
          exact (hi.ok hlv hn4 hzz).1
        have hpc := pts_ok ho hss hoks
        obtain ⟨Q, hQ⟩ : ∃ Q : Pf, (⟨l1.length, L.map Prod.fst⟩ : Pf) = Q := ⟨_, rfl⟩
        have hQc : Q.cnt = l1.length := by rw [← hQ]
        have hQp : Q.paths = L.map Prod.fst := by rw [← hQ]
        rw [hQ] at hfit hshow hled htr
        rw [← hQp] at hpc
        rw [← hQc]
        obtain ⟨W6, hW6, X6, B6⟩ : ∃ W6, w5.alloc (.cells #[.int .i64 Q.cnt, .slice pv L.length cv] 30) = W6 ∧ Blk W6 w5.heap.size #[.int .i64 Q.cnt, .slice pv L.length cv] 30 ∧ Below w5.heap.size w5 W6 :=
          ⟨_, rfl, blk_new _ _ _ _ rfl, by go_grown⟩
        have hB6 := G5.book.below B6
        have HC : Hid _ := fun wx (hb : Below W6.heap.size W6 wx) => carried_calls wh r Q pv L.length cv wx (hB6.below hb) (by simp) HSG.out (root_size hR5) ((hpc.below B6).below hb) (pfOk_of hfit)
        have HL6 : Hid _ := (Rcs.off2 HL4.out HB4.out G5.off).below B6
        have HB6 : Hid _ := hB6
        have HRi : Hid _ := rising_of r1
        have HF1 : Hid _ := hfit
        have HS1 : Hid _ := hshow
        have HLD : Hid _ := hled
        have HTR : Hid _ := htr
        have b6 := chain b5 B6
        have HX6 : Hid _ := X6
        have hT5 : T5.length < 900000 := by omega
        unfold Pf.val at HC
        clear hfit hshow hled htr hpc ho hss hoks hpo hsp hlv P5 HP HR4 HB4 HL4 hR5 X6 G5 hzz HI HF hQ hQc hQp l4 l5 hn4 B6 hB6 b5 b4
        go_upto_region 9 with fail
        go_cut [12, 13, 14] (fun s1 s2 s3 wx => s1 = .string r ∧ s3 = .bool true ∧ ∃ (k : Nat) (g : Option Addr) (c : Nat) (ps : List (Pt × Value)) (S6 : List (Int × ByteArray)), s2 = .pointer (some ⟨k, 0, none⟩) ∧ Blk wx k #[.int .i64 Q.cnt, .slice g ps.length c] 30 ∧ Q.paths = ps.map Prod.fst ∧ PtsC wx (.slice g ps.length c) (ps.map Prod.fst) ∧ Book wx p b x y T5 S6 ∧ S6.length ≤ 1 ∧ Off2 x y W6 wx)
        case first =>
          -- REGION8
          have e0 : W6.cell? ⟨w5.heap.size, 0, none⟩ = some (.int .i64 Q.cnt) := Blk.cell HX6.out rfl
          have e1 : W6.cell? ⟨w5.heap.size, 1, none⟩ = some (.slice pv L.length cv) := Blk.cell HX6.out rfl
          have z6 : w5.heap.size < W6.heap.size := Blk.lt HX6.out
          refine wp_region_held_drew (S := fun W => W.cell? ⟨w5.heap.size, 0, none⟩ = some (.int .i64 Q.cnt) ∧ W.cell? ⟨w5.heap.size, 1, none⟩ = some (.slice pv L.length cv)) (by kernel_rfl) ⟨e0, e1⟩ (fun hS => ?_)
          refine wpAnyH_take (i := 0) (v := .pointer (some ⟨p, 0, none⟩)) rfl (by kernel_rfl) (by kernel_rfl) (by kernel_rfl) (fun _ _ _ h => h) (Or.inl ⟨by kernel_rfl, fun w hS => by obtain ⟨s0, s1⟩ := hS; go_simp⟩) hS ?_
          refine wpAnyH_take (i := 1) (v := .int .i64 who) rfl (by kernel_rfl) (by kernel_rfl) (by kernel_rfl) (fun _ _ _ h => h) (Or.inl ⟨by kernel_rfl, fun w hS => by obtain ⟨s0, s1⟩ := hS; go_simp⟩) hS ?_
          refine wpAnyH_take (i := 3) (v := .string r) rfl (by kernel_rfl) (by kernel_rfl) (by kernel_rfl) (fun _ _ _ h => h) (Or.inl ⟨by kernel_rfl, fun w hS => by obtain ⟨s0, s1⟩ := hS; go_simp⟩) hS ?_
          refine wpAnyH_take (i := 4) (v := .agg #[.int .i64 Q.cnt, .slice pv L.length cv]) rfl (by kernel_rfl) (by kernel_rfl) (by kernel_rfl) (fun _ _ _ h => h) (Or.inl ⟨by kernel_rfl, fun w hS => by obtain ⟨s0, s1⟩ := hS; go_simp⟩) hS ?_
          refine wpAnyH_ready (rs := [2, 10]) (by kernel_rfl) (by simp) ?_
          refine AllReadyH.cons rfl (fun K hK => ?_) (AllReadyH.cons rfl (fun K hK => ?_) AllReadyH.nil)
          · go_simp
            refine Calls.mono (HAr.out _) ?_
            rintro e w7 ⟨rfl, rfl⟩
            refine hK.out _ _ hS (fun hS => ?_)
            clear hK
            refine wpAnyH_ready (rs := [5, 10]) (by kernel_rfl) (by simp) ?_
            refine AllReadyH.cons rfl (fun K hK => ?_) (AllReadyH.cons rfl (fun K hK => ?_) AllReadyH.nil)
            · go_simp
              refine Calls.mono (HC.out _ (Below.refl _ _).drew) ?_
              rintro e w8 ⟨lv, ps, S6, rfl, hps, hpo, K8, s8, o8⟩
              obtain ⟨g8, c8, rfl⟩ := own_slice hpo.row
              have o8' : Off2 x y W6 w8 := (Off2.of_below (Below.refl _ _).drew).trans o8
              refine hK.out _ _ ⟨keepCell2 HB6.out o8' e0, keepCell2 HB6.out o8' e1⟩ (fun hS => ?_)
              clear hK
              refine wpAnyH_take (i := 6) (v := .tuple #[.string r, .agg #[.int .i64 Q.cnt, .slice g8 ps.length c8], .bool true]) rfl (by kernel_rfl) (by kernel_rfl) (by kernel_rfl) (fun _ _ _ h => h) (Or.inl ⟨by kernel_rfl, fun w hS => by obtain ⟨s0, s1⟩ := hS; go_simp⟩) hS ?_
              refine wpAnyH_take (i := 7) (v := .string r) rfl (by kernel_rfl) (by kernel_rfl) (by kernel_rfl) (fun _ _ _ h => h) (Or.inl ⟨by kernel_rfl, fun w hS => by obtain ⟨s0, s1⟩ := hS; go_simp⟩) hS ?_
              refine wpAnyH_take (i := 8) (v := .agg #[.int .i64 Q.cnt, .slice g8 ps.length c8]) rfl (by kernel_rfl) (by kernel_rfl) (by kernel_rfl) (fun _ _ _ h => h) (Or.inl ⟨by kernel_rfl, fun w hS => by obtain ⟨s0, s1⟩ := hS; go_simp⟩) hS ?_
              refine wpAnyH_take (i := 9) (v := .bool true) rfl (by kernel_rfl) (by kernel_rfl) (by kernel_rfl) (fun _ _ _ h => h) (Or.inl ⟨by kernel_rfl, fun w hS => by obtain ⟨s0, s1⟩ := hS; go_simp⟩) hS ?_
              refine wpAnyH_ready (rs := [10]) (by kernel_rfl) (by simp) ?_
              refine AllReadyH.cons rfl (fun K hK => ?_) AllReadyH.nil
              go_simp
              refine hK.out _ _ ⟨keepCell (by go_grown) hS.1, keepCell (by go_grown) hS.2⟩ (fun hS => ?_)
              clear hK
              refine wpAnyH_take (i := 11) (v := .string r) rfl (by kernel_rfl) (by kernel_rfl) (by kernel_rfl) (fun _ _ _ h => h) (Or.inl ⟨by kernel_rfl, fun w hS => by obtain ⟨s0, s1⟩ := hS; go_simp⟩) hS ?_
              have X8 : Blk (w8.alloc (.cells #[.int .i64 0, .slice none 0 0] 30)) w8.heap.size #[.int .i64 0, .slice none 0 0] 30 := blk_new _ _ _ _ rfl
              have z8 := o8'.size
              refine wpAnyH_ready (rs := [12]) (by kernel_rfl) (by simp) ?_
              refine readyH_rowC 12 rfl rfl rfl rfl (w8.heap.size) #[.int .i64 Q.cnt, .slice g8 ps.length c8] (by kernel_rfl) (by kernel_rfl) 30 #[.int .i64 0, .slice none 0 0] X8 (infoPf2 _ _) rfl (pfOne _ _ _ _) ⟨keepRow hS.1 (by simp; omega), keepRow hS.2 (by simp; omega)⟩ (fun hS => ?_)
              refine wpAnyH_take (i := 13) (v := .bool true) rfl (by kernel_rfl) (by kernel_rfl) (by kernel_rfl) (fun _ _ _ h => h) (Or.inl ⟨by kernel_rfl, fun w hS => by obtain ⟨s0, s1⟩ := hS; go_simp⟩) hS ?_
              refine wpAnyH_done (by kernel_rfl) ?_ _
              obtain ⟨W9, hW9, X9, _⟩ := setRow_named X8 #[.int .i64 Q.cnt, .slice g8 ps.length c8]
              rw [hW9]
              go_wp2_with fail
              go_meet
              have b9 : Below w8.heap.size w8 W9 := below_row ((Below.refl _ _).alloc (Nat.le_refl _) _) hW9 (Nat.le_refl _)
              exact ⟨rfl, rfl, w8.heap.size, g8, c8, ps, S6, rfl, X9, hps, (ptsC_of hpo (pfOk_each (pfOk_of HF1.out) hps)).below b9, K8.below b9, by simpa using s8, o8'.trans (Off2.of_below b9)⟩
            · obtain ⟨WA, hWA, XA, BA, ZA⟩ : ∃ WA, W6.drew.alloc (.cells #[.int .i64 0, .slice none 0 0] 30) = WA ∧ Blk WA W6.heap.size #[.int .i64 0, .slice none 0 0] 30 ∧ Below W6.heap.size W6 WA ∧ WA.heap.size = W6.heap.size + 1 :=
                ⟨_, rfl, blk_new _ _ _ _ rfl, by go_grown, by simp⟩
              go_simp
              try rw [hWA]
              refine hK.out _ _ ⟨keepCell BA e0, keepCell BA e1⟩ (fun hS => ?_)
              clear hK
              refine wpAnyH_ready (rs := [5]) (by kernel_rfl) (by simp) ?_
              refine AllReadyH.cons rfl (fun K hK => ?_) AllReadyH.nil
              go_simp
              refine Calls.mono (HC.out _ BA) ?_
              rintro e w8 ⟨lv, ps, S6, rfl, hps, hpo, K8, s8, o8⟩
              obtain ⟨g8, c8, rfl⟩ := own_slice hpo.row
              have o8' : Off2 x y W6 w8 := (Off2.of_below BA).trans o8
              refine hK.out _ _ ⟨keepCell2 HB6.out o8' e0, keepCell2 HB6.out o8' e1⟩ (fun hS => ?_)
              clear hK
              refine wpAnyH_take (i := 6) (v := .tuple #[.string r, .agg #[.int .i64 Q.cnt, .slice g8 ps.length c8], .bool true]) rfl (by kernel_rfl) (by kernel_rfl) (by kernel_rfl) (fun _ _ _ h => h) (Or.inl ⟨by kernel_rfl, fun w hS => by obtain ⟨s0, s1⟩ := hS; go_simp⟩) hS ?_
              refine wpAnyH_take (i := 7) (v := .string r) rfl (by kernel_rfl) (by kernel_rfl) (by kernel_rfl) (fun _ _ _ h => h) (Or.inl ⟨by kernel_rfl, fun w hS => by obtain ⟨s0, s1⟩ := hS; go_simp⟩) hS ?_
              refine wpAnyH_take (i := 8) (v := .agg #[.int .i64 Q.cnt, .slice g8 ps.length c8]) rfl (by kernel_rfl) (by kernel_rfl) (by kernel_rfl) (fun _ _ _ h => h) (Or.inl ⟨by kernel_rfl, fun w hS => by obtain ⟨s0, s1⟩ := hS; go_simp⟩) hS ?_
              refine wpAnyH_take (i := 9) (v := .bool true) rfl (by kernel_rfl) (by kernel_rfl) (by kernel_rfl) (fun _ _ _ h => h) (Or.inl ⟨by kernel_rfl, fun w hS => by obtain ⟨s0, s1⟩ := hS; go_simp⟩) hS ?_
              refine wpAnyH_take (i := 11) (v := .string r) rfl (by kernel_rfl) (by kernel_rfl) (by kernel_rfl) (fun _ _ _ h => h) (Or.inl ⟨by kernel_rfl, fun w hS => by obtain ⟨s0, s1⟩ := hS; go_simp⟩) hS ?_
              have X8 : Blk w8 W6.heap.size #[.int .i64 0, .slice none 0 0] 30 := XA.off2 o8 (by have := HB6.out.lts; omega) (by have := HB6.out.lts; omega)
              have z8 := o8'.size
              refine wpAnyH_ready (rs := [12]) (by kernel_rfl) (by simp) ?_
              refine readyH_rowC 12 rfl rfl rfl rfl (W6.heap.size) #[.int .i64 Q.cnt, .slice g8 ps.length c8] (by kernel_rfl) (by kernel_rfl) 30 #[.int .i64 0, .slice none 0 0] X8 (infoPf2 _ _) rfl (pfOne _ _ _ _) ⟨keepRow hS.1 (by simp; omega), keepRow hS.2 (by simp; omega)⟩ (fun hS => ?_)
              refine wpAnyH_take (i := 13) (v := .bool true) rfl (by kernel_rfl) (by kernel_rfl) (by kernel_rfl) (fun _ _ _ h => h) (Or.inl ⟨by kernel_rfl, fun w hS => by obtain ⟨s0, s1⟩ := hS; go_simp⟩) hS ?_
              refine wpAnyH_done (by kernel_rfl) ?_ _
              obtain ⟨W9, hW9, X9, _⟩ := setRow_named X8 #[.int .i64 Q.cnt, .slice g8 ps.length c8]
              rw [hW9]
              go_wp2_with fail
              go_meet
              refine ⟨rfl, rfl, W6.heap.size, g8, c8, ps, S6, rfl, X9, hps, ?_, ?_, by simpa using s8, ?_⟩
              · refine ptsC_of (base := WA.heap.size) ⟨?_, fun z hz => ?_⟩ (pfOk_each (pfOk_of HF1.out) hps)
                · rw [← hW9]; exact own_rowM hpo.row (by omega)
                · rw [← hW9]; exact own_rowM (hpo.each z hz) (by omega)
              · have := HB6.out.lts
                exact K8.row hW9 (by omega) (by omega) (by omega) (by omega)
              · exact o8'.row hW9 (by omega)
          · obtain ⟨WA, hWA, XA, BA, ZA⟩ : ∃ WA, W6.drew.alloc (.cells #[.int .i64 0, .slice none 0 0] 30) = WA ∧ Blk WA W6.heap.size #[.int .i64 0, .slice none 0 0] 30 ∧ Below W6.heap.size W6 WA ∧ WA.heap.size = W6.heap.size + 1 :=
              ⟨_, rfl, blk_new _ _ _ _ rfl, by go_grown, by simp⟩
            go_simp
            try rw [hWA]
            refine hK.out _ _ ⟨keepCell BA e0, keepCell BA e1⟩ (fun hS => ?_)
            clear hK
            refine wpAnyH_ready (rs := [2]) (by kernel_rfl) (by simp) ?_
            refine AllReadyH.cons rfl (fun K hK => ?_) AllReadyH.nil
            go_simp
            refine Calls.mono (HAr.out _) ?_
            rintro e w7 ⟨rfl, rfl⟩
            refine hK.out _ _ hS (fun hS => ?_)
            clear hK
            refine wpAnyH_ready (rs := [5]) (by kernel_rfl) (by simp) ?_
            refine AllReadyH.cons rfl (fun K hK => ?_) AllReadyH.nil
            go_simp
            refine Calls.mono (HC.out _ BA) ?_
            rintro e w8 ⟨lv, ps, S6, rfl, hps, hpo, K8, s8, o8⟩
            obtain ⟨g8, c8, rfl⟩ := own_slice hpo.row
            have o8' : Off2 x y W6 w8 := (Off2.of_below BA).trans o8
            refine hK.out _ _ ⟨keepCell2 HB6.out o8' e0, keepCell2 HB6.out o8' e1⟩ (fun hS => ?_)
            clear hK
            refine wpAnyH_take (i := 6) (v := .tuple #[.string r, .agg #[.int .i64 Q.cnt, .slice g8 ps.length c8], .bool true]) rfl (by kernel_rfl) (by kernel_rfl) (by kernel_rfl) (fun _ _ _ h => h) (Or.inl ⟨by kernel_rfl, fun w hS => by obtain ⟨s0, s1⟩ := hS; go_simp⟩) hS ?_
            refine wpAnyH_take (i := 7) (v := .string r) rfl (by kernel_rfl) (by kernel_rfl) (by kernel_rfl) (fun _ _ _ h => h) (Or.inl ⟨by kernel_rfl, fun w hS => by obtain ⟨s0, s1⟩ := hS; go_simp⟩) hS ?_
            refine wpAnyH_take (i := 8) (v := .agg #[.int .i64 Q.cnt, .slice g8 ps.length c8]) rfl (by kernel_rfl) (by kernel_rfl) (by kernel_rfl) (fun _ _ _ h => h) (Or.inl ⟨by kernel_rfl, fun w hS => by obtain ⟨s0, s1⟩ := hS; go_simp⟩) hS ?_
            refine wpAnyH_take (i := 9) (v := .bool true) rfl (by kernel_rfl) (by kernel_rfl) (by kernel_rfl) (fun _ _ _ h => h) (Or.inl ⟨by kernel_rfl, fun w hS => by obtain ⟨s0, s1⟩ := hS; go_simp⟩) hS ?_
            refine wpAnyH_take (i := 11) (v := .string r) rfl (by kernel_rfl) (by kernel_rfl) (by kernel_rfl) (fun _ _ _ h => h) (Or.inl ⟨by kernel_rfl, fun w hS => by obtain ⟨s0, s1⟩ := hS; go_simp⟩) hS ?_
            have X8 : Blk w8 W6.heap.size #[.int .i64 0, .slice none 0 0] 30 := XA.off2 o8 (by have := HB6.out.lts; omega) (by have := HB6.out.lts; omega)
            have z8 := o8'.size
            refine wpAnyH_ready (rs := [12]) (by kernel_rfl) (by simp) ?_
            refine readyH_rowC 12 rfl rfl rfl rfl (W6.heap.size) #[.int .i64 Q.cnt, .slice g8 ps.length c8] (by kernel_rfl) (by kernel_rfl) 30 #[.int .i64 0, .slice none 0 0] X8 (infoPf2 _ _) rfl (pfOne _ _ _ _) ⟨keepRow hS.1 (by simp; omega), keepRow hS.2 (by simp; omega)⟩ (fun hS => ?_)
            refine wpAnyH_take (i := 13) (v := .bool true) rfl (by kernel_rfl) (by kernel_rfl) (by kernel_rfl) (fun _ _ _ h => h) (Or.inl ⟨by kernel_rfl, fun w hS => by obtain ⟨s0, s1⟩ := hS; go_simp⟩) hS ?_
            refine wpAnyH_done (by kernel_rfl) ?_ _
            obtain ⟨W9, hW9, X9, _⟩ := setRow_named X8 #[.int .i64 Q.cnt, .slice g8 ps.length c8]
            rw [hW9]
            go_wp2_with fail
            go_meet
            refine ⟨rfl, rfl, W6.heap.size, g8, c8, ps, S6, rfl, X9, hps, ?_, ?_, by simpa using s8, ?_⟩
            · refine ptsC_of (base := w7.heap.size) ⟨?_, fun z hz => ?_⟩ (pfOk_each (pfOk_of HF1.out) hps)
              · rw [← hW9]; exact own_rowM hpo.row (by omega)
              · rw [← hW9]; exact own_rowM (hpo.each z hz) (by omega)
            · have := HB6.out.lts
              exact K8.row hW9 (by omega) (by omega) (by omega) (by omega)
            · exact o8'.row hW9 (by omega)
          -- REGION8 END
        case rest =>
          rename World => w8
          obtain ⟨rfl, rfl, k8, g8, c8, ps, S6, rfl, X8, hps, hpc8, K8, s8, o8⟩ := hcut
          have f0 : w8.cell? ⟨k8, 0, none⟩ = some (.int .i64 Q.cnt) := X8.cell rfl
          have f1 : w8.cell? ⟨k8, 1, none⟩ = some (.slice g8 ps.length c8) := X8.cell rfl
          have HV : Hid _ := verify_calls Q (.slice g8 ps.length c8) r key w8 (by rw [hps]; exact hpc8) K8 (by omega) (by omega)
          unfold Pf.val at HV
          have b8 : Below w.heap.size w w8 := o8.below g3 g4 b6 b6.size
          have HL8 : Hid _ := Rcs.off2 HL6.out HB6.out o8
          have HK8 : Hid _ := K8
          clear hpc8 X8 HC HX6 HL6 HB6 hW6 HAr HSG o8 hps K8
          go_wp2_with fail
          refine Calls.mono HV.out ?_
          rintro e w9 P9
          obtain ⟨T9, G9, rfl⟩ := told_true hk HF1.out HS1.out HLD.out P9
          have b9 : Below w.heap.size w w9 := G9.off.below g3 g4 b8 b8.size
          have HTT : Hid _ := refAt_calls _ l1 key w9 (Rcs.off2 HL8.out HK8.out G9.off) (by omega)
          have HL9 : Hid _ := Rcs.off2 HL8.out HK8.out G9.off
          clear P9 G9 HV HF1 HS1 HLD HL8 HK8 f0 f1 s8
          generalize valB Q key = V at *
          generalize thereB Q key = B at *
          have drr : (r.toList == r.toList) = true := by simp
          go_wp2_with fail
          refine Calls.mono HTT.out ?_
          rintro e w10 ⟨rfl, ⟨rfl, hn⟩ | ⟨kk, m, rfl, hm, hkk⟩⟩
          · have ht : B = false ∧ V = ⟨#[]⟩ := by
              rcases HTR.out with ⟨h1, h2, _⟩ | ⟨_, m, hm, hk, _⟩
              · exact ⟨h1, h2⟩
              · exact absurd hk (hn m hm)
            obtain ⟨rfl, rfl⟩ := ht
            clear HTR HTT hn HL9 HRi
            go_wp2_with fail
            refine (HA.out _).mono ?_
            rintro e w11 ⟨rfl, b11⟩
            go_wp2
            go_ret
            exact ⟨rfl, chain b9 b11⟩
          · have hmm : m ∈ l1 := List.mem_of_getElem? hm
            have ht : B = true ∧ V = m.dat := by
              rcases HTR.out with ⟨_, _, h2⟩ | ⟨h1, n, hn, hk2, hv⟩
              · exact absurd hkk (h2 m hmm)
              · refine ⟨h1, ?_⟩
                rw [← hv, rising_uniq HRi.out hmm hn (hkk.trans hk2.symm)]
            obtain ⟨rfl, rfl⟩ := ht
            obtain ⟨hkl, hme⟩ := List.getElem?_eq_some_iff.1 hm
            obtain ⟨g, off, rfl, m1⟩ : ∃ g off, a = some ⟨g, off, none⟩ ∧ w10.cell? ⟨g, off + kk * 2 + 1, none⟩ = some (.string m.dat) := by
              rcases HL9.out with ⟨_, h0⟩ | ⟨g, off, c, e, hx⟩
              · rw [h0] at hkl; simp at hkl
              · simp only [Value.slice.injEq] at e
                have := (hx kk hkl).2.1
                rw [hme] at this
                exact ⟨g, off, e.1, this⟩
            have d0 : decide ((kk : Int) < 0) = false := decide_eq_false (by omega)
            have d00 : decide ((0 : Int) ≤ (kk : Int)) = true := decide_eq_true (by omega)
            have d1 : (kk : Int) < (l1.length : Int) := by omega
            clear hm hme HTR HL9 HTT HRi hmm hkk
            go_wp2_with fail
            refine (HA.out _).mono ?_
            rintro e w11 ⟨rfl, b11⟩
            go_wp2
            go_ret
            exact ⟨rfl, chain b9 b11⟩
    · obtain ⟨rfl, b4⟩ := P4.bad r1
      have hL4 := Rcs.below HL2.out.1 b4
      have hB4 := hB.below b4
      have bb4 := chain b1 b4
      have HP : Hid _ := proveRecs_calls _ l1 key w4 hL4 (by omega) hB4 (by simp) (by simp)
      obtain ⟨E, hE⟩ : ∃ E, riseR l1 = E := ⟨_, rfl⟩
      have hE0 : E ≠ 0 := by rw [← hE]; exact r1
      have d0 : decide (E = 0) = false := decide_eq_false hE0
      have d0' : (E == 0) = false := d0
      have HE : Hid _ := hE
      have HL4 : Hid _ := hL4
      have HBAD : Hid _ := r1
      simp only [hE]
      clear P4 HL2 HR r1 hE hL4 hB4 hB
      go_wp2_with fail
      refine Calls.mono HP.out ?_
      rintro e w5 P5
      obtain ⟨he, b5⟩ := P5.bad HBAD.out
      rw [HE.out] at he
      obtain ⟨n0, q0, m0, cp0, rfl⟩ : ∃ (n0 : Int) (q0 : Option Addr) (m0 cp0 : Nat), e = .returned (.tuple #[.agg #[.int .i64 n0, .slice q0 m0 cp0], .int .i64 E]) := ⟨0, none, 0, 0, he⟩
      have c1 := HI.out
      rw [HE.out] at c1
      have C1 : Hid _ := fun wx (hb : Below w5.heap.size w5 wx) => c1 wx ((Rcs.below HL4.out b5).below hb)
      clear c1 P5 HP HL4 HI HBAD HE he
      obtain ⟨W6, hW6, B6⟩ : ∃ W6, w5.alloc (.cells #[.int .i64 n0, .slice q0 m0 cp0] 30) = W6 ∧ Below w5.heap.size w5 W6 := ⟨_, rfl, by go_grown⟩
      go_wp2_with fail
      refine (C1.out _ B6).mono ?_
      rintro e w7 ⟨rfl, b7⟩
      go_wp2_with fail
      refine (HA.out _).mono ?_
      rintro e w8 ⟨rfl, b8⟩
      go_wp2
      go_ret
      exact ⟨rfl, chain (chain (chain (chain bb4 b5) B6) b7) b8⟩
end Go.Proofs.Ytocphdikppeijaa
