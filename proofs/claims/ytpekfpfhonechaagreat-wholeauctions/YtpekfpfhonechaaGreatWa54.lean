/- WholeAuctions: a clock auction's course, from the offer to its end. -/
import Derived.Test.YtpekfpfhonechaaGreatWa53
import Derived.Test.YtpekfpfhonechaaGreatWa50
import Derived.Test.YtpekfpfhonechaaGreatWa52
import Derived.Deep.RegionHeld
import Derived.BigRegion
import Derived.BigQuiet
import Derived.Deep.DeepCutAuto
import Derived.Deep.CutBlock
namespace Go.Proofs.YtpekfpfhonechaaGreat
open Go.RowKit
set_option linter.unusedSimpArgs false
set_option linter.unusedVariables false

theorem accs4_n (l : Ks) {i : Nat} (hi : i < 4) : (accs4 l).toArray[i * 10]? = some (.int .i64 ((Led.kAt l i).n 0)) ∧ (accs4 l).toArray[i * 10 + 1]? = some (.int .i64 ((Led.kAt l i).n 1)) ∧ (accs4 l).toArray[i * 10 + 2]? = some (.int .i64 ((Led.kAt l i).n 2)) ∧ (accs4 l).toArray[6]? = some (.int .i64 ((Led.kAt l 0).n 6)) := by
  rcases (show i = 0 ∨ i = 1 ∨ i = 2 ∨ i = 3 by omega) with rfl | rfl | rfl | rfl <;> exact ⟨rfl, rfl, rfl, rfl⟩
set_option maxRecDepth 100000 in
set_option maxHeartbeats 4000000 in
theorem auctions_calls (v : Value) (ls : List Ak) (a0 a1 a2 : Int) (w : World) (hl : Aks w v ls) (hz : ls.length * 56 ≤ 140737488351232) :
    Calls Tryz.prog 4 #[.int .i64 a0, .int .i64 a1, .int .i64 a2, v] w fun e w' => e = .returned (.bool true) ∧ Below w.heap.size w w' := by
  have HO : Hid _ := open_room (.slice none 0 0) [] w (Or.inl ⟨⟨none, 0, rfl⟩, rfl⟩) (by decide)
  obtain ⟨a, cap, rfl, hc⟩ := hl.any
  have HC : Hid _ := hc
  obtain ⟨L, hL⟩ : ∃ L, ls.length = L := ⟨_, rfl⟩
  rw [hL] at hz ⊢
  have HLn : Hid _ := hL
  clear hl hc hL
  go_enter Tryz.func4, Tryz.ntmps4
  go_wp2_with fail
  refine Calls.mono HO.out ?_
  rintro e w1 ⟨rb, X, rfl, m1, u1, b1⟩
  have HI : Hid (PayS w w1 rb 0 0 ((0 : Nat) : Int)) := ⟨X, _, _, m1, fun i => Int.le_refl _, new_pd, b1⟩
  clear m1 u1 b1 HO
  obtain ⟨r0, hr0⟩ : ∃ r, Led.rest a0 (50 : Int).toNat = r := ⟨_, rfl⟩
  obtain ⟨r1, hr1⟩ : ∃ r, Led.rest a1 (40 : Int).toNat = r := ⟨_, rfl⟩
  obtain ⟨r2, hr2⟩ : ∃ r, Led.rest a2 (20 : Int).toNat = r := ⟨_, rfl⟩
  have l0 : r0 < 50 := by rw [← hr0]; exact Led.rest_lt _ _ (by decide)
  have l1 : r1 < 40 := by rw [← hr1]; exact Led.rest_lt _ _ (by decide)
  have l2 : r2 < 20 := by rw [← hr2]; exact Led.rest_lt _ _ (by decide)
  have H0 : Hid _ := fun wx => whAround_calls a0 50 wx (by omega) (by omega)
  have H1 : Hid _ := fun wx => whAround_calls a1 40 wx (by omega) (by omega)
  have H2 : Hid _ := fun wx => whAround_calls a2 20 wx (by omega) (by omega)
  rw [hr0] at H0
  rw [hr1] at H1
  rw [hr2] at H2
  clear hr0 hr1 hr2
  obtain ⟨n, hn⟩ : ∃ n : Int, 1 + (r0 : Int) = n := ⟨_, rfl⟩
  obtain ⟨st, hst⟩ : ∃ n : Int, 1 + (r2 : Int) = n := ⟨_, rfl⟩
  have hwn : IntKind.i64.wrap (1 + (r0 : Int)) = n := by rw [IntKind.wrap_i64]; omega
  have hws : IntKind.i64.wrap (1 + (r2 : Int)) = st := by rw [IntKind.wrap_i64]; omega
  have HN : Hid ((1 ≤ n ∧ n ≤ 50) ∧ (1 ≤ st ∧ st ≤ 20)) := ⟨⟨by omega, by omega⟩, by omega, by omega⟩
  clear hn hst l0 l2
  go_wp2_with fail
  refine Calls.mono (H0.out w1) ?_
  rintro e w2 ⟨rfl, rfl⟩
  go_wp2_with fail
  refine Calls.mono (H1.out w2) ?_
  rintro e w3 ⟨rfl, rfl⟩
  go_wp2_with fail
  refine Calls.mono (H2.out w3) ?_
  rintro e w4 ⟨rfl, rfl⟩
  clear H0 H1 H2
  go_wp2_with fail
  clear hwn hws
  go_loopw [14] (fun i wr => ∃ k : Nat, k ≤ 4 ∧ i = .int .i64 k ∧ Hid (PayS w wr rb k 0 k)) (fun i _ => 4 - (intOf i).toNat)
  case atStart => exact ⟨0, by omega, rfl, HI⟩
  case round =>
    clear HI
    obtain ⟨k, hk, rfl, HQ⟩ := hrel
    by_cases hlt : k < 4
    · have hd1 : decide ((k : Int) < 4) = true := by simp only [decide_eq_true_eq]; omega
      have HP : Hid _ := pay_step hlt HQ.out
      clear HQ
      go_wp2_with fail
      refine Calls.mono HP.out ?_
      rintro e w2 ⟨⟨t, rfl⟩, h2⟩
      have HE : Hid (PayS w w2 rb (k + 1) 0 ((k + 1 : Nat) : Int)) := h2
      clear h2 HP
      go_wp2
      exact ⟨⟨k + 1, by omega, by norm_cast, HE⟩, by simp [intOf]; omega⟩
    have hd1 : decide ((k : Int) < 4) = false := by simp only [decide_eq_false_iff_not]; omega
    have ek : k = 4 := by omega
    subst ek
    have HP : Hid _ := store_step HN.out.1 HQ.out
    clear HQ
    go_wp2_with fail
    refine Calls.mono HP.out ?_
    rintro e w2 ⟨⟨t, rfl⟩, h2⟩
    have HE : Hid (PayS w w2 rb 4 n 5) := h2
    clear h2 HP
    obtain ⟨pr, hpr⟩ : ∃ pr, qPr r1 = pr := ⟨_, rfl⟩
    have hq := q_pr _ l1
    rw [hpr] at hq
    have HP : Hid _ := offer_step HN.out.1 ⟨by omega, by omega⟩ HN.out.2 hq.2.2 hq.2.1 HE.out
    have hbo := fun wx => run_quo hq.1 wx
    clear hq HE
    have HF : Hid _ := fun t wx => fine_calls t wx
    go_wp2_with fail
    refine Calls.mono HP.out ?_
    rintro e w3 ⟨⟨t, rfl, hft⟩, h3⟩
    have HFi : Hid _ := HF.out t w3
    rw [hft] at HFi
    have HS0 : Hid (SalS n r1 st w w3 rb ((0 : Nat) : Int) (6 + 2 * ((0 : Nat) : Int)) 0) := h3.weak (Int.le_refl _) (by omega)
    clear h3 HP HF hft hbo
    go_wp2_with fail
    refine Calls.mono HFi.out ?_
    rintro e w4 ⟨rfl, rfl⟩
    clear HFi
    go_upto_block 2 with fail
    go_cut [] (fun wx => SalS n r1 st w wx rb 40 (90 + ((0 : Nat) : Int)) 0)
    case first =>
      go_wp2_with fail
      go_loopw [15] (fun i wr => ∃ k : Nat, k ≤ L ∧ k ≤ 40 ∧ i = .int .i64 k ∧ Hid (SalS n r1 st w wr rb k (6 + 2 * (k : Int)) 0)) (fun i _ => L - (intOf i).toNat)
      case atStart => exact ⟨0, by omega, by omega, rfl, HS0⟩
      case round =>
        clear HS0
        obtain ⟨k, hk, hk1, rfl, HQ⟩ := hrel
        by_cases hgo : k < L ∧ k < 40
        · obtain ⟨hlt, hlt1⟩ := hgo
          have hd1 : decide ((k : Int) < L) = true := by simp only [decide_eq_true_eq]; omega
          have hd2 : decide ((k : Int) < 40) = true := by simp only [decide_eq_true_eq]; omega
          have hlt' : k < ls.length := by rw [HLn.out]; exact hlt
          obtain ⟨q, off, hga, hcap, hg, hcel, _⟩ := HC.out k hlt'
          subst hga
          rw [HLn.out] at hcap
          obtain ⟨rq, hrq⟩ : ∃ rq, ls[k] = rq := ⟨_, rfl⟩
          rw [hrq] at hcel
          have hbl := HQ.out.bl
          have d0 : w.cell? ⟨q, off + k * 7, none⟩ = some (.int .i64 rq.who) := hcel 0 _ rfl
          have d3 : w.cell? ⟨q, off + k * 7 + 3, none⟩ = some (.int .i64 rq.o.a) := hcel 3 _ rfl
          generalize rq.who = aw at *
          generalize rq.o.a = oa at *
          obtain ⟨s0, hs0⟩ : ∃ r, Led.rest aw (3 : Int).toNat = r := ⟨_, rfl⟩
          obtain ⟨s1, hs1⟩ : ∃ r, Led.rest oa (60 : Int).toNat = r := ⟨_, rfl⟩
          have l0 : s0 < 3 := by rw [← hs0]; exact Led.rest_lt _ _ (by decide)
          have l2 : s1 < 60 := by rw [← hs1]; exact Led.rest_lt _ _ (by decide)
          have H0 : Hid _ := fun wx => whAround_calls aw 3 wx (by omega) (by omega)
          have H1 : Hid _ := fun wx => whAround_calls oa 60 wx (by omega) (by omega)
          rw [hs0] at H0
          rw [hs1] at H1
          have hwv : IntKind.i64.wrap (1 + (s0 : Int)) = ((1 + s0 : Nat) : Int) := by rw [IntKind.wrap_i64]; omega
          have HB : Hid (Below w.heap.size w wr) := hbl
          have HW : Hid _ := fun wx hx => want_step (v := 1 + s0) ⟨by omega, by omega⟩ (a := (s1 : Int)) ⟨by omega, by omega⟩ (by omega) HQ.out wx hx
          obtain ⟨vv, hvv⟩ : ∃ vv : Int, ((1 + s0 : Nat) : Int) = vv := ⟨_, rfl⟩
          rw [hvv] at hwv HW
          clear hs0 hs1 hcel hrq HQ hbl l0 hvv
          go_upto_region 15 with fail
          refine wp_region_held_drew (S := (fun wx => Below w.heap.size w wx)) (by kernel_rfl) (HB.out.drew) (fun hS => ?_)
          refine tkG (i := 0) (v := .pointer (some ⟨rb, 0, none⟩)) rfl hS ?_
          refine tkG (i := 1) (v := .slice (some ⟨q, off, none⟩) L cap) rfl hS ?_
          refine tkG (i := 2) (v := .int .i64 k) rfl hS ?_
          refine tkG (i := 3) (v := .pointer (some ⟨q, off + k * 7, none⟩)) rfl hS ?_
          refine tkG (i := 4) (v := .pointer (some ⟨q, off + k * 7, none⟩)) rfl hS ?_
          refine tkH (i := 5) (v := .int .i64 aw) rfl (fun w3 hS => by have e0 := keepCellW hS d0 hg; go_simp) hS ?_
          refine tkG (i := 8) (v := .slice (some ⟨q, off, none⟩) L cap) rfl hS ?_
          refine tkG (i := 9) (v := .int .i64 k) rfl hS ?_
          refine tkG (i := 10) (v := .pointer (some ⟨q, off + k * 7, none⟩)) rfl hS ?_
          refine tkG (i := 11) (v := .pointer (some ⟨q, off + k * 7 + 1, none⟩)) rfl hS ?_
          refine tkG (i := 12) (v := .pointer (some ⟨q, off + k * 7 + 3, none⟩)) rfl hS ?_
          refine tkH (i := 13) (v := .int .i64 oa) rfl (fun w3 hS => by have e0 := keepCellW hS d3 hg; go_simp) hS ?_
          refine wpAnyH_ready (rs := [6]) (by kernel_rfl) (by simp) ?_
          refine AllReadyH.cons rfl (fun K hK => ?_) AllReadyH.nil
          go_simp
          refine (H0.out _).mono ?_
          rintro e w5 ⟨rfl, rfl⟩
          refine hK.out _ _ HB.out.drew (fun hS => ?_)
          clear hK
          refine tkG (i := 7) (v := .int .i64 vv) rfl hS ?_
          refine wpAnyH_ready (rs := [14]) (by kernel_rfl) (by simp) ?_
          refine AllReadyH.cons rfl (fun K hK => ?_) AllReadyH.nil
          go_simp
          refine (H1.out _).mono ?_
          rintro e w5 ⟨rfl, rfl⟩
          refine hK.out _ _ HB.out.drew (fun hS => ?_)
          clear hK
          refine tkG (i := 15) (v := .agg #[.int .i64 7, .int .i64 0, .int .i64 s1, .int .i64 0, .int .i64 0, .float .f64 0]) rfl hS ?_
          refine tkG (i := 16) (v := .agg #[.int .i64 vv, .int .i64 7, .int .i64 0, .int .i64 s1, .int .i64 0, .int .i64 0, .float .f64 0]) rfl hS ?_
          refine wpAnyH_ready (rs := [17]) (by kernel_rfl) (by simp) ?_
          refine AllReadyH.cons rfl (fun K hK => ?_) AllReadyH.nil
          go_simp
          refine (HW.out _ (Below.refl _ _).drew).mono ?_
          rintro e w6 ⟨⟨t2, rfl⟩, h6⟩
          refine hK.out _ _ h6.bl (fun hS => ?_)
          clear hK
          refine wpAnyH_done (by kernel_rfl) ?_ _
          have HE : Hid (SalS n r1 st w w6 rb k (6 + 2 * (k : Int) + 1) 0) := h6
          clear h6 hS HW H0 H1 d0 d3 hg HB
          by_cases h3 : k % 3 = 2
          · have hm : (k : Int).tmod 3 = 2 := by rw [Int.tmod_eq_emod_of_nonneg (by omega)]; omega
            have HT : Hid _ := tick_step (by omega) (by omega) HE.out
            clear HE
            go_wp2_with fail
            refine Calls.mono HT.out ?_
            rintro e w7 ⟨⟨t3, rfl⟩, h7, -⟩
            have HE : Hid (SalS n r1 st w w7 rb ((k + 1 : Nat) : Int) (6 + 2 * ((k + 1 : Nat) : Int)) 0) := h7.weak (by omega) (by omega)
            clear h7 HT
            go_wp2
            exact ⟨⟨k + 1, by omega, by omega, by norm_cast, HE⟩, by simp [intOf]; omega⟩
          · have hm : ((k : Int).tmod 3 == 2) = false := by
              rw [Int.tmod_eq_emod_of_nonneg (by omega)]
              simp only [beq_eq_false_iff_ne]
              omega
            have HE1 : Hid (SalS n r1 st w w6 rb ((k + 1 : Nat) : Int) (6 + 2 * ((k + 1 : Nat) : Int)) 0) := HE.out.weak (by omega) (by omega)
            clear HE
            go_wp2
            exact ⟨⟨k + 1, by omega, by omega, by norm_cast, HE1⟩, by simp [intOf]; omega⟩
        have HS1 : Hid (SalS n r1 st w wr rb 40 (90 + ((0 : Nat) : Int)) 0) := HQ.out.weak (by omega) (by omega)
        clear HQ
        by_cases h1 : k < L
        · have hd1 : decide ((k : Int) < L) = true := by simp only [decide_eq_true_eq]; omega
          have hd2 : decide ((k : Int) < 40) = false := by simp only [decide_eq_false_iff_not]; omega
          go_wp2_with fail
          go_meet
          exact HS1.out
        · have hd1 : decide ((k : Int) < L) = false := by simp only [decide_eq_false_iff_not]; omega
          go_wp2_with fail
          go_meet
          exact HS1.out
    case rest =>
      have HS1 : Hid _ := hcut
      clear hcut HS0
      rename World => w8
      go_wp2_with fail
      go_loopw [16] (fun i wr => ∃ (z : Nat) (iz : Int), z ≤ 3 ∧ iz = (z : Int) + 1 ∧ i = .int .i64 iz ∧ Hid (SalS n r1 st w wr rb 40 (90 + (z : Int)) z)) (fun i _ => 4 - (intOf i).toNat)
      case atStart => exact ⟨0, 1, by omega, by omega, rfl, HS1⟩
      case round =>
        clear HS1
        obtain ⟨z, iz, hz3, hiz, rfl, HQ⟩ := hrel
        have hwi : IntKind.i64.wrap (iz + 1) = iz + 1 := by rw [IntKind.wrap_i64]; omega
        have HIZ : Hid (iz = (z : Int) + 1) := hiz
        by_cases hlt : z < 3
        · have hd1 : decide (iz < 4) = true := by simp only [decide_eq_true_eq]; omega
          have HZ : Hid _ := zero_step hlt (by omega) HQ.out
          rw [show ((z + 1 : Nat) : Int) = iz by omega] at HZ
          clear HQ hiz hz3
          go_wp2_with fail
          refine Calls.mono HZ.out ?_
          rintro e w7 ⟨⟨t3, rfl⟩, h7⟩
          rw [show 90 + (z : Int) + 1 = 90 + ((z + 1 : Nat) : Int) by omega] at h7
          have HE : Hid (SalS n r1 st w w7 rb 40 (90 + ((z + 1 : Nat) : Int)) (z + 1)) := h7
          clear h7 HZ
          go_wp2
          exact ⟨⟨z + 1, iz + 1, by omega, by have := HIZ.out; omega, by first | rfl | trivial, HE⟩, by have := HIZ.out; simp [intOf]; omega⟩
        have hd1 : decide (iz < 4) = false := by simp only [decide_eq_false_iff_not]; omega
        have ez : z = 3 := by omega
        subst ez
        clear hiz hz3 HIZ
        have HT : Hid _ := tick_step (by omega) (by omega) HQ.out
        clear HQ
        go_wp2_with fail
        refine Calls.mono HT.out ?_
        rintro e w7 ⟨⟨t3, rfl⟩, -, h7⟩
        obtain ⟨X1, H1, s1, m1, b1, hno, p, f, g1, g2, g3, g4, g5, g6, g7, g8⟩ := over_accs (h7 (by first | rfl | trivial))
        have c0 : w7.cell? ⟨rb, 0, none⟩ = some (.pointer (some ⟨X1.p, 0, none⟩)) := m1.blk.cell rfl
        have HA : Hid _ := auction_hs w7 m1.hm 0 (by rw [m1.g2]; omega)
        have hau : aucR H1 0 = (⟨#[]⟩, 0, false) := by
          unfold aucR
          split
          · next x hx => exact absurd hx (hno x)
          · rfl
        rw [hau] at HA
        have HM : Hid (Rom w7 w.heap.size rb X1 H1 s1 ∧ Below w.heap.size w w7) := ⟨m1, b1⟩
        have HG : Hid ((∀ w, w < 4 → 0 ≤ f w) ∧ Clo.sumTo f 4 ≤ n ∧ (0 < Clo.sumTo f 4 → 0 ≤ p ∧ r1 ≤ p ∧ (p - r1).tmod st = 0 ∧ p ≤ 1048576)) := ⟨g1, g3, g4⟩
        have HH : Hid ((∀ w, 1 ≤ w → w < 4 → (Led.kAt H1.l w).n 0 = 1048576 - f w * p ∧ (Led.kAt H1.l w).n 1 = 0 ∧ (Led.kAt H1.l w).n 2 = f w) ∧ (Led.kAt H1.l 0).n 0 = 1048576 + Clo.sumTo f 4 * p ∧ (Led.kAt H1.l 0).n 2 = n - Clo.sumTo f 4 ∧ (Led.kAt H1.l 0).n 6 = 0) := ⟨g5, g6, g7, g8⟩
        have H2 : Hid (Clo.sumTo f 1 = 0) := g2
        clear m1 b1 hno g1 g2 g3 g4 g5 g6 g7 g8 h7 HT hau
        go_wp2_with fail
        refine Calls.mono HA.out ?_
        rintro e w9 ⟨rfl, b9⟩
        have M9 := HM.out.1.below b9
        have HAc : Hid _ := accounts_room w9 M9
        have HB9 : Hid (Below w.heap.size w w9) := HM.out.2.trans (b9.mono HM.out.2.size)
        obtain ⟨V1, hV1⟩ : ∃ V1, (accs4 H1.l).toArray = V1 := ⟨_, rfl⟩
        have i1 : (Tryz.prog.info? 34).map (·.size) = some (accs4 H1.l).toArray.size := a4_info _ _ _ _
        have i2 : (accs4 H1.l).toArray.all (·.oneCell') = true := a4_one _ _ _ _
        have i3 : (#[.int .i64 0, .int .i64 0, .int .i64 0, .int .i64 0, .int .i64 0, .int .i64 0, .int .i64 0, .int .i64 0, .int .i64 0, .int .i64 0, .int .i64 0, .int .i64 0, .int .i64 0, .int .i64 0, .int .i64 0, .int .i64 0, .int .i64 0, .int .i64 0, .int .i64 0, .int .i64 0, .int .i64 0, .int .i64 0, .int .i64 0, .int .i64 0, .int .i64 0, .int .i64 0, .int .i64 0, .int .i64 0, .int .i64 0, .int .i64 0, .int .i64 0, .int .i64 0, .int .i64 0, .int .i64 0, .int .i64 0, .int .i64 0, .int .i64 0, .int .i64 0, .int .i64 0, .int .i64 0] : Array Value).size = (accs4 H1.l).toArray.size := rfl
        rw [hV1] at HAc i1 i2 i3
        have HV1 : Hid _ := hV1
        clear b9 M9 HM HA c0 hV1
        go_wp2_with fail
        refine Calls.mono HAc.out ?_
        rintro e w10 ⟨rfl, b10⟩
        obtain ⟨W5, hW5⟩ : ∃ W5, (w10.alloc (.cells #[.int .i64 0, .int .i64 0, .int .i64 0, .int .i64 0, .int .i64 0, .int .i64 0, .int .i64 0, .int .i64 0, .int .i64 0, .int .i64 0, .int .i64 0, .int .i64 0, .int .i64 0, .int .i64 0, .int .i64 0, .int .i64 0, .int .i64 0, .int .i64 0, .int .i64 0, .int .i64 0, .int .i64 0, .int .i64 0, .int .i64 0, .int .i64 0, .int .i64 0, .int .i64 0, .int .i64 0, .int .i64 0, .int .i64 0, .int .i64 0, .int .i64 0, .int .i64 0, .int .i64 0, .int .i64 0, .int .i64 0, .int .i64 0, .int .i64 0, .int .i64 0, .int .i64 0, .int .i64 0] 34)).setRow w10.heap.size V1 = W5 := ⟨_, rfl⟩
        have X4 : Blk (w10.alloc (.cells #[.int .i64 0, .int .i64 0, .int .i64 0, .int .i64 0, .int .i64 0, .int .i64 0, .int .i64 0, .int .i64 0, .int .i64 0, .int .i64 0, .int .i64 0, .int .i64 0, .int .i64 0, .int .i64 0, .int .i64 0, .int .i64 0, .int .i64 0, .int .i64 0, .int .i64 0, .int .i64 0, .int .i64 0, .int .i64 0, .int .i64 0, .int .i64 0, .int .i64 0, .int .i64 0, .int .i64 0, .int .i64 0, .int .i64 0, .int .i64 0, .int .i64 0, .int .i64 0, .int .i64 0, .int .i64 0, .int .i64 0, .int .i64 0, .int .i64 0, .int .i64 0, .int .i64 0, .int .i64 0] 34)) w10.heap.size #[.int .i64 0, .int .i64 0, .int .i64 0, .int .i64 0, .int .i64 0, .int .i64 0, .int .i64 0, .int .i64 0, .int .i64 0, .int .i64 0, .int .i64 0, .int .i64 0, .int .i64 0, .int .i64 0, .int .i64 0, .int .i64 0, .int .i64 0, .int .i64 0, .int .i64 0, .int .i64 0, .int .i64 0, .int .i64 0, .int .i64 0, .int .i64 0, .int .i64 0, .int .i64 0, .int .i64 0, .int .i64 0, .int .i64 0, .int .i64 0, .int .i64 0, .int .i64 0, .int .i64 0, .int .i64 0, .int .i64 0, .int .i64 0, .int .i64 0, .int .i64 0, .int .i64 0, .int .i64 0] 34 := blk_new _ _ _ _ rfl
        have X5 : Blk W5 w10.heap.size V1 34 := by rw [← hW5]; exact Blk.setRow X4 _
        have B10 : Below w.heap.size w w10 := HB9.out.trans (b10.mono HB9.out.size)
        have B5 : Below w.heap.size w W5 := by rw [← hW5]; exact below_setRow (B10.alloc B10.size _) _ _ B10.size
        have HY : Hid (Blk W5 w10.heap.size V1 34 ∧ Below w.heap.size w W5) := ⟨X5, B5⟩
        clear X5 B5 B10 b10 HAc HB9
        go_wp2_with ((with_reducible refine st_row (ty := 34) (cs' := V1) X4 i1 i3 i2 hW5 ?_ ?_ ?_); rfl; rfl)
        clear X4 hW5 i1 i2 i3
        generalize w10.heap.size = ba at *
        go_loopw [21, 22, 23] (fun sv pv i wr => ∃ k : Nat, 1 ≤ k ∧ k ≤ 4 ∧ i = .int .i64 k ∧ sv = .int .i64 (Clo.sumTo f k) ∧ ((pv = .int .i64 (-1) ∧ Clo.sumTo f k = 0) ∨ (pv = .int .i64 p ∧ 0 < Clo.sumTo f k)) ∧ Hid (Blk wr ba V1 34 ∧ Below w.heap.size w wr)) (fun _ _ i _ => 4 - (intOf i).toNat)
        case atStart => exact ⟨1, by omega, by omega, rfl, by rw [H2.out], Or.inl ⟨rfl, H2.out⟩, HY⟩
        case round =>
          clear HY
          obtain ⟨k, hk1, hk4, rfl, rfl, hpv, HY⟩ := hrel
          by_cases hlt : k < 4
          · have hd1 : decide ((k : Int) < 4) = true := by simp only [decide_eq_true_eq]; omega
            have hk0 : 1 ≤ k := hk1
            obtain ⟨e1, e2, e3⟩ := HH.out.1 k hk1 hlt
            obtain ⟨q0, q1, q2, _⟩ := accs4_n H1.l hlt
            rw [e1] at q0
            rw [e2] at q1
            rw [e3] at q2
            have c5 : wr.cell? ⟨ba, k * 10, none⟩ = some (.int .i64 (1048576 - f k * p)) := HY.out.1.cell (by rw [← HV1.out]; exact q0)
            have c6 : wr.cell? ⟨ba, k * 10 + 1, none⟩ = some (.int .i64 0) := HY.out.1.cell (by rw [← HV1.out]; exact q1)
            have c1 : wr.cell? ⟨ba, k * 10 + 2, none⟩ = some (.int .i64 (f k)) := HY.out.1.cell (by rw [← HV1.out]; exact q2)
            have f0 : 0 ≤ f k := HG.out.1 k hlt
            have s1' : Clo.sumTo f (k + 1) = Clo.sumTo f k + f k := rfl
            have s2 : Clo.sumTo f (k + 1) ≤ Clo.sumTo f 4 := Clo.sumTo_part (fun i hi => HG.out.1 i hi) (by omega)
            have s3 : 0 ≤ Clo.sumTo f k := Clo.sumTo_nonneg (fun i hi => HG.out.1 i (by omega))
            have s4 := HG.out.2.1
            have hn50 := HN.out.1.2
            have HYd : Hid (∀ z, Blk (wr.drewN z) ba V1 34 ∧ Below w.heap.size w (wr.drewN z)) := fun z => by
              have hb : Below wr.heap.size wr (wr.drewN z) := ⟨rfl, rfl, rfl, Nat.le_refl _, fun _ _ => rfl⟩
              exact ⟨HY.out.1.below hb, HY.out.2.trans (hb.mono HY.out.2.size)⟩
            have HS1 : Hid (Clo.sumTo f (k + 1) = Clo.sumTo f k + f k) := s1'
            have hpos : 0 < f k → 0 ≤ p ∧ r1 ≤ p ∧ (p - r1).tmod st = 0 ∧ p ≤ 1048576 := fun h => HG.out.2.2 (by omega)
            have hws : IntKind.i64.wrap (Clo.sumTo f k + f k) = Clo.sumTo f k + f k := by rw [IntKind.wrap_i64]; omega
            have f50 : f k ≤ 50 := by omega
            have S50 : Clo.sumTo f k ≤ 50 := by omega
            clear s1' s2 s4 hn50 e1 e2 e3 q0 q1 q2 HY hk1
            generalize Clo.sumTo f k = S at *
            generalize f k = g at *
            by_cases hg : g = 0
            · subst hg
              rw [Int.zero_mul, Int.sub_zero] at c5
              have HSe : Hid (Clo.sumTo f (k + 1) = S) := by have := HS1.out; show _ = _; omega
              clear hpos HS1 f0 f50 hws
              have hws : IntKind.i64.wrap (S + 0) = S := by rw [IntKind.wrap_i64]; omega
              have hws' : IntKind.i64.wrap S = S := by rw [IntKind.wrap_i64]; omega
              clear s3 S50
              go_wp2_with fail
              go_quiet (fail)
              go_wp2
              exact ⟨⟨k + 1, by omega, by omega, by norm_cast, by rw [HSe.out], by rw [HSe.out]; exact hpv, HYd.out _⟩, by simp [intOf]; omega⟩
            · obtain ⟨p0, p1, p2, p3⟩ := hpos (by omega)
              obtain ⟨d, hd⟩ : ∃ d, g * p = d := ⟨_, rfl⟩
              rw [hd] at c5
              have hd0 : 0 ≤ d := by rw [← hd]; exact Int.mul_nonneg f0 p0
              have hd2 : d ≤ 52428800 := by
                have h1 := Int.mul_le_mul_of_nonneg_right f50 p0
                omega
              obtain ⟨ht, hdv⟩ := one_price (c := d) hg p0 (by rw [← hd, Int.mul_comm])
              have hwd : IntKind.i64.wrap (1048576 - (1048576 - d)) = d := by rw [IntKind.wrap_i64]; omega
              have hwp : IntKind.i64.wrap p = p := by rw [IntKind.wrap_i64]; omega
              have hwr : IntKind.i64.wrap (p - (r1 : Int)) = p - r1 := by rw [IntKind.wrap_i64]; omega
              have hg0 : (g == 0) = false := by simpa using hg
              have hgn : (g != 0) = true := by simpa using hg
              have hgd : decide (g = 0) = false := decide_eq_false hg
              have hg1 : decide (g > 0) = true := decide_eq_true (by omega)
              have hg2 : decide (0 < g) = true := decide_eq_true (by omega)
              have hpr1 : decide (p < (r1 : Int)) = false := decide_eq_false (by omega)
              have hp1 : decide (0 ≤ p) = true := decide_eq_true p0
              have hp2 : decide (p ≥ 0) = true := decide_eq_true p0
              have st1 := HN.out.2.1
              have hst0 : (st == 0) = false := by simp only [beq_eq_false_iff_ne]; omega
              have hstd : decide (st = 0) = false := decide_eq_false (by omega)
              have hstn : ¬ st = 0 := by omega
              have HSe : Hid (Clo.sumTo f (k + 1) = S + g ∧ 0 < S + g) := ⟨HS1.out, by omega⟩
              clear hpos HS1 hd hd0 hd2 f50 S50 f0 s3 p0 p1 p3 st1
              rcases hpv with ⟨rfl, hS0⟩ | ⟨rfl, hS0⟩
              · clear hS0
                go_wp2_with fail
                go_quiet (fail)
                go_wp2
                exact ⟨⟨k + 1, by omega, by omega, by norm_cast, by rw [HSe.out.1], Or.inr ⟨rfl, by rw [HSe.out.1]; exact HSe.out.2⟩, HYd.out _⟩, by simp [intOf]; omega⟩
              · clear hS0
                go_wp2_with fail
                go_quiet (fail)
                go_wp2
                exact ⟨⟨k + 1, by omega, by omega, by norm_cast, by rw [HSe.out.1], Or.inr ⟨rfl, by rw [HSe.out.1]; exact HSe.out.2⟩, HYd.out _⟩, by simp [intOf]; omega⟩
          · have hd1 : decide ((k : Int) < 4) = false := by simp only [decide_eq_false_iff_not]; omega
            have ek : k = 4 := by omega
            subst ek
            obtain ⟨e0, e2, e6⟩ := HH.out.2
            obtain ⟨q0, _, q2, q6⟩ := accs4_n H1.l (i := 0) (by omega)
            rw [e0] at q0
            rw [e2] at q2
            rw [e6] at q6
            have c0 : wr.cell? ⟨ba, 0, none⟩ = some (.int .i64 (1048576 + Clo.sumTo f 4 * p)) := HY.out.1.cell (by rw [← HV1.out]; exact q0)
            have c2 : wr.cell? ⟨ba, 2, none⟩ = some (.int .i64 (n - Clo.sumTo f 4)) := HY.out.1.cell (by rw [← HV1.out]; exact q2)
            have c6 : wr.cell? ⟨ba, 6, none⟩ = some (.int .i64 0) := HY.out.1.cell (by rw [← HV1.out]; exact q6)
            have HB : Hid (Below w.heap.size w wr) := HY.out.2
            have s4 := HG.out.2.1
            have hn50 := HN.out.1
            have s3 : 0 ≤ Clo.sumTo f 4 := Clo.sumTo_nonneg (fun i hi => HG.out.1 i hi)
            have hpos : 0 < Clo.sumTo f 4 → 0 ≤ p ∧ p ≤ 1048576 := fun h => ⟨(HG.out.2.2 h).1, (HG.out.2.2 h).2.2.2⟩
            have HBu : Hid _ := fun wx => busy_calls wx
            clear e0 e2 e6 q0 q2 q6 HY HH HG HV1 H2
            generalize Clo.sumTo f 4 = S at *
            have hle : decide (S ≤ n) = true := decide_eq_true s4
            have hwn : IntKind.i64.wrap (n - S) = n - S := by rw [IntKind.wrap_i64]; omega
            rcases hpv with ⟨rfl, rfl⟩ | ⟨rfl, hS0⟩
            · rw [Int.zero_mul, Int.add_zero] at c0
              rw [Int.sub_zero] at c2 hwn
              clear hpos s4 s3 hn50
              go_wp2_with fail
              refine Calls.mono (HBu.out _) ?_
              rintro e wz ⟨rfl, bz⟩
              have BZ : Below w.heap.size w wz := HB.out.trans (bz.mono HB.out.size)
              go_wp2
              go_ret
              exact ⟨rfl, BZ⟩
            · obtain ⟨p0, p3⟩ := hpos hS0
              obtain ⟨d, hd⟩ : ∃ d, S * p = d := ⟨_, rfl⟩
              rw [hd] at c0
              have hd0 : 0 ≤ d := by rw [← hd]; exact Int.mul_nonneg s3 p0
              have hd2 : d ≤ 52428800 := by
                have h1 := Int.mul_le_mul_of_nonneg_right (show S ≤ 50 by omega) p0
                omega
              have hwd : IntKind.i64.wrap d = d := by rw [IntKind.wrap_i64]; omega
              have hwe : IntKind.i64.wrap (1048576 + d) = 1048576 + d := by rw [IntKind.wrap_i64]; omega
              clear hpos s4 s3 hn50 p3 hS0
              by_cases hp0 : 0 < p
              · have hmx : max 0 p = p := Int.max_eq_right p0
                have hwd' : wrap64 d = d := by unfold wrap64; omega
                have hwe' : wrap64 (1048576 + d) = 1048576 + d := by unfold wrap64; omega
                clear p0 hd0 hd2
                go_wp2_with fail
                refine Calls.mono (HBu.out _) ?_
                rintro e wz ⟨rfl, bz⟩
                have BZ : Below w.heap.size w wz := HB.out.trans (bz.mono HB.out.size)
                go_wp2
                go_ret
                exact ⟨rfl, BZ⟩
              · obtain rfl : p = 0 := by omega
                have d0 : d = 0 := by rw [← hd]; simp
                subst d0
                clear hp0 p0 hd hd0 hd2
                rw [Int.add_zero] at c0
                go_wp2_with fail
                refine Calls.mono (HBu.out _) ?_
                rintro e wz ⟨rfl, bz⟩
                have BZ : Below w.heap.size w wz := HB.out.trans (bz.mono HB.out.size)
                go_wp2
                go_ret
                exact ⟨rfl, BZ⟩
end Go.Proofs.YtpekfpfhonechaaGreat
