/- What a client's value tells: keptOf, walked. -/
import Derived.Test.YtmcafgmjfgfaeaaDoorLr23
namespace Go.Proofs.YtmcafgmjfgfaeaaDoor
open Go.RowKit
set_option linter.unusedSimpArgs false
set_option linter.unusedVariables false

theorem infoKp : (Tryd.prog.info? 67).map (·.size) = some 12 := by kernel_rfl
theorem keptOf_results {w' : World} {c0 c1 c2 c3 c4 c5 c6 c7 c8 c9 c10 c11 v : Value} {r : Nat} (X : Blk w' r #[c0, c1, c2, c3, c4, c5, c6, c7, c8, c9, c10, c11] 67) {t : Array Value} (h1 : t.getD 4 undef = .pointer (some ⟨r, 0, none⟩)) (h2 : t.getD 5 undef = v) :
    (results Tryd.f42 t).run Tryd.prog w' = .ok (.tuple #[.agg #[c0, c1, c2, c3, c4, c5, c6, c7, c8, c9, c10, c11], v]) w' := by
  have a0 := X.cell (o := 0) rfl
  have a1 := X.cell (o := 1) rfl
  have a2 := X.cell (o := 2) rfl
  have a3 := X.cell (o := 3) rfl
  have a4 := X.cell (o := 4) rfl
  have a5 := X.cell (o := 5) rfl
  have a6 := X.cell (o := 6) rfl
  have a7 := X.cell (o := 7) rfl
  have a8 := X.cell (o := 8) rfl
  have a9 := X.cell (o := 9) rfl
  have a10 := X.cell (o := 10) rfl
  have a11 := X.cell (o := 11) rfl
  simp only [Array.getD_eq_getD_getElem?] at h1 h2
  simp [results, Tryd.results42, go_sem, h1, h2, a0, a1, a2, a3, a4, a5, a6, a7, a8, a9, a10, a11]
theorem keepOl {r : Nat} {W wx : World} (h : Off r W wx) {a : Addr} {u : Value} (c : W.cell? a = some u) (hn : a.block ≠ r) : wx.cell? a = some u := (h.cell (World.block_lt_of_cell? W _ c) hn).trans c
theorem one12 (kt : Kt) : (#[.int .i64 (kt.n 0), .int .i64 (kt.n 1), .int .i64 (kt.n 2), .int .i64 (kt.n 3), .int .i64 (kt.n 4), .int .i64 (kt.n 5), .int .i64 (kt.n 6), .int .i64 (kt.n 7), .int .i64 (kt.n 8), .int .i64 (kt.n 9), .int .i64 (kt.n 10), .string kt.reply] : Array Value).all (·.oneCell') = true := by simp [Value.oneCell']
theorem beq_cast (a b : Nat) : ((a : Int) == (b : Int)) = (a == b) := by
  by_cases h : a = b
  · subst h; simp
  · have h1 : (a == b) = false := by simpa using h
    have h2 : ((a : Int) == (b : Int)) = false := by simp only [beq_eq_false_iff_ne, ne_eq]; omega
    rw [h1, h2]
/-- What is kept of a client by a value, and whether it is one. -/
def ktR (s : ByteArray) (g : Nat) : Kt × Bool :=
  match rdText s (nxs s (3 + 2 * g)).1.1 with
  | .ok (t, nx) => (kOf g (nxs s (3 + 2 * g)).2 t, (nxs s (3 + 2 * g)).1.2 && (nx == s.size))
  | .error _ => (kOf g (nxs s (3 + 2 * g)).2 ⟨#[]⟩, false)
set_option maxHeartbeats 8000000 in
set_option maxRecDepth 100000 in
theorem keptOf_calls (s : ByteArray) (g : Nat) (hg : g ≤ 4) (w : World) (hs : s.size ≤ maxLen) :
    Calls Tryd.prog 42 #[.string s, .int .i64 g] w fun e w' => e = .returned (.tuple #[.agg (ktR s g).1.cells.toArray, .bool (ktR s g).2]) ∧ Below w.heap.size w w' := by
  have hmf : ∀ (fn : Fn) (first cap : Array Value) (w : World), (Instr.makeFunc fn first cap).run Tryd.prog w = .ok (.func fn first cap) w := fun _ _ _ _ => rfl
  obtain ⟨W5, hW5, K0⟩ : ∃ W5, (((((w.alloc (.cells #[.string s] 9)).alloc (.cells #[.int .i64 0, .int .i64 0, .int .i64 0, .int .i64 0, .int .i64 0, .int .i64 0, .int .i64 0, .int .i64 0, .int .i64 0, .int .i64 0, .int .i64 0, .string ⟨#[]⟩] 67)).alloc (.cells #[.int .i64 0, .int .i64 0, .int .i64 0, .int .i64 0, .int .i64 0, .int .i64 0, .int .i64 0, .int .i64 0, .int .i64 0, .int .i64 0, .int .i64 0, .string ⟨#[]⟩] 67)).alloc (.cells #[.int .i64 0] 3)).alloc (.cells #[.bool true] 4)) = W5 ∧ Kst w W5 s g 0 (w.heap.size) (w.heap.size + 1 + 1) (w.heap.size + 1) (w.heap.size + 1 + 1 + 1) (w.heap.size + 1 + 1 + 1 + 1) := by
    refine ⟨_, rfl, ⟨⟨(((((blk_new _ _ _ _ rfl).alloc _).alloc _).alloc _).alloc _), ((blk_new _ _ _ _ (by simp)).alloc _), (blk_new _ _ _ _ (by simp)), Nat.zero_le _⟩, ?_, ?_, by go_grown, by omega, by omega⟩⟩
    · rw [show (nxs s 0).2 = [] from rfl, kOf_nil]
      exact ((blk_new _ _ _ _ (by simp)).alloc _).alloc _
    · exact (((blk_new _ _ _ _ (by simp)).alloc _).alloc _).alloc _
  have HK0 : Hid _ := K0
  clear K0
  go_enter Tryd.func42, Tryd.ntmps42
  obtain ⟨xa, HCa⟩ := Kst.call HK0.out hs hg (j := 0) (by omega) (10) (rfl)
  have HCCa : Hid _ := HCa
  clear HCa
  go_wp2_with fail
  refine Calls.mono HCCa.out ?_
  rintro e ua_ ⟨rfl, ⟨ya, cya⟩, fya, kka⟩
  obtain ⟨Wa, hWa⟩ : ∃ V, ua_.setCell ⟨w.heap.size + 1 + 1, 10, none⟩ (.int .i64 xa) = V := ⟨_, rfl⟩
  rw [hWa] at kka
  have HKa : Hid _ := kka
  clear kka HCCa
  obtain ⟨xb, HCb⟩ := Kst.call HKa.out hs hg (j := 1) (by omega) (0) (rfl)
  have HCCb : Hid _ := HCb
  clear HCb
  go_wp2_with fail
  refine Calls.mono HCCb.out ?_
  rintro e ub_ ⟨rfl, ⟨yb, cyb⟩, fyb, kkb⟩
  obtain ⟨Wb, hWb⟩ : ∃ V, ub_.setCell ⟨w.heap.size + 1 + 1, 0, none⟩ (.int .i64 xb) = V := ⟨_, rfl⟩
  rw [hWb] at kkb
  have HKb : Hid _ := kkb
  clear kkb HCCb
  obtain ⟨xc, HCc⟩ := Kst.call HKb.out hs hg (j := 2) (by omega) (1) (rfl)
  have HCCc : Hid _ := HCc
  clear HCc
  go_wp2_with fail
  refine Calls.mono HCCc.out ?_
  rintro e uc_ ⟨rfl, ⟨yc, cyc⟩, fyc, kkc⟩
  obtain ⟨Wc, hWc⟩ : ∃ V, uc_.setCell ⟨w.heap.size + 1 + 1, 1, none⟩ (.int .i64 xc) = V := ⟨_, rfl⟩
  rw [hWc] at kkc
  have HKc : Hid _ := kkc
  clear kkc HCCc
  go_wp2_with fail
  clear hWa hWb hWc cya fya cyb fyb cyc fyc hW5
  go_loopw [28] (fun i wr => ∃ k : Nat, k ≤ g ∧ i = .int .i64 k ∧ Hid (Kst w wr s g (3 + k) (w.heap.size) (w.heap.size + 1 + 1) (w.heap.size + 1) (w.heap.size + 1 + 1 + 1) (w.heap.size + 1 + 1 + 1 + 1))) (fun i _ => g - (intOf i).toNat)
  case atStart => exact ⟨0, Nat.zero_le _, rfl, HKc.out⟩
  case round =>
    clear HKa HKb HKc HK0
    obtain ⟨k, hk, rfl, HK⟩ := hrel
    by_cases hlt : k < g
    · have hd : decide ((k : Int) < (g : Int)) = true := by simp only [decide_eq_true_eq]; omega
      have hd' : (k : Int) < (g : Int) := by omega
      have hk4 : (k : Int) < 4 := by omega
      have hk0 : (0 : Int) ≤ (k : Int) := by omega
      obtain ⟨xd, HCd⟩ := Kst.call HK.out hs hg (j := 3 + k) (by omega) (2 + k) (by unfold fld; rw [if_neg (by omega), if_neg (by omega), if_neg (by omega), if_pos (by omega)]; omega)
      have HCCd : Hid _ := HCd
      clear HCd
      go_wp2_with fail
      refine Calls.mono HCCd.out ?_
      rintro e ud_ ⟨rfl, ⟨yd, cyd⟩, fyd, kkd⟩
      obtain ⟨Wd, hWd⟩ : ∃ V, ud_.setCell ⟨w.heap.size + 1 + 1, 2 + k, none⟩ (.int .i64 xd) = V := ⟨_, rfl⟩
      rw [hWd] at kkd
      have HKd : Hid _ := kkd
      clear kkd HCCd
      go_wp2_with fail
      exact ⟨⟨k + 1, by omega, by norm_cast, HKd.out⟩, by simp [intOf]; omega⟩
    · have hd : decide ((k : Int) < (g : Int)) = false := by simp only [decide_eq_false_iff_not]; omega
      have hd' : ¬ (k : Int) < (g : Int) := by omega
      obtain rfl : k = g := by omega
      go_wp2_with fail
      go_loopw [39] (fun i wr => ∃ j : Nat, j ≤ k ∧ i = .int .i64 j ∧ Hid (Kst w wr s k (3 + k + j) (w.heap.size) (w.heap.size + 1 + 1) (w.heap.size + 1) (w.heap.size + 1 + 1 + 1) (w.heap.size + 1 + 1 + 1 + 1))) (fun i _ => k - (intOf i).toNat)
      case atStart => exact ⟨0, Nat.zero_le _, rfl, HK.out⟩
      case round =>
        clear HK
        obtain ⟨j, hj, rfl, HK⟩ := hrel
        by_cases hlt2 : j < k
        · have hd2 : decide ((j : Int) < (k : Int)) = true := by simp only [decide_eq_true_eq]; omega
          have hd2' : (j : Int) < (k : Int) := by omega
          have hk4 : (j : Int) < 4 := by omega
          have hk0 : (0 : Int) ≤ (j : Int) := by omega
          obtain ⟨xe, HCe⟩ := Kst.call HK.out hs hg (j := 3 + k + j) (by omega) (6 + j) (by unfold fld; rw [if_neg (by omega), if_neg (by omega), if_neg (by omega), if_neg (by omega)]; omega)
          have HCCe : Hid _ := HCe
          clear HCe
          go_wp2_with fail
          refine Calls.mono HCCe.out ?_
          rintro e ue_ ⟨rfl, ⟨ye, cye⟩, fye, kke⟩
          obtain ⟨We, hWe⟩ : ∃ V, ue_.setCell ⟨w.heap.size + 1 + 1, 6 + j, none⟩ (.int .i64 xe) = V := ⟨_, rfl⟩
          rw [hWe] at kke
          have HKe : Hid _ := kke
          clear kke HCCe
          go_wp2_with fail
          exact ⟨⟨j + 1, by omega, by norm_cast, HKe.out⟩, by simp [intOf]; omega⟩
        · have hd2 : decide ((j : Int) < (k : Int)) = false := by simp only [decide_eq_false_iff_not]; omega
          have hd2' : ¬ (j : Int) < (k : Int) := by omega
          obtain rfl : j = k := by omega
          have KK := HK.out
          rw [show 3 + j + j = 3 + 2 * j by omega] at KK
          have kn := KK.kn
          have kk := KK.kk
          have rr := KK.rr
          have lo := KK.lo
          have HRES0 : Hid (ktR s j = match rdText s (nxs s (3 + 2 * j)).1.1 with
            | .ok (t, nx) => (kOf j (nxs s (3 + 2 * j)).2 t, (nxs s (3 + 2 * j)).1.2 && (nx == s.size))
            | .error _ => (kOf j (nxs s (3 + 2 * j)).2 ⟨#[]⟩, false)) := rfl
          clear KK
          generalize nxs s (3 + 2 * j) = N at *
          obtain ⟨⟨a, ok⟩, ms⟩ := N
          simp only at kn kk HRES0
          have hgt := getText_calls s a wr hs kn.le
          have x0 : wr.cell? ⟨w.heap.size, 0, none⟩ = some (.string s) := kn.xs.cell rfl
          have x1 : wr.cell? ⟨w.heap.size + 1 + 1 + 1, 0, none⟩ = some (.int .i64 a) := kn.xa.cell rfl
          cases hrd : rdText s a with
          | error er =>
            rw [hrd] at hgt
            have HRES : Hid (ktR s j = (kOf j ms ⟨#[]⟩, false)) := by show _ = _; rw [HRES0.out, hrd]
            have her := rdText_err0 hrd
            have de : (er == 0) = false := by simpa using her
            unfold gotT at hgt
            simp only at hgt
            have HGT : Hid _ := hgt
            clear hgt hrd HRES0 her
            go_wp2_with fail
            refine Calls.mono HGT.out ?_
            rintro e w2 ⟨rfl, b2⟩
            have kn2 := kn.below b2
            have kk2 := kk.below b2
            have rr2 := rr.below b2
            have kbs : w.heap.size + 1 + 1 ≠ w.heap.size := kept_unlike kk kn.xs (by decide)
            have kbo : w.heap.size + 1 + 1 ≠ w.heap.size + 1 + 1 + 1 + 1 := kept_unlike kk kn.xo (by decide)
            have rbs : w.heap.size + 1 ≠ w.heap.size := kept_unlike rr kn.xs (by decide)
            have rbo : w.heap.size + 1 ≠ w.heap.size + 1 + 1 + 1 + 1 := kept_unlike rr kn.xo (by decide)
            have c11 : w2.cell? ⟨w.heap.size + 1 + 1, 11, none⟩ = some (.string ⟨#[]⟩) := kk2.cell rfl
            have f11 : w2.frozen? ⟨w.heap.size + 1 + 1, 11, none⟩ = false := kk2.frozen
            obtain ⟨V, hV, XV, XRV0, XS, XO, hvl⟩ : ∃ V, w2.setCell ⟨w.heap.size + 1 + 1, 11, none⟩ (.string ⟨#[]⟩) = V ∧ Blk V (w.heap.size + 1 + 1) (kOf j ms ⟨#[]⟩).cells.toArray 67 ∧ Blk V (w.heap.size + 1) Kt.zero.cells.toArray 67 ∧ Blk V (w.heap.size) #[.string s] 9 ∧ Blk V (w.heap.size + 1 + 1 + 1 + 1) #[.bool ok] 4 ∧ Below w.heap.size w V := by
              refine ⟨_, rfl, kk2.set 11 _, rr2.setOther (p := ⟨w.heap.size + 1 + 1, 11, none⟩) (by show w.heap.size + 1 ≠ w.heap.size + 1 + 1; omega) _, kn2.xs.setOther (p := ⟨w.heap.size + 1 + 1, 11, none⟩) (Ne.symm kbs) _, kn2.xo.setOther (p := ⟨w.heap.size + 1 + 1, 11, none⟩) (Ne.symm kbo) _, ?_⟩
              exact (lo.trans (b2.mono lo.size)).trans ⟨rfl, rfl, rfl, by simp [World.setCell], fun k hk => Below.heap_setCell _ _ _ _ (by show k ≠ w.heap.size + 1 + 1; omega)⟩
            obtain ⟨kt, HKT⟩ : ∃ kt, Hid (kOf j ms ⟨#[]⟩ = kt) := ⟨_, rfl⟩
            rw [HKT.out] at XV HRES
            have xob : V.cell? ⟨w.heap.size + 1 + 1 + 1 + 1, 0, none⟩ = some (.bool ok) := XO.cell rfl
            have XRV : Blk V (w.heap.size + 1) Kt.zero.cells.toArray 67 := XRV0
            have HSB : Hid (∀ wx, Off (w.heap.size + 1) V wx → wx.cell? ⟨w.heap.size, 0, none⟩ = some (.string s)) := fun wx hx => keepOl hx (XS.cell rfl) (by show w.heap.size ≠ w.heap.size + 1; exact Ne.symm rbs)
            have HOB : Hid (∀ wx, Off (w.heap.size + 1) V wx → wx.cell? ⟨w.heap.size + 1 + 1 + 1 + 1, 0, none⟩ = some (.bool ok)) := fun wx hx => keepOl hx xob (by show w.heap.size + 1 + 1 + 1 + 1 ≠ w.heap.size + 1; exact Ne.symm rbo)
            have HV0 : Hid (∀ wx, Off (w.heap.size + 1) V wx → wx.cell? ⟨w.heap.size + 1 + 1, 0, none⟩ = some (.int .i64 (kt.n 0))) := fun wx hx => keepOl hx (XV.cell rfl) (by show w.heap.size + 1 + 1 ≠ w.heap.size + 1; omega)
            have HV1 : Hid (∀ wx, Off (w.heap.size + 1) V wx → wx.cell? ⟨w.heap.size + 1 + 1, 1, none⟩ = some (.int .i64 (kt.n 1))) := fun wx hx => keepOl hx (XV.cell rfl) (by show w.heap.size + 1 + 1 ≠ w.heap.size + 1; omega)
            have HV2 : Hid (∀ wx, Off (w.heap.size + 1) V wx → wx.cell? ⟨w.heap.size + 1 + 1, 2, none⟩ = some (.int .i64 (kt.n 2))) := fun wx hx => keepOl hx (XV.cell rfl) (by show w.heap.size + 1 + 1 ≠ w.heap.size + 1; omega)
            have HV3 : Hid (∀ wx, Off (w.heap.size + 1) V wx → wx.cell? ⟨w.heap.size + 1 + 1, 3, none⟩ = some (.int .i64 (kt.n 3))) := fun wx hx => keepOl hx (XV.cell rfl) (by show w.heap.size + 1 + 1 ≠ w.heap.size + 1; omega)
            have HV4 : Hid (∀ wx, Off (w.heap.size + 1) V wx → wx.cell? ⟨w.heap.size + 1 + 1, 4, none⟩ = some (.int .i64 (kt.n 4))) := fun wx hx => keepOl hx (XV.cell rfl) (by show w.heap.size + 1 + 1 ≠ w.heap.size + 1; omega)
            have HV5 : Hid (∀ wx, Off (w.heap.size + 1) V wx → wx.cell? ⟨w.heap.size + 1 + 1, 5, none⟩ = some (.int .i64 (kt.n 5))) := fun wx hx => keepOl hx (XV.cell rfl) (by show w.heap.size + 1 + 1 ≠ w.heap.size + 1; omega)
            have HV6 : Hid (∀ wx, Off (w.heap.size + 1) V wx → wx.cell? ⟨w.heap.size + 1 + 1, 6, none⟩ = some (.int .i64 (kt.n 6))) := fun wx hx => keepOl hx (XV.cell rfl) (by show w.heap.size + 1 + 1 ≠ w.heap.size + 1; omega)
            have HV7 : Hid (∀ wx, Off (w.heap.size + 1) V wx → wx.cell? ⟨w.heap.size + 1 + 1, 7, none⟩ = some (.int .i64 (kt.n 7))) := fun wx hx => keepOl hx (XV.cell rfl) (by show w.heap.size + 1 + 1 ≠ w.heap.size + 1; omega)
            have HV8 : Hid (∀ wx, Off (w.heap.size + 1) V wx → wx.cell? ⟨w.heap.size + 1 + 1, 8, none⟩ = some (.int .i64 (kt.n 8))) := fun wx hx => keepOl hx (XV.cell rfl) (by show w.heap.size + 1 + 1 ≠ w.heap.size + 1; omega)
            have HV9 : Hid (∀ wx, Off (w.heap.size + 1) V wx → wx.cell? ⟨w.heap.size + 1 + 1, 9, none⟩ = some (.int .i64 (kt.n 9))) := fun wx hx => keepOl hx (XV.cell rfl) (by show w.heap.size + 1 + 1 ≠ w.heap.size + 1; omega)
            have HV10 : Hid (∀ wx, Off (w.heap.size + 1) V wx → wx.cell? ⟨w.heap.size + 1 + 1, 10, none⟩ = some (.int .i64 (kt.n 10))) := fun wx hx => keepOl hx (XV.cell rfl) (by show w.heap.size + 1 + 1 ≠ w.heap.size + 1; omega)
            have HV11 : Hid (∀ wx, Off (w.heap.size + 1) V wx → wx.cell? ⟨w.heap.size + 1 + 1, 11, none⟩ = some (.string kt.reply)) := fun wx hx => keepOl hx (XV.cell rfl) (by show w.heap.size + 1 + 1 ≠ w.heap.size + 1; omega)
            have HLO : Hid _ := hvl
            clear kn kk rr kn2 kk2 rr2 XV XRV0 XS XO xob HGT b2 hvl lo kbs kbo rbs rbo HK
            cases ok
            · go_wp2_with fail
              refine wp_region_held_drew (S := (fun wx => Off (w.heap.size + 1) V wx)) (by kernel_rfl) (Off.drew (Off.refl _ _)) (fun hS => ?_)
              refine wpAnyH_take (i := 0) (v := (.agg #[.int .i64 (kt.n 0), .int .i64 (kt.n 1), .int .i64 (kt.n 2), .int .i64 (kt.n 3), .int .i64 (kt.n 4), .int .i64 (kt.n 5), .int .i64 (kt.n 6), .int .i64 (kt.n 7), .int .i64 (kt.n 8), .int .i64 (kt.n 9), .int .i64 (kt.n 10), .string kt.reply])) rfl (by kernel_rfl) (by kernel_rfl) (by kernel_rfl) (fun _ _ _ h => h) (Or.inl ⟨by rfl, fun wx hS => by have s0 := HV0.out wx hS; have s1 := HV1.out wx hS; have s2 := HV2.out wx hS; have s3 := HV3.out wx hS; have s4 := HV4.out wx hS; have s5 := HV5.out wx hS; have s6 := HV6.out wx hS; have s7 := HV7.out wx hS; have s8 := HV8.out wx hS; have s9 := HV9.out wx hS; have s10 := HV10.out wx hS; have s11 := HV11.out wx hS; go_simp⟩) hS ?_
              refine wpAnyH_take (i := 1) (v := (.bool false)) rfl (by kernel_rfl) (by kernel_rfl) (by kernel_rfl) (fun _ _ _ h => h) (Or.inl ⟨by rfl, fun wx hS => by have s0 := HOB.out wx hS; go_simp⟩) hS ?_
              refine wpAnyH_take (i := 2) (v := (.bool false)) rfl (by kernel_rfl) (by kernel_rfl) (by kernel_rfl) (fun _ _ _ h => h) (Or.inl ⟨by rfl, fun wx hS => by go_simp⟩) hS ?_
              refine wpAnyH_take (i := 3) (v := undef) rfl (by kernel_rfl) (by kernel_rfl) (by kernel_rfl) (fun _ _ _ h => h) (Or.inr ⟨by kernel_rfl, rfl⟩) hS ?_
              refine wpAnyH_take (i := 4) (v := undef) rfl (by kernel_rfl) (by kernel_rfl) (by kernel_rfl) (fun _ _ _ h => h) (Or.inr ⟨by kernel_rfl, rfl⟩) hS ?_
              refine wpAnyH_take (i := 5) (v := (.bool false)) rfl (by kernel_rfl) (by kernel_rfl) (by kernel_rfl) (fun _ _ _ h => h) (Or.inl ⟨by rfl, fun wx hS => by go_simp⟩) hS ?_
              refine wpAnyH_take (i := 6) (v := (.bool false)) rfl (by kernel_rfl) (by kernel_rfl) (by kernel_rfl) (fun _ _ _ h => h) (Or.inl ⟨by rfl, fun wx hS => by go_simp⟩) hS ?_
              refine wpAnyH_take (i := 7) (v := undef) rfl (by kernel_rfl) (by kernel_rfl) (by kernel_rfl) (fun _ _ _ h => h) (Or.inr ⟨by kernel_rfl, rfl⟩) hS ?_
              refine wpAnyH_take (i := 8) (v := undef) rfl (by kernel_rfl) (by kernel_rfl) (by kernel_rfl) (fun _ _ _ h => h) (Or.inr ⟨by kernel_rfl, rfl⟩) hS ?_
              refine wpAnyH_take (i := 9) (v := undef) rfl (by kernel_rfl) (by kernel_rfl) (by kernel_rfl) (fun _ _ _ h => h) (Or.inr ⟨by kernel_rfl, rfl⟩) hS ?_
              refine wpAnyH_take (i := 10) (v := undef) rfl (by kernel_rfl) (by kernel_rfl) (by kernel_rfl) (fun _ _ _ h => h) (Or.inr ⟨by kernel_rfl, rfl⟩) hS ?_
              refine wpAnyH_take (i := 11) (v := (.bool false)) rfl (by kernel_rfl) (by kernel_rfl) (by kernel_rfl) (fun _ _ _ h => h) (Or.inl ⟨by rfl, fun wx hS => by go_simp⟩) hS ?_
              obtain ⟨W9, hW9, X9, _⟩ := setRow_named (Blk.drew XRV) #[.int .i64 (kt.n 0), .int .i64 (kt.n 1), .int .i64 (kt.n 2), .int .i64 (kt.n 3), .int .i64 (kt.n 4), .int .i64 (kt.n 5), .int .i64 (kt.n 6), .int .i64 (kt.n 7), .int .i64 (kt.n 8), .int .i64 (kt.n 9), .int .i64 (kt.n 10), .string kt.reply]
              refine wpAnyH_ready (rs := [12]) (by kernel_rfl) (by simp) ?_
              refine readyH_rowC 12 rfl (ty := 67) (x := .tmp 4) (y := .tmp 58) rfl rfl rfl (w.heap.size + 1) #[.int .i64 (kt.n 0), .int .i64 (kt.n 1), .int .i64 (kt.n 2), .int .i64 (kt.n 3), .int .i64 (kt.n 4), .int .i64 (kt.n 5), .int .i64 (kt.n 6), .int .i64 (kt.n 7), .int .i64 (kt.n 8), .int .i64 (kt.n 9), .int .i64 (kt.n 10), .string kt.reply] (by kernel_rfl) (by kernel_rfl) 67 _ (Blk.drew XRV) infoKp rfl (one12 kt) (hS.setRow _) (fun hS => ?_)
              refine wpAnyH_ready (rs := [13]) (by kernel_rfl) (by simp) ?_
              refine AllReadyH.cons rfl (fun K hK => ?_) AllReadyH.nil
              go_simp
              try rw [hW9] at hS
              refine hK.out _ _ hS (fun hS => ?_)
              clear hK
              refine wpAnyH_done (by kernel_rfl) ?_ _
              try rw [hW9]
              go_wp2
              refine bodyPost_ret (v := .tuple #[.agg #[.int .i64 (kt.n 0), .int .i64 (kt.n 1), .int .i64 (kt.n 2), .int .i64 (kt.n 3), .int .i64 (kt.n 4), .int .i64 (kt.n 5), .int .i64 (kt.n 6), .int .i64 (kt.n 7), .int .i64 (kt.n 8), .int .i64 (kt.n 9), .int .i64 (kt.n 10), .string kt.reply], .bool false]) (keptOf_results X9 rfl rfl) rfl ?_
              have hb9 : Below w.heap.size w W9 := below_row (Below.drew HLO.out) hW9 (by omega)
              rw [HRES.out]
              exact ⟨rfl, hb9⟩
            · go_wp2_with fail
              refine wp_region_held_drew (S := (fun wx => Off (w.heap.size + 1) V wx)) (by kernel_rfl) (Off.drew (Off.refl _ _)) (fun hS => ?_)
              refine wpAnyH_take (i := 0) (v := (.agg #[.int .i64 (kt.n 0), .int .i64 (kt.n 1), .int .i64 (kt.n 2), .int .i64 (kt.n 3), .int .i64 (kt.n 4), .int .i64 (kt.n 5), .int .i64 (kt.n 6), .int .i64 (kt.n 7), .int .i64 (kt.n 8), .int .i64 (kt.n 9), .int .i64 (kt.n 10), .string kt.reply])) rfl (by kernel_rfl) (by kernel_rfl) (by kernel_rfl) (fun _ _ _ h => h) (Or.inl ⟨by rfl, fun wx hS => by have s0 := HV0.out wx hS; have s1 := HV1.out wx hS; have s2 := HV2.out wx hS; have s3 := HV3.out wx hS; have s4 := HV4.out wx hS; have s5 := HV5.out wx hS; have s6 := HV6.out wx hS; have s7 := HV7.out wx hS; have s8 := HV8.out wx hS; have s9 := HV9.out wx hS; have s10 := HV10.out wx hS; have s11 := HV11.out wx hS; go_simp⟩) hS ?_
              refine wpAnyH_take (i := 1) (v := (.bool true)) rfl (by kernel_rfl) (by kernel_rfl) (by kernel_rfl) (fun _ _ _ h => h) (Or.inl ⟨by rfl, fun wx hS => by have s0 := HOB.out wx hS; go_simp⟩) hS ?_
              refine wpAnyH_take (i := 2) (v := (.bool true)) rfl (by kernel_rfl) (by kernel_rfl) (by kernel_rfl) (fun _ _ _ h => h) (Or.inl ⟨by rfl, fun wx hS => by go_simp⟩) hS ?_
              refine wpAnyH_take (i := 3) (v := (.int .i64 er)) rfl (by kernel_rfl) (by kernel_rfl) (by kernel_rfl) (fun _ _ _ h => h) (Or.inl ⟨by kernel_rfl, fun wx hS => by go_simp⟩) hS ?_
              refine wpAnyH_take (i := 4) (v := (.bool false)) rfl (by kernel_rfl) (by kernel_rfl) (by kernel_rfl) (fun _ _ _ h => h) (Or.inl ⟨by kernel_rfl, fun wx hS => by go_simp⟩) hS ?_
              refine wpAnyH_take (i := 5) (v := (.bool false)) rfl (by kernel_rfl) (by kernel_rfl) (by kernel_rfl) (fun _ _ _ h => h) (Or.inl ⟨by rfl, fun wx hS => by go_simp⟩) hS ?_
              refine wpAnyH_take (i := 6) (v := (.bool false)) rfl (by kernel_rfl) (by kernel_rfl) (by kernel_rfl) (fun _ _ _ h => h) (Or.inl ⟨by rfl, fun wx hS => by go_simp⟩) hS ?_
              refine wpAnyH_take (i := 7) (v := undef) rfl (by kernel_rfl) (by kernel_rfl) (by kernel_rfl) (fun _ _ _ h => h) (Or.inr ⟨by kernel_rfl, rfl⟩) hS ?_
              refine wpAnyH_take (i := 8) (v := undef) rfl (by kernel_rfl) (by kernel_rfl) (by kernel_rfl) (fun _ _ _ h => h) (Or.inr ⟨by kernel_rfl, rfl⟩) hS ?_
              refine wpAnyH_take (i := 9) (v := undef) rfl (by kernel_rfl) (by kernel_rfl) (by kernel_rfl) (fun _ _ _ h => h) (Or.inr ⟨by kernel_rfl, rfl⟩) hS ?_
              refine wpAnyH_take (i := 10) (v := undef) rfl (by kernel_rfl) (by kernel_rfl) (by kernel_rfl) (fun _ _ _ h => h) (Or.inr ⟨by kernel_rfl, rfl⟩) hS ?_
              refine wpAnyH_take (i := 11) (v := (.bool false)) rfl (by kernel_rfl) (by kernel_rfl) (by kernel_rfl) (fun _ _ _ h => h) (Or.inl ⟨by rfl, fun wx hS => by go_simp⟩) hS ?_
              obtain ⟨W9, hW9, X9, _⟩ := setRow_named (Blk.drew XRV) #[.int .i64 (kt.n 0), .int .i64 (kt.n 1), .int .i64 (kt.n 2), .int .i64 (kt.n 3), .int .i64 (kt.n 4), .int .i64 (kt.n 5), .int .i64 (kt.n 6), .int .i64 (kt.n 7), .int .i64 (kt.n 8), .int .i64 (kt.n 9), .int .i64 (kt.n 10), .string kt.reply]
              refine wpAnyH_ready (rs := [12]) (by kernel_rfl) (by simp) ?_
              refine readyH_rowC 12 rfl (ty := 67) (x := .tmp 4) (y := .tmp 58) rfl rfl rfl (w.heap.size + 1) #[.int .i64 (kt.n 0), .int .i64 (kt.n 1), .int .i64 (kt.n 2), .int .i64 (kt.n 3), .int .i64 (kt.n 4), .int .i64 (kt.n 5), .int .i64 (kt.n 6), .int .i64 (kt.n 7), .int .i64 (kt.n 8), .int .i64 (kt.n 9), .int .i64 (kt.n 10), .string kt.reply] (by kernel_rfl) (by kernel_rfl) 67 _ (Blk.drew XRV) infoKp rfl (one12 kt) (hS.setRow _) (fun hS => ?_)
              refine wpAnyH_ready (rs := [13]) (by kernel_rfl) (by simp) ?_
              refine AllReadyH.cons rfl (fun K hK => ?_) AllReadyH.nil
              go_simp
              try rw [hW9] at hS
              refine hK.out _ _ hS (fun hS => ?_)
              clear hK
              refine wpAnyH_done (by kernel_rfl) ?_ _
              try rw [hW9]
              go_wp2
              refine bodyPost_ret (v := .tuple #[.agg #[.int .i64 (kt.n 0), .int .i64 (kt.n 1), .int .i64 (kt.n 2), .int .i64 (kt.n 3), .int .i64 (kt.n 4), .int .i64 (kt.n 5), .int .i64 (kt.n 6), .int .i64 (kt.n 7), .int .i64 (kt.n 8), .int .i64 (kt.n 9), .int .i64 (kt.n 10), .string kt.reply], .bool false]) (keptOf_results X9 rfl rfl) rfl ?_
              have hb9 : Below w.heap.size w W9 := below_row (Below.drew HLO.out) hW9 (by omega)
              rw [HRES.out]
              exact ⟨rfl, hb9⟩
          | ok q =>
            obtain ⟨t, nx⟩ := q
            rw [hrd] at hgt
            have HRES : Hid (ktR s j = (kOf j ms t, ok && (nx == s.size))) := by show _ = _; rw [HRES0.out, hrd]
            unfold gotT at hgt
            simp only at hgt
            have HGT : Hid _ := hgt
            clear hgt hrd HRES0
            go_wp2_with fail
            refine Calls.mono HGT.out ?_
            rintro e w2 ⟨rfl, b2⟩
            have kn2 := kn.below b2
            have kk2 := kk.below b2
            have rr2 := rr.below b2
            have kbs : w.heap.size + 1 + 1 ≠ w.heap.size := kept_unlike kk kn.xs (by decide)
            have kbo : w.heap.size + 1 + 1 ≠ w.heap.size + 1 + 1 + 1 + 1 := kept_unlike kk kn.xo (by decide)
            have rbs : w.heap.size + 1 ≠ w.heap.size := kept_unlike rr kn.xs (by decide)
            have rbo : w.heap.size + 1 ≠ w.heap.size + 1 + 1 + 1 + 1 := kept_unlike rr kn.xo (by decide)
            have c11 : w2.cell? ⟨w.heap.size + 1 + 1, 11, none⟩ = some (.string ⟨#[]⟩) := kk2.cell rfl
            have f11 : w2.frozen? ⟨w.heap.size + 1 + 1, 11, none⟩ = false := kk2.frozen
            obtain ⟨V, hV, XV, XRV0, XS, XO, hvl⟩ : ∃ V, w2.setCell ⟨w.heap.size + 1 + 1, 11, none⟩ (.string t) = V ∧ Blk V (w.heap.size + 1 + 1) (kOf j ms t).cells.toArray 67 ∧ Blk V (w.heap.size + 1) Kt.zero.cells.toArray 67 ∧ Blk V (w.heap.size) #[.string s] 9 ∧ Blk V (w.heap.size + 1 + 1 + 1 + 1) #[.bool ok] 4 ∧ Below w.heap.size w V := by
              refine ⟨_, rfl, kk2.set 11 _, rr2.setOther (p := ⟨w.heap.size + 1 + 1, 11, none⟩) (by show w.heap.size + 1 ≠ w.heap.size + 1 + 1; omega) _, kn2.xs.setOther (p := ⟨w.heap.size + 1 + 1, 11, none⟩) (Ne.symm kbs) _, kn2.xo.setOther (p := ⟨w.heap.size + 1 + 1, 11, none⟩) (Ne.symm kbo) _, ?_⟩
              exact (lo.trans (b2.mono lo.size)).trans ⟨rfl, rfl, rfl, by simp [World.setCell], fun k hk => Below.heap_setCell _ _ _ _ (by show k ≠ w.heap.size + 1 + 1; omega)⟩
            obtain ⟨kt, HKT⟩ : ∃ kt, Hid (kOf j ms t = kt) := ⟨_, rfl⟩
            rw [HKT.out] at XV HRES
            have xob : V.cell? ⟨w.heap.size + 1 + 1 + 1 + 1, 0, none⟩ = some (.bool ok) := XO.cell rfl
            have XRV : Blk V (w.heap.size + 1) Kt.zero.cells.toArray 67 := XRV0
            have HSB : Hid (∀ wx, Off (w.heap.size + 1) V wx → wx.cell? ⟨w.heap.size, 0, none⟩ = some (.string s)) := fun wx hx => keepOl hx (XS.cell rfl) (by show w.heap.size ≠ w.heap.size + 1; exact Ne.symm rbs)
            have HOB : Hid (∀ wx, Off (w.heap.size + 1) V wx → wx.cell? ⟨w.heap.size + 1 + 1 + 1 + 1, 0, none⟩ = some (.bool ok)) := fun wx hx => keepOl hx xob (by show w.heap.size + 1 + 1 + 1 + 1 ≠ w.heap.size + 1; exact Ne.symm rbo)
            have HV0 : Hid (∀ wx, Off (w.heap.size + 1) V wx → wx.cell? ⟨w.heap.size + 1 + 1, 0, none⟩ = some (.int .i64 (kt.n 0))) := fun wx hx => keepOl hx (XV.cell rfl) (by show w.heap.size + 1 + 1 ≠ w.heap.size + 1; omega)
            have HV1 : Hid (∀ wx, Off (w.heap.size + 1) V wx → wx.cell? ⟨w.heap.size + 1 + 1, 1, none⟩ = some (.int .i64 (kt.n 1))) := fun wx hx => keepOl hx (XV.cell rfl) (by show w.heap.size + 1 + 1 ≠ w.heap.size + 1; omega)
            have HV2 : Hid (∀ wx, Off (w.heap.size + 1) V wx → wx.cell? ⟨w.heap.size + 1 + 1, 2, none⟩ = some (.int .i64 (kt.n 2))) := fun wx hx => keepOl hx (XV.cell rfl) (by show w.heap.size + 1 + 1 ≠ w.heap.size + 1; omega)
            have HV3 : Hid (∀ wx, Off (w.heap.size + 1) V wx → wx.cell? ⟨w.heap.size + 1 + 1, 3, none⟩ = some (.int .i64 (kt.n 3))) := fun wx hx => keepOl hx (XV.cell rfl) (by show w.heap.size + 1 + 1 ≠ w.heap.size + 1; omega)
            have HV4 : Hid (∀ wx, Off (w.heap.size + 1) V wx → wx.cell? ⟨w.heap.size + 1 + 1, 4, none⟩ = some (.int .i64 (kt.n 4))) := fun wx hx => keepOl hx (XV.cell rfl) (by show w.heap.size + 1 + 1 ≠ w.heap.size + 1; omega)
            have HV5 : Hid (∀ wx, Off (w.heap.size + 1) V wx → wx.cell? ⟨w.heap.size + 1 + 1, 5, none⟩ = some (.int .i64 (kt.n 5))) := fun wx hx => keepOl hx (XV.cell rfl) (by show w.heap.size + 1 + 1 ≠ w.heap.size + 1; omega)
            have HV6 : Hid (∀ wx, Off (w.heap.size + 1) V wx → wx.cell? ⟨w.heap.size + 1 + 1, 6, none⟩ = some (.int .i64 (kt.n 6))) := fun wx hx => keepOl hx (XV.cell rfl) (by show w.heap.size + 1 + 1 ≠ w.heap.size + 1; omega)
            have HV7 : Hid (∀ wx, Off (w.heap.size + 1) V wx → wx.cell? ⟨w.heap.size + 1 + 1, 7, none⟩ = some (.int .i64 (kt.n 7))) := fun wx hx => keepOl hx (XV.cell rfl) (by show w.heap.size + 1 + 1 ≠ w.heap.size + 1; omega)
            have HV8 : Hid (∀ wx, Off (w.heap.size + 1) V wx → wx.cell? ⟨w.heap.size + 1 + 1, 8, none⟩ = some (.int .i64 (kt.n 8))) := fun wx hx => keepOl hx (XV.cell rfl) (by show w.heap.size + 1 + 1 ≠ w.heap.size + 1; omega)
            have HV9 : Hid (∀ wx, Off (w.heap.size + 1) V wx → wx.cell? ⟨w.heap.size + 1 + 1, 9, none⟩ = some (.int .i64 (kt.n 9))) := fun wx hx => keepOl hx (XV.cell rfl) (by show w.heap.size + 1 + 1 ≠ w.heap.size + 1; omega)
            have HV10 : Hid (∀ wx, Off (w.heap.size + 1) V wx → wx.cell? ⟨w.heap.size + 1 + 1, 10, none⟩ = some (.int .i64 (kt.n 10))) := fun wx hx => keepOl hx (XV.cell rfl) (by show w.heap.size + 1 + 1 ≠ w.heap.size + 1; omega)
            have HV11 : Hid (∀ wx, Off (w.heap.size + 1) V wx → wx.cell? ⟨w.heap.size + 1 + 1, 11, none⟩ = some (.string kt.reply)) := fun wx hx => keepOl hx (XV.cell rfl) (by show w.heap.size + 1 + 1 ≠ w.heap.size + 1; omega)
            have HLO : Hid _ := hvl
            clear kn kk rr kn2 kk2 rr2 XV XRV0 XS XO xob HGT b2 hvl lo kbs kbo rbs rbo HK
            obtain ⟨qn, hqn⟩ : ∃ qn, (nx == s.size) = qn := ⟨_, rfl⟩
            have hqi : ((nx : Int) == (s.size : Int)) = qn := by rw [beq_cast]; exact hqn
            rw [hqn] at HRES
            cases ok
            · go_wp2_with fail
              refine wp_region_held_drew (S := (fun wx => Off (w.heap.size + 1) V wx)) (by kernel_rfl) (Off.drew (Off.refl _ _)) (fun hS => ?_)
              refine wpAnyH_take (i := 0) (v := (.agg #[.int .i64 (kt.n 0), .int .i64 (kt.n 1), .int .i64 (kt.n 2), .int .i64 (kt.n 3), .int .i64 (kt.n 4), .int .i64 (kt.n 5), .int .i64 (kt.n 6), .int .i64 (kt.n 7), .int .i64 (kt.n 8), .int .i64 (kt.n 9), .int .i64 (kt.n 10), .string kt.reply])) rfl (by kernel_rfl) (by kernel_rfl) (by kernel_rfl) (fun _ _ _ h => h) (Or.inl ⟨by rfl, fun wx hS => by have s0 := HV0.out wx hS; have s1 := HV1.out wx hS; have s2 := HV2.out wx hS; have s3 := HV3.out wx hS; have s4 := HV4.out wx hS; have s5 := HV5.out wx hS; have s6 := HV6.out wx hS; have s7 := HV7.out wx hS; have s8 := HV8.out wx hS; have s9 := HV9.out wx hS; have s10 := HV10.out wx hS; have s11 := HV11.out wx hS; go_simp⟩) hS ?_
              refine wpAnyH_take (i := 1) (v := (.bool false)) rfl (by kernel_rfl) (by kernel_rfl) (by kernel_rfl) (fun _ _ _ h => h) (Or.inl ⟨by rfl, fun wx hS => by have s0 := HOB.out wx hS; go_simp⟩) hS ?_
              refine wpAnyH_take (i := 2) (v := (.bool false)) rfl (by kernel_rfl) (by kernel_rfl) (by kernel_rfl) (fun _ _ _ h => h) (Or.inl ⟨by rfl, fun wx hS => by go_simp⟩) hS ?_
              refine wpAnyH_take (i := 3) (v := undef) rfl (by kernel_rfl) (by kernel_rfl) (by kernel_rfl) (fun _ _ _ h => h) (Or.inr ⟨by kernel_rfl, rfl⟩) hS ?_
              refine wpAnyH_take (i := 4) (v := undef) rfl (by kernel_rfl) (by kernel_rfl) (by kernel_rfl) (fun _ _ _ h => h) (Or.inr ⟨by kernel_rfl, rfl⟩) hS ?_
              refine wpAnyH_take (i := 5) (v := (.bool false)) rfl (by kernel_rfl) (by kernel_rfl) (by kernel_rfl) (fun _ _ _ h => h) (Or.inl ⟨by rfl, fun wx hS => by go_simp⟩) hS ?_
              refine wpAnyH_take (i := 6) (v := (.bool false)) rfl (by kernel_rfl) (by kernel_rfl) (by kernel_rfl) (fun _ _ _ h => h) (Or.inl ⟨by rfl, fun wx hS => by go_simp⟩) hS ?_
              refine wpAnyH_take (i := 7) (v := undef) rfl (by kernel_rfl) (by kernel_rfl) (by kernel_rfl) (fun _ _ _ h => h) (Or.inr ⟨by kernel_rfl, rfl⟩) hS ?_
              refine wpAnyH_take (i := 8) (v := undef) rfl (by kernel_rfl) (by kernel_rfl) (by kernel_rfl) (fun _ _ _ h => h) (Or.inr ⟨by kernel_rfl, rfl⟩) hS ?_
              refine wpAnyH_take (i := 9) (v := undef) rfl (by kernel_rfl) (by kernel_rfl) (by kernel_rfl) (fun _ _ _ h => h) (Or.inr ⟨by kernel_rfl, rfl⟩) hS ?_
              refine wpAnyH_take (i := 10) (v := undef) rfl (by kernel_rfl) (by kernel_rfl) (by kernel_rfl) (fun _ _ _ h => h) (Or.inr ⟨by kernel_rfl, rfl⟩) hS ?_
              refine wpAnyH_take (i := 11) (v := (.bool false)) rfl (by kernel_rfl) (by kernel_rfl) (by kernel_rfl) (fun _ _ _ h => h) (Or.inl ⟨by rfl, fun wx hS => by go_simp⟩) hS ?_
              obtain ⟨W9, hW9, X9, _⟩ := setRow_named (Blk.drew XRV) #[.int .i64 (kt.n 0), .int .i64 (kt.n 1), .int .i64 (kt.n 2), .int .i64 (kt.n 3), .int .i64 (kt.n 4), .int .i64 (kt.n 5), .int .i64 (kt.n 6), .int .i64 (kt.n 7), .int .i64 (kt.n 8), .int .i64 (kt.n 9), .int .i64 (kt.n 10), .string kt.reply]
              refine wpAnyH_ready (rs := [12]) (by kernel_rfl) (by simp) ?_
              refine readyH_rowC 12 rfl (ty := 67) (x := .tmp 4) (y := .tmp 58) rfl rfl rfl (w.heap.size + 1) #[.int .i64 (kt.n 0), .int .i64 (kt.n 1), .int .i64 (kt.n 2), .int .i64 (kt.n 3), .int .i64 (kt.n 4), .int .i64 (kt.n 5), .int .i64 (kt.n 6), .int .i64 (kt.n 7), .int .i64 (kt.n 8), .int .i64 (kt.n 9), .int .i64 (kt.n 10), .string kt.reply] (by kernel_rfl) (by kernel_rfl) 67 _ (Blk.drew XRV) infoKp rfl (one12 kt) (hS.setRow _) (fun hS => ?_)
              refine wpAnyH_ready (rs := [13]) (by kernel_rfl) (by simp) ?_
              refine AllReadyH.cons rfl (fun K hK => ?_) AllReadyH.nil
              go_simp
              try rw [hW9] at hS
              refine hK.out _ _ hS (fun hS => ?_)
              clear hK
              refine wpAnyH_done (by kernel_rfl) ?_ _
              try rw [hW9]
              go_wp2
              refine bodyPost_ret (v := .tuple #[.agg #[.int .i64 (kt.n 0), .int .i64 (kt.n 1), .int .i64 (kt.n 2), .int .i64 (kt.n 3), .int .i64 (kt.n 4), .int .i64 (kt.n 5), .int .i64 (kt.n 6), .int .i64 (kt.n 7), .int .i64 (kt.n 8), .int .i64 (kt.n 9), .int .i64 (kt.n 10), .string kt.reply], .bool false]) (keptOf_results X9 rfl rfl) rfl ?_
              have hb9 : Below w.heap.size w W9 := below_row (Below.drew HLO.out) hW9 (by omega)
              rw [HRES.out]
              exact ⟨rfl, hb9⟩
            · go_wp2_with fail
              refine wp_region_held_drew (S := (fun wx => Off (w.heap.size + 1) V wx)) (by kernel_rfl) (Off.drew (Off.refl _ _)) (fun hS => ?_)
              refine wpAnyH_take (i := 0) (v := (.agg #[.int .i64 (kt.n 0), .int .i64 (kt.n 1), .int .i64 (kt.n 2), .int .i64 (kt.n 3), .int .i64 (kt.n 4), .int .i64 (kt.n 5), .int .i64 (kt.n 6), .int .i64 (kt.n 7), .int .i64 (kt.n 8), .int .i64 (kt.n 9), .int .i64 (kt.n 10), .string kt.reply])) rfl (by kernel_rfl) (by kernel_rfl) (by kernel_rfl) (fun _ _ _ h => h) (Or.inl ⟨by rfl, fun wx hS => by have s0 := HV0.out wx hS; have s1 := HV1.out wx hS; have s2 := HV2.out wx hS; have s3 := HV3.out wx hS; have s4 := HV4.out wx hS; have s5 := HV5.out wx hS; have s6 := HV6.out wx hS; have s7 := HV7.out wx hS; have s8 := HV8.out wx hS; have s9 := HV9.out wx hS; have s10 := HV10.out wx hS; have s11 := HV11.out wx hS; go_simp⟩) hS ?_
              refine wpAnyH_take (i := 1) (v := (.bool true)) rfl (by kernel_rfl) (by kernel_rfl) (by kernel_rfl) (fun _ _ _ h => h) (Or.inl ⟨by rfl, fun wx hS => by have s0 := HOB.out wx hS; go_simp⟩) hS ?_
              refine wpAnyH_take (i := 2) (v := (.bool true)) rfl (by kernel_rfl) (by kernel_rfl) (by kernel_rfl) (fun _ _ _ h => h) (Or.inl ⟨by rfl, fun wx hS => by go_simp⟩) hS ?_
              refine wpAnyH_take (i := 3) (v := (.int .i64 0)) rfl (by kernel_rfl) (by kernel_rfl) (by kernel_rfl) (fun _ _ _ h => h) (Or.inl ⟨by kernel_rfl, fun wx hS => by go_simp⟩) hS ?_
              refine wpAnyH_take (i := 4) (v := (.bool true)) rfl (by kernel_rfl) (by kernel_rfl) (by kernel_rfl) (fun _ _ _ h => h) (Or.inl ⟨by kernel_rfl, fun wx hS => by go_simp⟩) hS ?_
              refine wpAnyH_take (i := 5) (v := (.bool true)) rfl (by kernel_rfl) (by kernel_rfl) (by kernel_rfl) (fun _ _ _ h => h) (Or.inl ⟨by rfl, fun wx hS => by go_simp⟩) hS ?_
              refine wpAnyH_take (i := 6) (v := (.bool true)) rfl (by kernel_rfl) (by kernel_rfl) (by kernel_rfl) (fun _ _ _ h => h) (Or.inl ⟨by rfl, fun wx hS => by go_simp⟩) hS ?_
              refine wpAnyH_take (i := 7) (v := (.int .i64 nx)) rfl (by kernel_rfl) (by kernel_rfl) (by kernel_rfl) (fun _ _ _ h => h) (Or.inl ⟨by kernel_rfl, fun wx hS => by go_simp⟩) hS ?_
              refine wpAnyH_take (i := 8) (v := (.string s)) rfl (by kernel_rfl) (by kernel_rfl) (by kernel_rfl) (fun _ _ _ h => h) (Or.inl ⟨by kernel_rfl, fun wx hS => by have s0 := HSB.out wx hS; go_simp⟩) hS ?_
              refine wpAnyH_take (i := 9) (v := (.int .i64 s.size)) rfl (by kernel_rfl) (by kernel_rfl) (by kernel_rfl) (fun _ _ _ h => h) (Or.inl ⟨by kernel_rfl, fun wx hS => by go_simp⟩) hS ?_
              refine wpAnyH_take (i := 10) (v := (.bool qn)) rfl (by kernel_rfl) (by kernel_rfl) (by kernel_rfl) (fun _ _ _ h => h) (Or.inl ⟨by kernel_rfl, fun wx hS => by go_simp⟩) hS ?_
              refine wpAnyH_take (i := 11) (v := (.bool qn)) rfl (by kernel_rfl) (by kernel_rfl) (by kernel_rfl) (fun _ _ _ h => h) (Or.inl ⟨by rfl, fun wx hS => by go_simp⟩) hS ?_
              obtain ⟨W9, hW9, X9, _⟩ := setRow_named (Blk.drew XRV) #[.int .i64 (kt.n 0), .int .i64 (kt.n 1), .int .i64 (kt.n 2), .int .i64 (kt.n 3), .int .i64 (kt.n 4), .int .i64 (kt.n 5), .int .i64 (kt.n 6), .int .i64 (kt.n 7), .int .i64 (kt.n 8), .int .i64 (kt.n 9), .int .i64 (kt.n 10), .string kt.reply]
              refine wpAnyH_ready (rs := [12]) (by kernel_rfl) (by simp) ?_
              refine readyH_rowC 12 rfl (ty := 67) (x := .tmp 4) (y := .tmp 58) rfl rfl rfl (w.heap.size + 1) #[.int .i64 (kt.n 0), .int .i64 (kt.n 1), .int .i64 (kt.n 2), .int .i64 (kt.n 3), .int .i64 (kt.n 4), .int .i64 (kt.n 5), .int .i64 (kt.n 6), .int .i64 (kt.n 7), .int .i64 (kt.n 8), .int .i64 (kt.n 9), .int .i64 (kt.n 10), .string kt.reply] (by kernel_rfl) (by kernel_rfl) 67 _ (Blk.drew XRV) infoKp rfl (one12 kt) (hS.setRow _) (fun hS => ?_)
              refine wpAnyH_ready (rs := [13]) (by kernel_rfl) (by simp) ?_
              refine AllReadyH.cons rfl (fun K hK => ?_) AllReadyH.nil
              go_simp
              try rw [hW9] at hS
              refine hK.out _ _ hS (fun hS => ?_)
              clear hK
              refine wpAnyH_done (by kernel_rfl) ?_ _
              try rw [hW9]
              go_wp2
              refine bodyPost_ret (v := .tuple #[.agg #[.int .i64 (kt.n 0), .int .i64 (kt.n 1), .int .i64 (kt.n 2), .int .i64 (kt.n 3), .int .i64 (kt.n 4), .int .i64 (kt.n 5), .int .i64 (kt.n 6), .int .i64 (kt.n 7), .int .i64 (kt.n 8), .int .i64 (kt.n 9), .int .i64 (kt.n 10), .string kt.reply], .bool qn]) (keptOf_results X9 rfl rfl) rfl ?_
              have hb9 : Below w.heap.size w W9 := below_row (Below.drew HLO.out) hW9 (by omega)
              rw [HRES.out]
              exact ⟨rfl, hb9⟩
end Go.Proofs.YtmcafgmjfgfaeaaDoor
