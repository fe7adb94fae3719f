/- The document's Sale. -/
import Derived.Test.YteinfckkpkbnlaaCkRs
import Derived.Test.YteinfckkpkbnlaaCkT
import Derived.Maps.AppendAt
import Derived.Deep.RegionHeldLaw
import Derived.Deep.RegionHeld3

namespace Go.Proofs.Yteinfckkpkbnlaa
open Go.RowKit
set_option linter.unusedSimpArgs false
set_option linter.unusedVariables false
variable {a : Au} {R g cap : Nat} {rs : Nat → Value}

theorem over_tab (n : Nat) (f : Nat → Int) : over (tab n (fun _ => 0)) f n = tab n f := by
  have := over_all (tab n (fun _ => 0)) f
  rw [tab_len] at this
  exact this
theorem gAt_set_same (l : List Int) {k : Nat} {x : Int} (h : k < l.length) : gAt (l.set k x) k = x := by
  rw [gAt_eq (by rw [List.length_set]; exact h)]; simp
set_option maxRecDepth 100000 in
set_option maxHeartbeats 8000000 in
theorem sale_refone (w : World) (h : Rf w a R g cap rs) (h0 : a.state = 1) (hr : R = 1) : Calls Try.prog 17 #[rfV a R g cap] w fun e w' => ∃ v, e = .returned (.tuple #[.int .i64 (a.price), v, .int .i64 0]) ∧ Rd w' v (tab a.ds.length (nowOf a.ds)) ∧ Below w.heap.size w w' := by
  have ne : (a.state == 0) = false := by simp [h0]
  have e2 : (a.state == 2) = false := by simp [h0]
  have hwt0 : 0 ≤ a.want ∧ a.want ≤ a.supply := by
    have q := h.inv.sta
    have q2 : 0 ≤ a.want := sumTo_nonneg fun i hi => (h.inv.dm i hi).2.2.1
    omega
  have hsup := h.inv.sup
  have hstp := h.inv.sp
  have hprc := h.inv.price0
  have d5 : decide (1 < (R : Int)) = false := decide_eq_false (by omega)
  have HR : Hid _ := hr
  clear hr
  obtain ⟨lft, hlf⟩ : ∃ x, a.supply - a.want = x := ⟨_, rfl⟩
  have HSum : Hid (∀ wx, Below w.heap.size w wx → Calls Try.prog 19 #[rs (R - 1)] wx fun e w' => e = .returned (.int .i64 a.want) ∧ Below wx.heap.size wx w') := fun wx hb => by
    have := Calls.belowOf (sum_calls (rs (R - 1)) (tab a.ds.length (nowOf a.ds)) wx ((h.below hb).now) (by rw [tab_len]; have := h.inv.len; omega) (sumSmall (by rw [tab_len]; have := h.inv.len; omega) fun i hi => by
      rw [tab_len] at hi
      rw [tab_at _ hi]
      have := h.inv.dm i hi
      omega))
    rw [sumL_tab] at this
    exact this
  have hwl : IntKind.i64.wrap (a.supply - a.want) = lft := by rw [IntKind.wrap_i64]; omega
  have HLF : Hid _ := hlf
  clear h0 hlf
  obtain ⟨i0, hi, hz0, hz1, hz2⟩ := info_parts infoInt
  obtain ⟨W0, hW0, X0, B0⟩ := rf_box w a R g cap
  have hs0 : W0.heap.size = w.heap.size + 1 := by rw [← hW0]; simp
  rw [show rfA a R g cap = #[.int .i64 a.supply, .int .i64 a.start, .int .i64 a.step, .int .i64 a.state, .slice (some ⟨g, 0, none⟩) R cap] from rfl] at X0
  have h1 := h.one
  have hln := h.inv.len
  have HLw : Hid _ := fun wx (hb : Below w.heap.size w wx) => h.below hb
  have HNow : Hid _ := fun wx (hb : Below w.heap.size w wx) => now_ref wx (h.below hb)
  have HWas : Hid _ := fun i (hi : i < a.ds.length) wx (hb : Below w.heap.size w wx) => was_ref wx (h.below hb) i hi
  have HPr : Hid _ := fun wx (hb : Below w.heap.size w wx) => price_ref wx (h.below hb)
  unfold rfV at HNow HWas HPr
  rw [show rfA a R g cap = #[.int .i64 a.supply, .int .i64 a.start, .int .i64 a.step, .int .i64 a.state, .slice (some ⟨g, 0, none⟩) R cap] from rfl] at HNow HPr HWas
  have HDm : Hid (∀ i, i < a.ds.length → 0 ≤ wasOf a.ds i ∧ wasOf a.ds i ≤ 1048576 ∧ 0 ≤ nowOf a.ds i ∧ nowOf a.ds i ≤ 1048576) := h.inv.dm
  obtain ⟨uc, ucp, hus, hcu⟩ := h.now
  rw [tab_len] at hus hcu
  obtain ⟨gu, offu, huc, hgu, _⟩ := hcu 0 (by omega)
  subst huc
  rw [hus] at HNow
  have HNC : Hid (∀ wx, Below w.heap.size w wx → ∀ i, i < a.ds.length → wx.cell? ⟨gu, offu + i, none⟩ = some (.int .i64 (nowOf a.ds i))) := fun wx hb i hi => by
    obtain ⟨g1, o1, e1, _, e2⟩ := hcu i hi
    injection e1 with e1
    injection e1 with e3 e4
    subst e3 e4
    rw [tab_at _ hi] at e2
    exact (hb.cell (p := ⟨gu, offu + i, none⟩) hgu).trans e2
  have HUS : Hid _ := hus
  clear hcu hus
  rw [HUS.out] at HSum
  clear h
  unfold rfV
  rw [show rfA a R g cap = #[.int .i64 a.supply, .int .i64 a.start, .int .i64 a.step, .int .i64 a.state, .slice (some ⟨g, 0, none⟩) R cap] from rfl]
  have c0 : W0.cell? ⟨w.heap.size, 0, none⟩ = some (.int .i64 a.supply) := X0.cell rfl
  have c1 : W0.cell? ⟨w.heap.size, 1, none⟩ = some (.int .i64 a.start) := X0.cell rfl
  have c2 : W0.cell? ⟨w.heap.size, 2, none⟩ = some (.int .i64 a.step) := X0.cell rfl
  have c3 : W0.cell? ⟨w.heap.size, 3, none⟩ = some (.int .i64 a.state) := X0.cell rfl
  have c4 : W0.cell? ⟨w.heap.size, 4, none⟩ = some (.slice (some ⟨g, 0, none⟩) R cap) := X0.cell rfl
  go_enter Try.func17, Try.ntmps17
  go_wp2
  go_loopw [5, 6, 7] (fun o f i wr => ∃ k : Nat, k ≤ a.ds.length ∧ i = .int .i64 k ∧ wr.ownsRow (w.heap.size + 1) 3 1 o k (iL (tab k (fun _ => 0))) ∧ wr.ownsRow (w.heap.size + 1) 3 1 f k (iL (tab k (fun i => wasOf a.ds i - nowOf a.ds i))) ∧ (∀ q, o.ownBlock = some q → f.ownBlock ≠ some q) ∧ Below w.heap.size w wr ∧ Blk wr w.heap.size #[.int .i64 a.supply, .int .i64 a.start, .int .i64 a.step, .int .i64 a.state, .slice (some ⟨g, 0, none⟩) R cap] 30 ∧ w.heap.size + 1 ≤ wr.heap.size) (fun _ _ i _ => a.ds.length - (intOf i).toNat)
  case atStart => exact ⟨0, Nat.zero_le _, rfl, World.ownsRow_nil _ _ _ _, World.ownsRow_nil _ _ _ _, (fun q hq => by cases hq), B0, X0, by omega⟩
  case round =>
    obtain ⟨k, hk, rfl, ho, hf, hap, br, XR, hzr⟩ := hrel
    have r0 : wr.cell? ⟨w.heap.size, 0, none⟩ = some (.int .i64 a.supply) := XR.cell rfl
    have r1 : wr.cell? ⟨w.heap.size, 1, none⟩ = some (.int .i64 a.start) := XR.cell rfl
    have r2 : wr.cell? ⟨w.heap.size, 2, none⟩ = some (.int .i64 a.step) := XR.cell rfl
    have r3 : wr.cell? ⟨w.heap.size, 3, none⟩ = some (.int .i64 a.state) := XR.cell rfl
    have r4 : wr.cell? ⟨w.heap.size, 4, none⟩ = some (.slice (some ⟨g, 0, none⟩) R cap) := XR.cell rfl
    go_wp2_with fail
    refine Calls.mono (HNow.out wr br) ?_
    rintro e w1 ⟨rfl, b1⟩
    have z1 := b1.size
    have o1 := own_belowL ho b1
    have f1 := own_belowL hf b1
    have X1 := XR.below b1
    have B1 : Below w.heap.size w w1 := br.trans (b1.mono (by omega))
    clear r0 r1 r2 r3 r4 ho hf XR br b1
    by_cases hlt : k < a.ds.length
    · have hd : decide ((k : Int) < a.ds.length) = true := by simp only [decide_eq_true_eq]; omega
      have HO : Hid _ := o1
      have HF : Hid _ := f1
      have HX : Hid _ := X1
      have HT0 : Hid _ := tab_snoc k (fun _ => 0)
      have HT1 : Hid _ := tab_snoc k (fun i => wasOf a.ds i - nowOf a.ds i)
      have hdk := HDm.out k hlt
      clear o1 f1 X1
      go_wp2_with (at_builtin; (refine wpList_append_own_at _ ?a1p (.tmp 24) (.tmp 25) 43 ?a2p (w.heap.size + 1) 3 i0 (.int .i64 0) 1 8 ?a3p ?a4p ?a5p ?a6p ?a7p ?a8p ?a9p u5 k (iL (tab k (fun _ => 0))) ?b1p ?b2p ⟨w1.heap.size, 0, none⟩ 1 1 [.int .i64 0] ?b3p ?b4p ?c1p ?c2p ?c3p ?c4p ?c5p ?_))
      case a1p => rfl
      case a2p => rfl
      case a3p => exact Try.underlying43
      case a4p => exact hi
      case a5p => exact hz0
      case a6p => exact hz1
      case a7p => exact hz2
      case a8p => rfl
      case a9p => decide
      case b1p => rfl
      case b2p => exact World.ownsRow.alloc HO.out _
      case b3p => rfl
      case b4p => rfl
      case c1p => exact cell_one_new _ _ _
      case c2p => intro u hu; simp at hu; subst hu; rfl
      case c3p => unfold maxLen; omega
      case c4p => omega
      case c5p => simp; omega
      intro v3 w4 ho4 hg4 _ hb4
      have hsa : (w1.alloc (.cells #[.int .i64 0] 3)).heap.size = w1.heap.size + 1 := by simp
      have z4 := hg4.size
      try rw [hsa] at z4
      try rw [hsa] at hb4
      have B4 : Below w.heap.size w w4 := below_grownC (B1.alloc (by omega) _) hg4 (fun q hq => by have := (World.ownsRow.lt HO.out q hq).1; omega) (by omega)
      have X4 : Blk w4 w.heap.size (rfA a R g cap) 30 := (hg4.block _ (by omega) (fun e => by have := (World.ownsRow.lt HO.out _ e.symm).1; omega)).trans ((show Blk w1 w.heap.size (rfA a R g cap) 30 from HX.out).alloc _)
      have hfl : ∀ q, u6.ownBlock = some q → w.heap.size + 1 ≤ q ∧ q < w1.heap.size := fun q hq => World.ownsRow.lt HF.out q hq
      have f4 : w4.ownsRow (w.heap.size + 1) 3 1 u6 k (iL (tab k (fun i => wasOf a.ds i - nowOf a.ds i))) := World.ownsRow.kept (World.ownsRow.alloc HF.out _) hg4 (by
        cases hu : u6.ownBlock with
        | none => exact Or.inl rfl
        | some q => exact Or.inr (fun e => hap q e.symm hu))
      have hap4 : ∀ q, v3.ownBlock = some q → u6.ownBlock ≠ some q := fun q hq e => by
        rcases hb4 with k1 | k1
        · rw [k1] at hq; exact hap q hq e
        · rw [k1] at hq; injection hq with hq; have := hfl q e; omega
      have HF4 : Hid _ := f4
      have HO4 : Hid _ := ho4
      have hwr : IntKind.i64.wrap (wasOf a.ds k - nowOf a.ds k) = wasOf a.ds k - nowOf a.ds k := by rw [IntKind.wrap_i64]; omega
      have hki : (k : Int) < a.ds.length := by omega
      clear f4 ho4 hap hfl
      go_wp2_with fail
      refine wp_region_held_drew (S := (fun wx => Below (w.heap.size + 1) w4 wx)) (by kernel_rfl) ((Below.refl _ _).drew) (fun hS => ?_)
      refine wpAnyH_take (i := 0) (v := u6) rfl (by kernel_rfl) (by kernel_rfl) (by kernel_rfl) (fun _ _ _ h => h) (Or.inl ⟨by rfl, fun wx hS => by go_simp⟩) hS ?_
      refine wpAnyH_take (i := 1) (v := (.agg #[.int .i64 a.supply, .int .i64 a.start, .int .i64 a.step, .int .i64 a.state, .slice (some ⟨g, 0, none⟩) R cap])) rfl (by kernel_rfl) (by kernel_rfl) (by kernel_rfl) (fun _ _ _ h => h) (Or.inl ⟨by rfl, fun wx hS => by have tX : Blk wx w.heap.size (rfA a R g cap) 30 := (hS.block w.heap.size (by omega)).trans X4; have t0 : wx.cell? ⟨w.heap.size, 0, none⟩ = some (.int .i64 a.supply) := tX.cell rfl; have t1 : wx.cell? ⟨w.heap.size, 1, none⟩ = some (.int .i64 a.start) := tX.cell rfl; have t2 : wx.cell? ⟨w.heap.size, 2, none⟩ = some (.int .i64 a.step) := tX.cell rfl; have t3 : wx.cell? ⟨w.heap.size, 3, none⟩ = some (.int .i64 a.state) := tX.cell rfl; have t4 : wx.cell? ⟨w.heap.size, 4, none⟩ = some (.slice (some ⟨g, 0, none⟩) R cap) := tX.cell rfl; go_simp⟩) hS ?_
      refine wpAnyH_take (i := 2) (v := (.int .i64 (k : Int))) rfl (by kernel_rfl) (by kernel_rfl) (by kernel_rfl) (fun _ _ _ h => h) (Or.inl ⟨by rfl, fun wx hS => by go_simp⟩) hS ?_
      refine wpAnyH_take (i := 4) (v := (.agg #[.int .i64 a.supply, .int .i64 a.start, .int .i64 a.step, .int .i64 a.state, .slice (some ⟨g, 0, none⟩) R cap])) rfl (by kernel_rfl) (by kernel_rfl) (by kernel_rfl) (fun _ _ _ h => h) (Or.inl ⟨by rfl, fun wx hS => by have tX : Blk wx w.heap.size (rfA a R g cap) 30 := (hS.block w.heap.size (by omega)).trans X4; have t0 : wx.cell? ⟨w.heap.size, 0, none⟩ = some (.int .i64 a.supply) := tX.cell rfl; have t1 : wx.cell? ⟨w.heap.size, 1, none⟩ = some (.int .i64 a.start) := tX.cell rfl; have t2 : wx.cell? ⟨w.heap.size, 2, none⟩ = some (.int .i64 a.step) := tX.cell rfl; have t3 : wx.cell? ⟨w.heap.size, 3, none⟩ = some (.int .i64 a.state) := tX.cell rfl; have t4 : wx.cell? ⟨w.heap.size, 4, none⟩ = some (.slice (some ⟨g, 0, none⟩) R cap) := tX.cell rfl; go_simp⟩) hS ?_
      refine wpAnyH_take (i := 6) (v := (.int .i64 (k : Int))) rfl (by kernel_rfl) (by kernel_rfl) (by kernel_rfl) (fun _ _ _ h => h) (Or.inl ⟨by rfl, fun wx hS => by go_simp⟩) hS ?_
      refine wpAnyH_ready (rs := [3]) (by kernel_rfl) (by simp) ?_
      refine AllReadyH.cons rfl (fun K hK => ?_) AllReadyH.nil
      go_simp
      refine Calls.mono (HWas.out k hlt _ (B4.trans (hS.mono (by omega)))) ?_
      rintro e w5 ⟨rfl, b5⟩
      have y4 := hS.size
      have y5 := b5.size
      refine hK.out _ _ (hS.trans (b5.mono (by omega))) (fun hS => ?_)
      clear hK
      refine wpAnyH_ready (rs := [5]) (by kernel_rfl) (by simp) ?_
      refine AllReadyH.cons rfl (fun K hK => ?_) AllReadyH.nil
      go_simp
      refine Calls.mono (HNow.out _ (B4.trans (hS.mono (by omega)))) ?_
      rintro e w6 ⟨rfl, b6⟩
      have y6 := b6.size
      have BF : Below w4.heap.size w4 w6 := ((Below.refl _ _).drew.trans (b5.mono (Nat.le_refl _))).trans (b6.mono b5.size)
      refine hK.out _ _ (hS.trans (b6.mono (by omega))) (fun hS => ?_)
      clear hK
      refine wpAnyH_take (i := 7) (v := (.pointer (some ⟨gu, offu + k, none⟩))) rfl (by kernel_rfl) (by kernel_rfl) (by kernel_rfl) (fun _ _ _ h => h) (Or.inl ⟨by rfl, fun wx hS => by go_simp⟩) hS ?_
      refine wpAnyH_take (i := 8) (v := (.int .i64 (nowOf a.ds k))) rfl (by kernel_rfl) (by kernel_rfl) (by kernel_rfl) (fun _ _ _ h => h) (Or.inl ⟨by rfl, fun wx hS => by have tn := HNC.out wx (B4.trans (hS.mono (by omega))) k hlt; go_simp⟩) hS ?_
      refine wpAnyH_take (i := 9) (v := (.int .i64 (wasOf a.ds k - nowOf a.ds k))) rfl (by kernel_rfl) (by kernel_rfl) (by kernel_rfl) (fun _ _ _ h => h) (Or.inl ⟨by rfl, fun wx hS => by go_simp⟩) hS ?_
      refine wpAnyH_ready (rs := [10]) (by kernel_rfl) (by simp) ?_
      refine AllReadyH.cons rfl (fun K hK => ?_) AllReadyH.nil
      go_simp
      have F6 := own_belowL HF4.out BF
      have O6 := own_belowL HO4.out BF
      refine hK.out _ _ (hS.alloc (by omega) _) (fun hS => ?_)
      clear hK
      refine wpAnyH_ready (rs := [11]) (by kernel_rfl) (by simp) ?_
      refine AllReadyH.cons rfl (fun K hK => ?_) AllReadyH.nil
      refine step_ifR rfl ?_
      refine wp_append_at (.tmp 27) (.tmp 37) 43 rfl (w.heap.size + 1) 3 i0 (.int .i64 0) 1 8 Try.underlying43 hi hz0 hz1 hz2 rfl (by decide) u6 k (iL (tab k (fun i => wasOf a.ds i - nowOf a.ds i))) rfl (World.ownsRow.alloc F6 _) ⟨w6.heap.size, 0, none⟩ 1 1 [.int .i64 (wasOf a.ds k - nowOf a.ds k)] rfl rfl ?_ ?_ ?_ ?_ ?_ ?_
      · exact cell_one_new _ _ _
      · intro u hu; simp at hu; subst hu; rfl
      · unfold maxLen; omega
      · omega
      · simp; omega
      intro v7 w7 ho7 hg7 hb7
      have hsb : (w6.alloc (.cells #[.int .i64 (wasOf a.ds k - nowOf a.ds k)] 3)).heap.size = w6.heap.size + 1 := by simp
      have z7 := hg7.size
      try rw [hsb] at z7
      try rw [hsb] at hb7
      have hrow : ∀ q, u6.ownBlock = some q → w.heap.size + 1 ≤ q ∧ q < w6.heap.size := fun q hq => World.ownsRow.lt F6 q hq
      have hS7 : Below (w.heap.size + 1) w4 w7 := below_grownC hS hg7 (fun q hq => (hrow q hq).1) (by omega)
      refine hK.out _ _ hS7 (fun hS => ?_)
      clear hK
      refine wpAnyH_take (i := 12) (v := v7) rfl (by kernel_rfl) (by kernel_rfl) (by kernel_rfl) (fun _ _ _ h => h) (Or.inl ⟨by rfl, fun wx hS => by go_simp⟩) hS ?_
      refine wpAnyH_done (by kernel_rfl) ?_ _
      go_wp2_with fail
      have hol : ∀ q, v3.ownBlock = some q → q < w4.heap.size := fun q hq => (World.ownsRow.lt HO4.out q hq).2
      refine ⟨⟨k + 1, by omega, by norm_cast, ?_, ?_, ?_, B4.trans (hS7.mono (by omega)), (hS7.block w.heap.size (by omega)).trans X4, by omega⟩, by simp [intOf]; omega⟩
      · rw [HT0.out, iL_snoc]
        exact World.ownsRow.kept (World.ownsRow.alloc O6 _) hg7 (by
          cases hu : v3.ownBlock with
          | none => exact Or.inl rfl
          | some q => exact Or.inr (fun e => hap4 q hu e.symm))
      · rw [HT1.out, iL_snoc]; exact ho7
      · intro q hq e
        rcases hb7 with k1 | k1
        · rw [k1] at e; exact hap4 q hq e
        · rw [k1] at e; injection e with e; have := hol q hq; omega
    · have hd : decide ((k : Int) < a.ds.length) = false := by simp only [decide_eq_false_iff_not]; omega
      have hkk : k = a.ds.length := by omega
      subst hkk
      have hne := bw_some w1
      have m0 : w1.cell? ⟨w.heap.size, 0, none⟩ = some (.int .i64 a.supply) := X1.cell rfl
      have m1 : w1.cell? ⟨w.heap.size, 1, none⟩ = some (.int .i64 a.start) := X1.cell rfl
      have m2 : w1.cell? ⟨w.heap.size, 2, none⟩ = some (.int .i64 a.step) := X1.cell rfl
      have m3 : w1.cell? ⟨w.heap.size, 3, none⟩ = some (.int .i64 a.state) := X1.cell rfl
      have m4 : w1.cell? ⟨w.heap.size, 4, none⟩ = some (.slice (some ⟨g, 0, none⟩) R cap) := X1.cell rfl
      have y0 := fun y : BW w1 => y.cell m0
      have y1 := fun y : BW w1 => y.cell m1
      have y2 := fun y : BW w1 => y.cell m2
      have y3 := fun y : BW w1 => y.cell m3
      have y4 := fun y : BW w1 => y.cell m4
      have HNw : Hid (∀ y : BW w1, _) := fun y : BW w1 => HNow.out y.w (B1.trans (y.h.mono (by omega)))
      have HSm : Hid (∀ y : BW w1, _) := fun y : BW w1 => HSum.out y.w (B1.trans (y.h.mono (by omega)))
      have HO1 : Hid _ := o1
      have HF1 : Hid _ := f1
      have HX1 : Hid _ := X1
      clear o1 f1 X1
      obtain ⟨wa, rfl⟩ : ∃ wa, wa = wr := ⟨wr, rfl⟩
      go_wp2_with fail
      refine wp_region_below (by kernel_rfl) (by kernel_rfl) ?_
      repeat (quiet_step (first | (go_at_call 20; exact BW.call _ (HNw.out _)) | (go_at_call 19; exact BW.call _ (HSm.out _))))
      refine wpQuiet_nil ?_
      rintro w4 ⟨⟨_, b4⟩, rfl⟩
      have z4 := b4.size
      have X4 := Blk.below HX1.out b4
      have O4 := own_belowL HO1.out b4
      have F4 := own_belowL HF1.out b4
      have B4 : Below w.heap.size w w4 := B1.trans (b4.mono (by omega))
      clear y0 y1 y2 y3 y4 hne HNw HSm m0 m1 m2 m3 m4 HO1 HF1 HX1 b4
      have m0 : w4.cell? ⟨w.heap.size, 0, none⟩ = some (.int .i64 a.supply) := X4.cell rfl
      have m1 : w4.cell? ⟨w.heap.size, 1, none⟩ = some (.int .i64 a.start) := X4.cell rfl
      have m2 : w4.cell? ⟨w.heap.size, 2, none⟩ = some (.int .i64 a.step) := X4.cell rfl
      have m3 : w4.cell? ⟨w.heap.size, 3, none⟩ = some (.int .i64 a.state) := X4.cell rfl
      have m4 : w4.cell? ⟨w.heap.size, 4, none⟩ = some (.slice (some ⟨g, 0, none⟩) R cap) := X4.cell rfl
      have HO4 : Hid _ := O4
      have HF4 : Hid _ := F4
      have HX4 : Hid _ := X4
      clear O4 F4 X4
      go_wp2_with fail
      refine Calls.mono (HPr.out w4 B4) ?_
      rintro e w5 ⟨rfl, b5⟩
      have z5 := b5.size
      have X5 : Blk w5 w.heap.size (rfA a R g cap) 30 := Blk.below HX4.out b5
      have O5 := own_belowL HO4.out b5
      have F5 := own_belowL HF4.out b5
      have B5 : Below w.heap.size w w5 := B4.trans (b5.mono (by omega))
      clear m0 m1 m2 m3 m4 HO4 HF4 HX4 b5
      have m0 : w5.cell? ⟨w.heap.size, 0, none⟩ = some (.int .i64 a.supply) := X5.cell rfl
      have m1 : w5.cell? ⟨w.heap.size, 1, none⟩ = some (.int .i64 a.start) := X5.cell rfl
      have m2 : w5.cell? ⟨w.heap.size, 2, none⟩ = some (.int .i64 a.step) := X5.cell rfl
      have m3 : w5.cell? ⟨w.heap.size, 3, none⟩ = some (.int .i64 a.state) := X5.cell rfl
      have m4 : w5.cell? ⟨w.heap.size, 4, none⟩ = some (.slice (some ⟨g, 0, none⟩) R cap) := X5.cell rfl
      have rw5 : Rwn w5 (w.heap.size + 1) u5 (tab a.ds.length (fun _ => 0)) := rwn_own (by rw [tab_len]; exact O5)
      obtain ⟨g5, c5, cur5, hu5, hB5, Y5, hc5⟩ := rw5.block' (by rw [tab_len]; omega)
      rw [tab_len] at hu5
      subst hu5
      have HRW : Hid (Rwn w5 (w.heap.size + 1) (.slice (some ⟨g5, 0, none⟩) a.ds.length c5) (over (tab a.ds.length (fun _ => 0)) (nowOf a.ds) 0)) := rw5
      have HX5 : Hid _ := X5
      clear rw5 Y5 hc5 O5 F5 X5 hap
      go_wp2
      go_loopw [13] (fun i wr => ∃ k : Nat, k ≤ a.ds.length ∧ i = .int .i64 k ∧ Rwn wr (w.heap.size + 1) (.slice (some ⟨g5, 0, none⟩) a.ds.length c5) (over (tab a.ds.length (fun _ => 0)) (nowOf a.ds) k) ∧ Below w.heap.size w wr ∧ Blk wr w.heap.size #[.int .i64 a.supply, .int .i64 a.start, .int .i64 a.step, .int .i64 a.state, .slice (some ⟨g, 0, none⟩) R cap] 30 ∧ w.heap.size + 1 ≤ wr.heap.size) (fun i _ => a.ds.length - (intOf i).toNat)
      case atStart => exact ⟨0, Nat.zero_le _, rfl, HRW.out, B5, HX5.out, by omega⟩
      case round =>
        clear m0 m1 m2 m3 m4 HRW HX5 B5
        obtain ⟨k, hk, rfl, Yr, br, XR, hzr⟩ := hrel
        by_cases hlt : k < a.ds.length
        · have hd : decide ((k : Int) < a.ds.length) = true := by simp only [decide_eq_true_eq]; omega
          have hki : (k : Int) < a.ds.length := by omega
          have m0 : wr.cell? ⟨w.heap.size, 0, none⟩ = some (.int .i64 a.supply) := XR.cell rfl
          have m1 : wr.cell? ⟨w.heap.size, 1, none⟩ = some (.int .i64 a.start) := XR.cell rfl
          have m2 : wr.cell? ⟨w.heap.size, 2, none⟩ = some (.int .i64 a.step) := XR.cell rfl
          have m3 : wr.cell? ⟨w.heap.size, 3, none⟩ = some (.int .i64 a.state) := XR.cell rfl
          have m4 : wr.cell? ⟨w.heap.size, 4, none⟩ = some (.slice (some ⟨g, 0, none⟩) R cap) := XR.cell rfl
          go_wp2_with fail
          refine Calls.mono (HNow.out wr br) ?_
          rintro e w6 ⟨rfl, b6⟩
          have z6 := b6.size
          have Y6 := Yr.below b6
          have X6 := XR.below b6
          have B6 : Below w.heap.size w w6 := br.trans (b6.mono (by omega))
          have tn := HNC.out w6 B6 k hlt
          obtain ⟨g2, cap2, hu8, hB2, hg2, x0, f0, hset⟩ := Y6.at_ (i := k) (by rw [over_len, tab_len]; exact hlt)
          injection hu8 with e1 e3 e4
          injection e1 with e1
          injection e1 with e1 _
          subst e1
          have HR1 : Hid (Rwn (w6.setCell ⟨g5, k, none⟩ (.int .i64 (nowOf a.ds k))) (w.heap.size + 1) (.slice (some ⟨g5, 0, none⟩) a.ds.length c5) (over (tab a.ds.length (fun _ => 0)) (nowOf a.ds) (k + 1))) := by rw [over]; exact hset _
          have HB7 : Hid (Below w.heap.size w (w6.setCell ⟨g5, k, none⟩ (.int .i64 (nowOf a.ds k)))) := B6.setCell (p := ⟨g5, k, none⟩) (by show w.heap.size ≤ g5; omega) _
          have HX7 : Hid (Blk (w6.setCell ⟨g5, k, none⟩ (.int .i64 (nowOf a.ds k))) w.heap.size #[.int .i64 a.supply, .int .i64 a.start, .int .i64 a.step, .int .i64 a.state, .slice (some ⟨g, 0, none⟩) R cap] 30) := X6.setOther (p := ⟨g5, k, none⟩) (by show w.heap.size ≠ g5; omega) _
          clear m0 m1 m2 m3 m4 e3 e4 Y6 Yr X6 XR hset
          generalize nowOf a.ds k = nk at *
          go_wp2
          refine ⟨⟨k + 1, by omega, by norm_cast, HR1.out, HB7.out, HX7.out, by simp; omega⟩, by simp [intOf]; omega⟩
        · have hd : decide ((k : Int) < a.ds.length) = false := by simp only [decide_eq_false_iff_not]; omega
          have hkk : k = a.ds.length := by omega
          have HRd : Hid (Rd wr (.slice (some ⟨g5, 0, none⟩) a.ds.length c5) (tab a.ds.length (nowOf a.ds))) := by
            have q := Yr.rd
            rw [hkk, over_tab] at q
            exact q
          subst hkk
          clear Yr XR
          go_wp2
          go_ret3
          exact ⟨_, rfl, HRd.out, br⟩
set_option maxRecDepth 100000 in
set_option maxHeartbeats 8000000 in
theorem sale_refjust (w : World) (h : Rf w a R g cap rs) (h0 : a.state = 1) (hr : 1 < R) (hl : a.supply - a.want = 0) : Calls Try.prog 17 #[rfV a R g cap] w fun e w' => ∃ v, e = .returned (.tuple #[.int .i64 (a.price), v, .int .i64 0]) ∧ Rd w' v (tab a.ds.length (nowOf a.ds)) ∧ Below w.heap.size w w' := by
  have ne : (a.state == 0) = false := by simp [h0]
  have e2 : (a.state == 2) = false := by simp [h0]
  have hwt0 : 0 ≤ a.want ∧ a.want ≤ a.supply := by
    have q := h.inv.sta
    have q2 : 0 ≤ a.want := sumTo_nonneg fun i hi => (h.inv.dm i hi).2.2.1
    omega
  have hsup := h.inv.sup
  have hstp := h.inv.sp
  have hprc := h.inv.price0
  have d5 : decide (1 < (R : Int)) = true := decide_eq_true (by omega)
  obtain ⟨lft, hlf⟩ : ∃ x, a.supply - a.want = x := ⟨_, rfl⟩
  have d6 : decide (0 < lft) = false := decide_eq_false (by omega)
  have HR : Hid _ := hr
  have HL : Hid _ := hl
  clear hr hl
  have HSum : Hid (∀ wx, Below w.heap.size w wx → Calls Try.prog 19 #[rs (R - 1)] wx fun e w' => e = .returned (.int .i64 a.want) ∧ Below wx.heap.size wx w') := fun wx hb => by
    have := Calls.belowOf (sum_calls (rs (R - 1)) (tab a.ds.length (nowOf a.ds)) wx ((h.below hb).now) (by rw [tab_len]; have := h.inv.len; omega) (sumSmall (by rw [tab_len]; have := h.inv.len; omega) fun i hi => by
      rw [tab_len] at hi
      rw [tab_at _ hi]
      have := h.inv.dm i hi
      omega))
    rw [sumL_tab] at this
    exact this
  have hwl : IntKind.i64.wrap (a.supply - a.want) = lft := by rw [IntKind.wrap_i64]; omega
  have HLF : Hid _ := hlf
  clear h0 hlf
  obtain ⟨i0, hi, hz0, hz1, hz2⟩ := info_parts infoInt
  obtain ⟨W0, hW0, X0, B0⟩ := rf_box w a R g cap
  have hs0 : W0.heap.size = w.heap.size + 1 := by rw [← hW0]; simp
  rw [show rfA a R g cap = #[.int .i64 a.supply, .int .i64 a.start, .int .i64 a.step, .int .i64 a.state, .slice (some ⟨g, 0, none⟩) R cap] from rfl] at X0
  have h1 := h.one
  have hln := h.inv.len
  have HLw : Hid _ := fun wx (hb : Below w.heap.size w wx) => h.below hb
  have HNow : Hid _ := fun wx (hb : Below w.heap.size w wx) => now_ref wx (h.below hb)
  have HWas : Hid _ := fun i (hi : i < a.ds.length) wx (hb : Below w.heap.size w wx) => was_ref wx (h.below hb) i hi
  have HPr : Hid _ := fun wx (hb : Below w.heap.size w wx) => price_ref wx (h.below hb)
  unfold rfV at HNow HWas HPr
  rw [show rfA a R g cap = #[.int .i64 a.supply, .int .i64 a.start, .int .i64 a.step, .int .i64 a.state, .slice (some ⟨g, 0, none⟩) R cap] from rfl] at HNow HPr HWas
  have HDm : Hid (∀ i, i < a.ds.length → 0 ≤ wasOf a.ds i ∧ wasOf a.ds i ≤ 1048576 ∧ 0 ≤ nowOf a.ds i ∧ nowOf a.ds i ≤ 1048576) := h.inv.dm
  obtain ⟨uc, ucp, hus, hcu⟩ := h.now
  rw [tab_len] at hus hcu
  obtain ⟨gu, offu, huc, hgu, _⟩ := hcu 0 (by omega)
  subst huc
  rw [hus] at HNow
  have HNC : Hid (∀ wx, Below w.heap.size w wx → ∀ i, i < a.ds.length → wx.cell? ⟨gu, offu + i, none⟩ = some (.int .i64 (nowOf a.ds i))) := fun wx hb i hi => by
    obtain ⟨g1, o1, e1, _, e2⟩ := hcu i hi
    injection e1 with e1
    injection e1 with e3 e4
    subst e3 e4
    rw [tab_at _ hi] at e2
    exact (hb.cell (p := ⟨gu, offu + i, none⟩) hgu).trans e2
  have HUS : Hid _ := hus
  clear hcu hus
  rw [HUS.out] at HSum
  clear h
  unfold rfV
  rw [show rfA a R g cap = #[.int .i64 a.supply, .int .i64 a.start, .int .i64 a.step, .int .i64 a.state, .slice (some ⟨g, 0, none⟩) R cap] from rfl]
  have c0 : W0.cell? ⟨w.heap.size, 0, none⟩ = some (.int .i64 a.supply) := X0.cell rfl
  have c1 : W0.cell? ⟨w.heap.size, 1, none⟩ = some (.int .i64 a.start) := X0.cell rfl
  have c2 : W0.cell? ⟨w.heap.size, 2, none⟩ = some (.int .i64 a.step) := X0.cell rfl
  have c3 : W0.cell? ⟨w.heap.size, 3, none⟩ = some (.int .i64 a.state) := X0.cell rfl
  have c4 : W0.cell? ⟨w.heap.size, 4, none⟩ = some (.slice (some ⟨g, 0, none⟩) R cap) := X0.cell rfl
  go_enter Try.func17, Try.ntmps17
  go_wp2
  go_loopw [5, 6, 7] (fun o f i wr => ∃ k : Nat, k ≤ a.ds.length ∧ i = .int .i64 k ∧ wr.ownsRow (w.heap.size + 1) 3 1 o k (iL (tab k (fun _ => 0))) ∧ wr.ownsRow (w.heap.size + 1) 3 1 f k (iL (tab k (fun i => wasOf a.ds i - nowOf a.ds i))) ∧ (∀ q, o.ownBlock = some q → f.ownBlock ≠ some q) ∧ Below w.heap.size w wr ∧ Blk wr w.heap.size #[.int .i64 a.supply, .int .i64 a.start, .int .i64 a.step, .int .i64 a.state, .slice (some ⟨g, 0, none⟩) R cap] 30 ∧ w.heap.size + 1 ≤ wr.heap.size) (fun _ _ i _ => a.ds.length - (intOf i).toNat)
  case atStart => exact ⟨0, Nat.zero_le _, rfl, World.ownsRow_nil _ _ _ _, World.ownsRow_nil _ _ _ _, (fun q hq => by cases hq), B0, X0, by omega⟩
  case round =>
    obtain ⟨k, hk, rfl, ho, hf, hap, br, XR, hzr⟩ := hrel
    have r0 : wr.cell? ⟨w.heap.size, 0, none⟩ = some (.int .i64 a.supply) := XR.cell rfl
    have r1 : wr.cell? ⟨w.heap.size, 1, none⟩ = some (.int .i64 a.start) := XR.cell rfl
    have r2 : wr.cell? ⟨w.heap.size, 2, none⟩ = some (.int .i64 a.step) := XR.cell rfl
    have r3 : wr.cell? ⟨w.heap.size, 3, none⟩ = some (.int .i64 a.state) := XR.cell rfl
    have r4 : wr.cell? ⟨w.heap.size, 4, none⟩ = some (.slice (some ⟨g, 0, none⟩) R cap) := XR.cell rfl
    go_wp2_with fail
    refine Calls.mono (HNow.out wr br) ?_
    rintro e w1 ⟨rfl, b1⟩
    have z1 := b1.size
    have o1 := own_belowL ho b1
    have f1 := own_belowL hf b1
    have X1 := XR.below b1
    have B1 : Below w.heap.size w w1 := br.trans (b1.mono (by omega))
    clear r0 r1 r2 r3 r4 ho hf XR br b1
    by_cases hlt : k < a.ds.length
    · have hd : decide ((k : Int) < a.ds.length) = true := by simp only [decide_eq_true_eq]; omega
      have HO : Hid _ := o1
      have HF : Hid _ := f1
      have HX : Hid _ := X1
      have HT0 : Hid _ := tab_snoc k (fun _ => 0)
      have HT1 : Hid _ := tab_snoc k (fun i => wasOf a.ds i - nowOf a.ds i)
      have hdk := HDm.out k hlt
      clear o1 f1 X1
      go_wp2_with (at_builtin; (refine wpList_append_own_at _ ?a1p (.tmp 24) (.tmp 25) 43 ?a2p (w.heap.size + 1) 3 i0 (.int .i64 0) 1 8 ?a3p ?a4p ?a5p ?a6p ?a7p ?a8p ?a9p u5 k (iL (tab k (fun _ => 0))) ?b1p ?b2p ⟨w1.heap.size, 0, none⟩ 1 1 [.int .i64 0] ?b3p ?b4p ?c1p ?c2p ?c3p ?c4p ?c5p ?_))
      case a1p => rfl
      case a2p => rfl
      case a3p => exact Try.underlying43
      case a4p => exact hi
      case a5p => exact hz0
      case a6p => exact hz1
      case a7p => exact hz2
      case a8p => rfl
      case a9p => decide
      case b1p => rfl
      case b2p => exact World.ownsRow.alloc HO.out _
      case b3p => rfl
      case b4p => rfl
      case c1p => exact cell_one_new _ _ _
      case c2p => intro u hu; simp at hu; subst hu; rfl
      case c3p => unfold maxLen; omega
      case c4p => omega
      case c5p => simp; omega
      intro v3 w4 ho4 hg4 _ hb4
      have hsa : (w1.alloc (.cells #[.int .i64 0] 3)).heap.size = w1.heap.size + 1 := by simp
      have z4 := hg4.size
      try rw [hsa] at z4
      try rw [hsa] at hb4
      have B4 : Below w.heap.size w w4 := below_grownC (B1.alloc (by omega) _) hg4 (fun q hq => by have := (World.ownsRow.lt HO.out q hq).1; omega) (by omega)
      have X4 : Blk w4 w.heap.size (rfA a R g cap) 30 := (hg4.block _ (by omega) (fun e => by have := (World.ownsRow.lt HO.out _ e.symm).1; omega)).trans ((show Blk w1 w.heap.size (rfA a R g cap) 30 from HX.out).alloc _)
      have hfl : ∀ q, u6.ownBlock = some q → w.heap.size + 1 ≤ q ∧ q < w1.heap.size := fun q hq => World.ownsRow.lt HF.out q hq
      have f4 : w4.ownsRow (w.heap.size + 1) 3 1 u6 k (iL (tab k (fun i => wasOf a.ds i - nowOf a.ds i))) := World.ownsRow.kept (World.ownsRow.alloc HF.out _) hg4 (by
        cases hu : u6.ownBlock with
        | none => exact Or.inl rfl
        | some q => exact Or.inr (fun e => hap q e.symm hu))
      have hap4 : ∀ q, v3.ownBlock = some q → u6.ownBlock ≠ some q := fun q hq e => by
        rcases hb4 with k1 | k1
        · rw [k1] at hq; exact hap q hq e
        · rw [k1] at hq; injection hq with hq; have := hfl q e; omega
      have HF4 : Hid _ := f4
      have HO4 : Hid _ := ho4
      have hwr : IntKind.i64.wrap (wasOf a.ds k - nowOf a.ds k) = wasOf a.ds k - nowOf a.ds k := by rw [IntKind.wrap_i64]; omega
      have hki : (k : Int) < a.ds.length := by omega
      clear f4 ho4 hap hfl
      go_wp2_with fail
      refine wp_region_held_drew (S := (fun wx => Below (w.heap.size + 1) w4 wx)) (by kernel_rfl) ((Below.refl _ _).drew) (fun hS => ?_)
      refine wpAnyH_take (i := 0) (v := u6) rfl (by kernel_rfl) (by kernel_rfl) (by kernel_rfl) (fun _ _ _ h => h) (Or.inl ⟨by rfl, fun wx hS => by go_simp⟩) hS ?_
      refine wpAnyH_take (i := 1) (v := (.agg #[.int .i64 a.supply, .int .i64 a.start, .int .i64 a.step, .int .i64 a.state, .slice (some ⟨g, 0, none⟩) R cap])) rfl (by kernel_rfl) (by kernel_rfl) (by kernel_rfl) (fun _ _ _ h => h) (Or.inl ⟨by rfl, fun wx hS => by have tX : Blk wx w.heap.size (rfA a R g cap) 30 := (hS.block w.heap.size (by omega)).trans X4; have t0 : wx.cell? ⟨w.heap.size, 0, none⟩ = some (.int .i64 a.supply) := tX.cell rfl; have t1 : wx.cell? ⟨w.heap.size, 1, none⟩ = some (.int .i64 a.start) := tX.cell rfl; have t2 : wx.cell? ⟨w.heap.size, 2, none⟩ = some (.int .i64 a.step) := tX.cell rfl; have t3 : wx.cell? ⟨w.heap.size, 3, none⟩ = some (.int .i64 a.state) := tX.cell rfl; have t4 : wx.cell? ⟨w.heap.size, 4, none⟩ = some (.slice (some ⟨g, 0, none⟩) R cap) := tX.cell rfl; go_simp⟩) hS ?_
      refine wpAnyH_take (i := 2) (v := (.int .i64 (k : Int))) rfl (by kernel_rfl) (by kernel_rfl) (by kernel_rfl) (fun _ _ _ h => h) (Or.inl ⟨by rfl, fun wx hS => by go_simp⟩) hS ?_
      refine wpAnyH_take (i := 4) (v := (.agg #[.int .i64 a.supply, .int .i64 a.start, .int .i64 a.step, .int .i64 a.state, .slice (some ⟨g, 0, none⟩) R cap])) rfl (by kernel_rfl) (by kernel_rfl) (by kernel_rfl) (fun _ _ _ h => h) (Or.inl ⟨by rfl, fun wx hS => by have tX : Blk wx w.heap.size (rfA a R g cap) 30 := (hS.block w.heap.size (by omega)).trans X4; have t0 : wx.cell? ⟨w.heap.size, 0, none⟩ = some (.int .i64 a.supply) := tX.cell rfl; have t1 : wx.cell? ⟨w.heap.size, 1, none⟩ = some (.int .i64 a.start) := tX.cell rfl; have t2 : wx.cell? ⟨w.heap.size, 2, none⟩ = some (.int .i64 a.step) := tX.cell rfl; have t3 : wx.cell? ⟨w.heap.size, 3, none⟩ = some (.int .i64 a.state) := tX.cell rfl; have t4 : wx.cell? ⟨w.heap.size, 4, none⟩ = some (.slice (some ⟨g, 0, none⟩) R cap) := tX.cell rfl; go_simp⟩) hS ?_
      refine wpAnyH_take (i := 6) (v := (.int .i64 (k : Int))) rfl (by kernel_rfl) (by kernel_rfl) (by kernel_rfl) (fun _ _ _ h => h) (Or.inl ⟨by rfl, fun wx hS => by go_simp⟩) hS ?_
      refine wpAnyH_ready (rs := [3]) (by kernel_rfl) (by simp) ?_
      refine AllReadyH.cons rfl (fun K hK => ?_) AllReadyH.nil
      go_simp
      refine Calls.mono (HWas.out k hlt _ (B4.trans (hS.mono (by omega)))) ?_
      rintro e w5 ⟨rfl, b5⟩
      have y4 := hS.size
      have y5 := b5.size
      refine hK.out _ _ (hS.trans (b5.mono (by omega))) (fun hS => ?_)
      clear hK
      refine wpAnyH_ready (rs := [5]) (by kernel_rfl) (by simp) ?_
      refine AllReadyH.cons rfl (fun K hK => ?_) AllReadyH.nil
      go_simp
      refine Calls.mono (HNow.out _ (B4.trans (hS.mono (by omega)))) ?_
      rintro e w6 ⟨rfl, b6⟩
      have y6 := b6.size
      have BF : Below w4.heap.size w4 w6 := ((Below.refl _ _).drew.trans (b5.mono (Nat.le_refl _))).trans (b6.mono b5.size)
      refine hK.out _ _ (hS.trans (b6.mono (by omega))) (fun hS => ?_)
      clear hK
      refine wpAnyH_take (i := 7) (v := (.pointer (some ⟨gu, offu + k, none⟩))) rfl (by kernel_rfl) (by kernel_rfl) (by kernel_rfl) (fun _ _ _ h => h) (Or.inl ⟨by rfl, fun wx hS => by go_simp⟩) hS ?_
      refine wpAnyH_take (i := 8) (v := (.int .i64 (nowOf a.ds k))) rfl (by kernel_rfl) (by kernel_rfl) (by kernel_rfl) (fun _ _ _ h => h) (Or.inl ⟨by rfl, fun wx hS => by have tn := HNC.out wx (B4.trans (hS.mono (by omega))) k hlt; go_simp⟩) hS ?_
      refine wpAnyH_take (i := 9) (v := (.int .i64 (wasOf a.ds k - nowOf a.ds k))) rfl (by kernel_rfl) (by kernel_rfl) (by kernel_rfl) (fun _ _ _ h => h) (Or.inl ⟨by rfl, fun wx hS => by go_simp⟩) hS ?_
      refine wpAnyH_ready (rs := [10]) (by kernel_rfl) (by simp) ?_
      refine AllReadyH.cons rfl (fun K hK => ?_) AllReadyH.nil
      go_simp
      have F6 := own_belowL HF4.out BF
      have O6 := own_belowL HO4.out BF
      refine hK.out _ _ (hS.alloc (by omega) _) (fun hS => ?_)
      clear hK
      refine wpAnyH_ready (rs := [11]) (by kernel_rfl) (by simp) ?_
      refine AllReadyH.cons rfl (fun K hK => ?_) AllReadyH.nil
      refine step_ifR rfl ?_
      refine wp_append_at (.tmp 27) (.tmp 37) 43 rfl (w.heap.size + 1) 3 i0 (.int .i64 0) 1 8 Try.underlying43 hi hz0 hz1 hz2 rfl (by decide) u6 k (iL (tab k (fun i => wasOf a.ds i - nowOf a.ds i))) rfl (World.ownsRow.alloc F6 _) ⟨w6.heap.size, 0, none⟩ 1 1 [.int .i64 (wasOf a.ds k - nowOf a.ds k)] rfl rfl ?_ ?_ ?_ ?_ ?_ ?_
      · exact cell_one_new _ _ _
      · intro u hu; simp at hu; subst hu; rfl
      · unfold maxLen; omega
      · omega
      · simp; omega
      intro v7 w7 ho7 hg7 hb7
      have hsb : (w6.alloc (.cells #[.int .i64 (wasOf a.ds k - nowOf a.ds k)] 3)).heap.size = w6.heap.size + 1 := by simp
      have z7 := hg7.size
      try rw [hsb] at z7
      try rw [hsb] at hb7
      have hrow : ∀ q, u6.ownBlock = some q → w.heap.size + 1 ≤ q ∧ q < w6.heap.size := fun q hq => World.ownsRow.lt F6 q hq
      have hS7 : Below (w.heap.size + 1) w4 w7 := below_grownC hS hg7 (fun q hq => (hrow q hq).1) (by omega)
      refine hK.out _ _ hS7 (fun hS => ?_)
      clear hK
      refine wpAnyH_take (i := 12) (v := v7) rfl (by kernel_rfl) (by kernel_rfl) (by kernel_rfl) (fun _ _ _ h => h) (Or.inl ⟨by rfl, fun wx hS => by go_simp⟩) hS ?_
      refine wpAnyH_done (by kernel_rfl) ?_ _
      go_wp2_with fail
      have hol : ∀ q, v3.ownBlock = some q → q < w4.heap.size := fun q hq => (World.ownsRow.lt HO4.out q hq).2
      refine ⟨⟨k + 1, by omega, by norm_cast, ?_, ?_, ?_, B4.trans (hS7.mono (by omega)), (hS7.block w.heap.size (by omega)).trans X4, by omega⟩, by simp [intOf]; omega⟩
      · rw [HT0.out, iL_snoc]
        exact World.ownsRow.kept (World.ownsRow.alloc O6 _) hg7 (by
          cases hu : v3.ownBlock with
          | none => exact Or.inl rfl
          | some q => exact Or.inr (fun e => hap4 q hu e.symm))
      · rw [HT1.out, iL_snoc]; exact ho7
      · intro q hq e
        rcases hb7 with k1 | k1
        · rw [k1] at e; exact hap4 q hq e
        · rw [k1] at e; injection e with e; have := hol q hq; omega
    · have hd : decide ((k : Int) < a.ds.length) = false := by simp only [decide_eq_false_iff_not]; omega
      have hkk : k = a.ds.length := by omega
      subst hkk
      have hne := bw_some w1
      have m0 : w1.cell? ⟨w.heap.size, 0, none⟩ = some (.int .i64 a.supply) := X1.cell rfl
      have m1 : w1.cell? ⟨w.heap.size, 1, none⟩ = some (.int .i64 a.start) := X1.cell rfl
      have m2 : w1.cell? ⟨w.heap.size, 2, none⟩ = some (.int .i64 a.step) := X1.cell rfl
      have m3 : w1.cell? ⟨w.heap.size, 3, none⟩ = some (.int .i64 a.state) := X1.cell rfl
      have m4 : w1.cell? ⟨w.heap.size, 4, none⟩ = some (.slice (some ⟨g, 0, none⟩) R cap) := X1.cell rfl
      have y0 := fun y : BW w1 => y.cell m0
      have y1 := fun y : BW w1 => y.cell m1
      have y2 := fun y : BW w1 => y.cell m2
      have y3 := fun y : BW w1 => y.cell m3
      have y4 := fun y : BW w1 => y.cell m4
      have HNw : Hid (∀ y : BW w1, _) := fun y : BW w1 => HNow.out y.w (B1.trans (y.h.mono (by omega)))
      have HSm : Hid (∀ y : BW w1, _) := fun y : BW w1 => HSum.out y.w (B1.trans (y.h.mono (by omega)))
      have HO1 : Hid _ := o1
      have HF1 : Hid _ := f1
      have HX1 : Hid _ := X1
      clear o1 f1 X1
      obtain ⟨wa, rfl⟩ : ∃ wa, wa = wr := ⟨wr, rfl⟩
      go_wp2_with fail
      refine wp_region_below (by kernel_rfl) (by kernel_rfl) ?_
      repeat (quiet_step (first | (go_at_call 20; exact BW.call _ (HNw.out _)) | (go_at_call 19; exact BW.call _ (HSm.out _))))
      refine wpQuiet_nil ?_
      rintro w4 ⟨⟨_, b4⟩, rfl⟩
      have z4 := b4.size
      have X4 := Blk.below HX1.out b4
      have O4 := own_belowL HO1.out b4
      have F4 := own_belowL HF1.out b4
      have B4 : Below w.heap.size w w4 := B1.trans (b4.mono (by omega))
      clear y0 y1 y2 y3 y4 hne HNw HSm m0 m1 m2 m3 m4 HO1 HF1 HX1 b4
      have m0 : w4.cell? ⟨w.heap.size, 0, none⟩ = some (.int .i64 a.supply) := X4.cell rfl
      have m1 : w4.cell? ⟨w.heap.size, 1, none⟩ = some (.int .i64 a.start) := X4.cell rfl
      have m2 : w4.cell? ⟨w.heap.size, 2, none⟩ = some (.int .i64 a.step) := X4.cell rfl
      have m3 : w4.cell? ⟨w.heap.size, 3, none⟩ = some (.int .i64 a.state) := X4.cell rfl
      have m4 : w4.cell? ⟨w.heap.size, 4, none⟩ = some (.slice (some ⟨g, 0, none⟩) R cap) := X4.cell rfl
      have HO4 : Hid _ := O4
      have HF4 : Hid _ := F4
      have HX4 : Hid _ := X4
      clear O4 F4 X4
      go_wp2_with fail
      refine Calls.mono (HPr.out w4 B4) ?_
      rintro e w5 ⟨rfl, b5⟩
      have z5 := b5.size
      have X5 : Blk w5 w.heap.size (rfA a R g cap) 30 := Blk.below HX4.out b5
      have O5 := own_belowL HO4.out b5
      have F5 := own_belowL HF4.out b5
      have B5 : Below w.heap.size w w5 := B4.trans (b5.mono (by omega))
      clear m0 m1 m2 m3 m4 HO4 HF4 HX4 b5
      have m0 : w5.cell? ⟨w.heap.size, 0, none⟩ = some (.int .i64 a.supply) := X5.cell rfl
      have m1 : w5.cell? ⟨w.heap.size, 1, none⟩ = some (.int .i64 a.start) := X5.cell rfl
      have m2 : w5.cell? ⟨w.heap.size, 2, none⟩ = some (.int .i64 a.step) := X5.cell rfl
      have m3 : w5.cell? ⟨w.heap.size, 3, none⟩ = some (.int .i64 a.state) := X5.cell rfl
      have m4 : w5.cell? ⟨w.heap.size, 4, none⟩ = some (.slice (some ⟨g, 0, none⟩) R cap) := X5.cell rfl
      have rw5 : Rwn w5 (w.heap.size + 1) u5 (tab a.ds.length (fun _ => 0)) := rwn_own (by rw [tab_len]; exact O5)
      obtain ⟨g5, c5, cur5, hu5, hB5, Y5, hc5⟩ := rw5.block' (by rw [tab_len]; omega)
      rw [tab_len] at hu5
      subst hu5
      have HRW : Hid (Rwn w5 (w.heap.size + 1) (.slice (some ⟨g5, 0, none⟩) a.ds.length c5) (over (tab a.ds.length (fun _ => 0)) (nowOf a.ds) 0)) := rw5
      have HX5 : Hid _ := X5
      clear rw5 Y5 hc5 O5 F5 X5 hap
      go_wp2
      go_loopw [13] (fun i wr => ∃ k : Nat, k ≤ a.ds.length ∧ i = .int .i64 k ∧ Rwn wr (w.heap.size + 1) (.slice (some ⟨g5, 0, none⟩) a.ds.length c5) (over (tab a.ds.length (fun _ => 0)) (nowOf a.ds) k) ∧ Below w.heap.size w wr ∧ Blk wr w.heap.size #[.int .i64 a.supply, .int .i64 a.start, .int .i64 a.step, .int .i64 a.state, .slice (some ⟨g, 0, none⟩) R cap] 30 ∧ w.heap.size + 1 ≤ wr.heap.size) (fun i _ => a.ds.length - (intOf i).toNat)
      case atStart => exact ⟨0, Nat.zero_le _, rfl, HRW.out, B5, HX5.out, by omega⟩
      case round =>
        clear m0 m1 m2 m3 m4 HRW HX5 B5
        obtain ⟨k, hk, rfl, Yr, br, XR, hzr⟩ := hrel
        by_cases hlt : k < a.ds.length
        · have hd : decide ((k : Int) < a.ds.length) = true := by simp only [decide_eq_true_eq]; omega
          have hki : (k : Int) < a.ds.length := by omega
          have m0 : wr.cell? ⟨w.heap.size, 0, none⟩ = some (.int .i64 a.supply) := XR.cell rfl
          have m1 : wr.cell? ⟨w.heap.size, 1, none⟩ = some (.int .i64 a.start) := XR.cell rfl
          have m2 : wr.cell? ⟨w.heap.size, 2, none⟩ = some (.int .i64 a.step) := XR.cell rfl
          have m3 : wr.cell? ⟨w.heap.size, 3, none⟩ = some (.int .i64 a.state) := XR.cell rfl
          have m4 : wr.cell? ⟨w.heap.size, 4, none⟩ = some (.slice (some ⟨g, 0, none⟩) R cap) := XR.cell rfl
          go_wp2_with fail
          refine Calls.mono (HNow.out wr br) ?_
          rintro e w6 ⟨rfl, b6⟩
          have z6 := b6.size
          have Y6 := Yr.below b6
          have X6 := XR.below b6
          have B6 : Below w.heap.size w w6 := br.trans (b6.mono (by omega))
          have tn := HNC.out w6 B6 k hlt
          obtain ⟨g2, cap2, hu8, hB2, hg2, x0, f0, hset⟩ := Y6.at_ (i := k) (by rw [over_len, tab_len]; exact hlt)
          injection hu8 with e1 e3 e4
          injection e1 with e1
          injection e1 with e1 _
          subst e1
          have HR1 : Hid (Rwn (w6.setCell ⟨g5, k, none⟩ (.int .i64 (nowOf a.ds k))) (w.heap.size + 1) (.slice (some ⟨g5, 0, none⟩) a.ds.length c5) (over (tab a.ds.length (fun _ => 0)) (nowOf a.ds) (k + 1))) := by rw [over]; exact hset _
          have HB7 : Hid (Below w.heap.size w (w6.setCell ⟨g5, k, none⟩ (.int .i64 (nowOf a.ds k)))) := B6.setCell (p := ⟨g5, k, none⟩) (by show w.heap.size ≤ g5; omega) _
          have HX7 : Hid (Blk (w6.setCell ⟨g5, k, none⟩ (.int .i64 (nowOf a.ds k))) w.heap.size #[.int .i64 a.supply, .int .i64 a.start, .int .i64 a.step, .int .i64 a.state, .slice (some ⟨g, 0, none⟩) R cap] 30) := X6.setOther (p := ⟨g5, k, none⟩) (by show w.heap.size ≠ g5; omega) _
          clear m0 m1 m2 m3 m4 e3 e4 Y6 Yr X6 XR hset
          generalize nowOf a.ds k = nk at *
          go_wp2
          refine ⟨⟨k + 1, by omega, by norm_cast, HR1.out, HB7.out, HX7.out, by simp; omega⟩, by simp [intOf]; omega⟩
        · have hd : decide ((k : Int) < a.ds.length) = false := by simp only [decide_eq_false_iff_not]; omega
          have hkk : k = a.ds.length := by omega
          have HRd : Hid (Rd wr (.slice (some ⟨g5, 0, none⟩) a.ds.length c5) (tab a.ds.length (nowOf a.ds))) := by
            have q := Yr.rd
            rw [hkk, over_tab] at q
            exact q
          subst hkk
          clear Yr XR
          go_wp2
          go_ret3
          exact ⟨_, rfl, HRd.out, br⟩
end Go.Proofs.Yteinfckkpkbnlaa
