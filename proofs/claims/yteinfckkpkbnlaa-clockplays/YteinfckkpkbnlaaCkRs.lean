/- The document's Sale. -/
import Derived.Test.YteinfckkpkbnlaaCkRn
import Derived.Test.YteinfckkpkbnlaaCkT
import Derived.Maps.AppendAt
import Derived.Deep.RegionHeldLaw
import Derived.Deep.RegionHeld3

namespace Go.Proofs.Yteinfckkpkbnlaa
open Go.RowKit
set_option linter.unusedSimpArgs false
set_option linter.unusedVariables false
variable {a : Au} {R g cap : Nat} {rs : Nat → Value}

theorem step_ifR {P : Program} {ops : Array Oper} {o : Oper} {a : Act} {w : World} {K : Act → World → Prop} {Q : Exit → Act → World → Prop} {E : Prop} (hg : o.guard = none) (h : Oper.wp P o a w K Q) :
    if Region.wanted o (yielded ops a.tmps) = true then Oper.wp P o a w K Q else E := by
  have hw : Region.wanted o (yielded ops a.tmps) = true := by simp [Region.wanted, hg]
  rw [if_pos hw]; exact h

theorem wp_append_at {P : Program} {w : World} {o : Oper} {a : Act} {K : Act → World → Prop} {Q : Exit → Act → World → Prop} (s x : Operand) (t : TypeId)
    (ho : o.op = .call { callee := .builtin .append, args := #[s, x], argTypes := #[t, t] })
    (base : Nat) (e : TypeId) (i : TypeInfo) (z : Value) (size bytes : Nat) (ht : P.underlying t = some (.slice e)) (hi : P.info? e = some i) (hz : i.zero = some z)
    (hsize : i.size = size) (hby : i.bytes = bytes) (hzs : z.cells.size = size) (hsz : 0 < size)
    (v : Value) (n : Nat) (xs : List Value) (hs : a.eval s = v) (hown : w.ownsRow base e size v n xs)
    (ad : Addr) (m c : Nat) (news : List Value) (hx : a.eval x = .slice (some ad) m c) (hl : news.length = m * size) (hnews : ∀ j u, news[j]? = some u → w.cell? (ad.add j) = some u) (h1 : ∀ u ∈ news, u.oneCell' = true)
    (h63 : n + m ≤ maxLen) (hbytes : (n + m) * bytes ≤ 140737488355328) (hbase : base ≤ w.heap.size)
    (h : ∀ v' w', w'.ownsRow base e size v' (n + m) (xs ++ news) → w.grownBy w' v.ownBlock → (v'.ownBlock = v.ownBlock ∨ v'.ownBlock = some w.heap.size) → K (a.put o.dst v') w') : o.wp P a w K Q := by
  obtain ⟨v', w', hr, h2, h3, h4, h5⟩ := run_append_own_at (P := P) w base t o.type e i z size bytes ht hi hz hsize hby hzs hsz v n xs hown ad m c news hl hnews h1 h63 hbytes hbase
  unfold Oper.wp execOp
  simp only [ho, resolve, invoke, builtin, Sem.run_bind, Sem.run_pure, Result.andThen_ok, List.map_toArray, List.map_cons, List.map_nil, hs, hx, hr]
  exact h v' w' h2 h3 h5

set_option maxRecDepth 100000 in
theorem sale_ref0 (w : World) (h : Rf w a R g cap rs) (h0 : a.state = 0) : Calls Try.prog 17 #[rfV a R g cap] w fun e w' => e = .returned (.tuple #[.int .i64 0, .slice none 0 0, .int .i64 3]) ∧ Below w.heap.size w w' := by
  obtain ⟨W, hW, X, B⟩ := rf_box w a R g cap
  rw [show rfA a R g cap = #[.int .i64 a.supply, .int .i64 a.start, .int .i64 a.step, .int .i64 a.state, .slice (some ⟨g, 0, none⟩) R cap] from rfl] at *
  have c3 : W.cell? ⟨w.heap.size, 3, none⟩ = some (.int .i64 0) := by rw [← h0]; exact X.cell rfl
  clear h h0 X
  unfold rfV rfA
  go_enter Try.func17, Try.ntmps17
  go_wp2
  go_ret3
  exact ⟨rfl, B⟩
set_option maxRecDepth 100000 in
set_option maxHeartbeats 4000000 in
theorem sale_refvoid (w : World) (h : Rf w a R g cap rs) (h0 : a.state = 2) : Calls Try.prog 17 #[rfV a R g cap] w fun e w' => ∃ v, e = .returned (.tuple #[.int .i64 0, v, .int .i64 0]) ∧ Rd w' v (tab a.ds.length (fun _ => 0)) ∧ Below w.heap.size w w' := by
  have ne : (a.state == 0) = false := by simp [h0]
  have e2 : (a.state == 2) = true := by simp [h0]
  clear h0
  obtain ⟨i0, hi, hz0, hz1, hz2⟩ := info_parts infoInt
  obtain ⟨W0, hW0, X0, B0⟩ := rf_box w a R g cap
  have hs0 : W0.heap.size = w.heap.size + 1 := by rw [← hW0]; simp
  rw [show rfA a R g cap = #[.int .i64 a.supply, .int .i64 a.start, .int .i64 a.step, .int .i64 a.state, .slice (some ⟨g, 0, none⟩) R cap] from rfl] at X0
  have h1 := h.one
  have hln := h.inv.len
  have HLw : Hid _ := fun wx (hb : Below w.heap.size w wx) => h.below hb
  have HNow : Hid _ := fun wx (hb : Below w.heap.size w wx) => now_ref wx (h.below hb)
  have HWas : Hid _ := fun i (hi : i < a.ds.length) wx (hb : Below w.heap.size w wx) => was_ref wx (h.below hb) i hi
  have HPr : Hid _ := fun wx (hb : Below w.heap.size w wx) => price_ref wx (h.below hb)
  unfold rfV at HNow HWas HPr
  rw [show rfA a R g cap = #[.int .i64 a.supply, .int .i64 a.start, .int .i64 a.step, .int .i64 a.state, .slice (some ⟨g, 0, none⟩) R cap] from rfl] at HNow HPr HWas
  have HDm : Hid (∀ i, i < a.ds.length → 0 ≤ wasOf a.ds i ∧ wasOf a.ds i ≤ 1048576 ∧ 0 ≤ nowOf a.ds i ∧ nowOf a.ds i ≤ 1048576) := h.inv.dm
  obtain ⟨uc, ucp, hus, hcu⟩ := h.now
  rw [tab_len] at hus hcu
  obtain ⟨gu, offu, huc, hgu, _⟩ := hcu 0 (by omega)
  subst huc
  rw [hus] at HNow
  have HNC : Hid (∀ wx, Below w.heap.size w wx → ∀ i, i < a.ds.length → wx.cell? ⟨gu, offu + i, none⟩ = some (.int .i64 (nowOf a.ds i))) := fun wx hb i hi => by
    obtain ⟨g1, o1, e1, _, e2⟩ := hcu i hi
    injection e1 with e1
    injection e1 with e3 e4
    subst e3 e4
    rw [tab_at _ hi] at e2
    exact (hb.cell (p := ⟨gu, offu + i, none⟩) hgu).trans e2
  have HUS : Hid _ := hus
  clear hcu hus
  clear h
  unfold rfV
  rw [show rfA a R g cap = #[.int .i64 a.supply, .int .i64 a.start, .int .i64 a.step, .int .i64 a.state, .slice (some ⟨g, 0, none⟩) R cap] from rfl]
  have c0 : W0.cell? ⟨w.heap.size, 0, none⟩ = some (.int .i64 a.supply) := X0.cell rfl
  have c1 : W0.cell? ⟨w.heap.size, 1, none⟩ = some (.int .i64 a.start) := X0.cell rfl
  have c2 : W0.cell? ⟨w.heap.size, 2, none⟩ = some (.int .i64 a.step) := X0.cell rfl
  have c3 : W0.cell? ⟨w.heap.size, 3, none⟩ = some (.int .i64 a.state) := X0.cell rfl
  have c4 : W0.cell? ⟨w.heap.size, 4, none⟩ = some (.slice (some ⟨g, 0, none⟩) R cap) := X0.cell rfl
  go_enter Try.func17, Try.ntmps17
  go_wp2
  go_loopw [5, 6, 7] (fun o f i wr => ∃ k : Nat, k ≤ a.ds.length ∧ i = .int .i64 k ∧ wr.ownsRow (w.heap.size + 1) 3 1 o k (iL (tab k (fun _ => 0))) ∧ wr.ownsRow (w.heap.size + 1) 3 1 f k (iL (tab k (fun i => wasOf a.ds i - nowOf a.ds i))) ∧ (∀ q, o.ownBlock = some q → f.ownBlock ≠ some q) ∧ Below w.heap.size w wr ∧ Blk wr w.heap.size #[.int .i64 a.supply, .int .i64 a.start, .int .i64 a.step, .int .i64 a.state, .slice (some ⟨g, 0, none⟩) R cap] 30 ∧ w.heap.size + 1 ≤ wr.heap.size) (fun _ _ i _ => a.ds.length - (intOf i).toNat)
  case atStart => exact ⟨0, Nat.zero_le _, rfl, World.ownsRow_nil _ _ _ _, World.ownsRow_nil _ _ _ _, (fun q hq => by cases hq), B0, X0, by omega⟩
  case round =>
    obtain ⟨k, hk, rfl, ho, hf, hap, br, XR, hzr⟩ := hrel
    have r0 : wr.cell? ⟨w.heap.size, 0, none⟩ = some (.int .i64 a.supply) := XR.cell rfl
    have r1 : wr.cell? ⟨w.heap.size, 1, none⟩ = some (.int .i64 a.start) := XR.cell rfl
    have r2 : wr.cell? ⟨w.heap.size, 2, none⟩ = some (.int .i64 a.step) := XR.cell rfl
    have r3 : wr.cell? ⟨w.heap.size, 3, none⟩ = some (.int .i64 a.state) := XR.cell rfl
    have r4 : wr.cell? ⟨w.heap.size, 4, none⟩ = some (.slice (some ⟨g, 0, none⟩) R cap) := XR.cell rfl
    go_wp2_with fail
    refine Calls.mono (HNow.out wr br) ?_
    rintro e w1 ⟨rfl, b1⟩
    have z1 := b1.size
    have o1 := own_belowL ho b1
    have f1 := own_belowL hf b1
    have X1 := XR.below b1
    have B1 : Below w.heap.size w w1 := br.trans (b1.mono (by omega))
    clear r0 r1 r2 r3 r4 ho hf XR br b1
    by_cases hlt : k < a.ds.length
    · have hd : decide ((k : Int) < a.ds.length) = true := by simp only [decide_eq_true_eq]; omega
      have HO : Hid _ := o1
      have HF : Hid _ := f1
      have HX : Hid _ := X1
      have HT0 : Hid _ := tab_snoc k (fun _ => 0)
      have HT1 : Hid _ := tab_snoc k (fun i => wasOf a.ds i - nowOf a.ds i)
      have hdk := HDm.out k hlt
      clear o1 f1 X1
      go_wp2_with (at_builtin; (refine wpList_append_own_at _ ?a1p (.tmp 24) (.tmp 25) 43 ?a2p (w.heap.size + 1) 3 i0 (.int .i64 0) 1 8 ?a3p ?a4p ?a5p ?a6p ?a7p ?a8p ?a9p u5 k (iL (tab k (fun _ => 0))) ?b1p ?b2p ⟨w1.heap.size, 0, none⟩ 1 1 [.int .i64 0] ?b3p ?b4p ?c1p ?c2p ?c3p ?c4p ?c5p ?_))
      case a1p => rfl
      case a2p => rfl
      case a3p => exact Try.underlying43
      case a4p => exact hi
      case a5p => exact hz0
      case a6p => exact hz1
      case a7p => exact hz2
      case a8p => rfl
      case a9p => decide
      case b1p => rfl
      case b2p => exact World.ownsRow.alloc HO.out _
      case b3p => rfl
      case b4p => rfl
      case c1p => exact cell_one_new _ _ _
      case c2p => intro u hu; simp at hu; subst hu; rfl
      case c3p => unfold maxLen; omega
      case c4p => omega
      case c5p => simp; omega
      intro v3 w4 ho4 hg4 _ hb4
      have hsa : (w1.alloc (.cells #[.int .i64 0] 3)).heap.size = w1.heap.size + 1 := by simp
      have z4 := hg4.size
      try rw [hsa] at z4
      try rw [hsa] at hb4
      have B4 : Below w.heap.size w w4 := below_grownC (B1.alloc (by omega) _) hg4 (fun q hq => by have := (World.ownsRow.lt HO.out q hq).1; omega) (by omega)
      have X4 : Blk w4 w.heap.size (rfA a R g cap) 30 := (hg4.block _ (by omega) (fun e => by have := (World.ownsRow.lt HO.out _ e.symm).1; omega)).trans ((show Blk w1 w.heap.size (rfA a R g cap) 30 from HX.out).alloc _)
      have hfl : ∀ q, u6.ownBlock = some q → w.heap.size + 1 ≤ q ∧ q < w1.heap.size := fun q hq => World.ownsRow.lt HF.out q hq
      have f4 : w4.ownsRow (w.heap.size + 1) 3 1 u6 k (iL (tab k (fun i => wasOf a.ds i - nowOf a.ds i))) := World.ownsRow.kept (World.ownsRow.alloc HF.out _) hg4 (by
        cases hu : u6.ownBlock with
        | none => exact Or.inl rfl
        | some q => exact Or.inr (fun e => hap q e.symm hu))
      have hap4 : ∀ q, v3.ownBlock = some q → u6.ownBlock ≠ some q := fun q hq e => by
        rcases hb4 with k1 | k1
        · rw [k1] at hq; exact hap q hq e
        · rw [k1] at hq; injection hq with hq; have := hfl q e; omega
      have HF4 : Hid _ := f4
      have HO4 : Hid _ := ho4
      have hwr : IntKind.i64.wrap (wasOf a.ds k - nowOf a.ds k) = wasOf a.ds k - nowOf a.ds k := by rw [IntKind.wrap_i64]; omega
      have hki : (k : Int) < a.ds.length := by omega
      clear f4 ho4 hap hfl
      go_wp2_with fail
      refine wp_region_held_drew (S := (fun wx => Below (w.heap.size + 1) w4 wx)) (by kernel_rfl) ((Below.refl _ _).drew) (fun hS => ?_)
      refine wpAnyH_take (i := 0) (v := u6) rfl (by kernel_rfl) (by kernel_rfl) (by kernel_rfl) (fun _ _ _ h => h) (Or.inl ⟨by rfl, fun wx hS => by go_simp⟩) hS ?_
      refine wpAnyH_take (i := 1) (v := (.agg #[.int .i64 a.supply, .int .i64 a.start, .int .i64 a.step, .int .i64 a.state, .slice (some ⟨g, 0, none⟩) R cap])) rfl (by kernel_rfl) (by kernel_rfl) (by kernel_rfl) (fun _ _ _ h => h) (Or.inl ⟨by rfl, fun wx hS => by have tX : Blk wx w.heap.size (rfA a R g cap) 30 := (hS.block w.heap.size (by omega)).trans X4; have t0 : wx.cell? ⟨w.heap.size, 0, none⟩ = some (.int .i64 a.supply) := tX.cell rfl; have t1 : wx.cell? ⟨w.heap.size, 1, none⟩ = some (.int .i64 a.start) := tX.cell rfl; have t2 : wx.cell? ⟨w.heap.size, 2, none⟩ = some (.int .i64 a.step) := tX.cell rfl; have t3 : wx.cell? ⟨w.heap.size, 3, none⟩ = some (.int .i64 a.state) := tX.cell rfl; have t4 : wx.cell? ⟨w.heap.size, 4, none⟩ = some (.slice (some ⟨g, 0, none⟩) R cap) := tX.cell rfl; go_simp⟩) hS ?_
      refine wpAnyH_take (i := 2) (v := (.int .i64 (k : Int))) rfl (by kernel_rfl) (by kernel_rfl) (by kernel_rfl) (fun _ _ _ h => h) (Or.inl ⟨by rfl, fun wx hS => by go_simp⟩) hS ?_
      refine wpAnyH_take (i := 4) (v := (.agg #[.int .i64 a.supply, .int .i64 a.start, .int .i64 a.step, .int .i64 a.state, .slice (some ⟨g, 0, none⟩) R cap])) rfl (by kernel_rfl) (by kernel_rfl) (by kernel_rfl) (fun _ _ _ h => h) (Or.inl ⟨by rfl, fun wx hS => by have tX : Blk wx w.heap.size (rfA a R g cap) 30 := (hS.block w.heap.size (by omega)).trans X4; have t0 : wx.cell? ⟨w.heap.size, 0, none⟩ = some (.int .i64 a.supply) := tX.cell rfl; have t1 : wx.cell? ⟨w.heap.size, 1, none⟩ = some (.int .i64 a.start) := tX.cell rfl; have t2 : wx.cell? ⟨w.heap.size, 2, none⟩ = some (.int .i64 a.step) := tX.cell rfl; have t3 : wx.cell? ⟨w.heap.size, 3, none⟩ = some (.int .i64 a.state) := tX.cell rfl; have t4 : wx.cell? ⟨w.heap.size, 4, none⟩ = some (.slice (some ⟨g, 0, none⟩) R cap) := tX.cell rfl; go_simp⟩) hS ?_
      refine wpAnyH_take (i := 6) (v := (.int .i64 (k : Int))) rfl (by kernel_rfl) (by kernel_rfl) (by kernel_rfl) (fun _ _ _ h => h) (Or.inl ⟨by rfl, fun wx hS => by go_simp⟩) hS ?_
      refine wpAnyH_ready (rs := [3]) (by kernel_rfl) (by simp) ?_
      refine AllReadyH.cons rfl (fun K hK => ?_) AllReadyH.nil
      go_simp
      refine Calls.mono (HWas.out k hlt _ (B4.trans (hS.mono (by omega)))) ?_
      rintro e w5 ⟨rfl, b5⟩
      have y4 := hS.size
      have y5 := b5.size
      refine hK.out _ _ (hS.trans (b5.mono (by omega))) (fun hS => ?_)
      clear hK
      refine wpAnyH_ready (rs := [5]) (by kernel_rfl) (by simp) ?_
      refine AllReadyH.cons rfl (fun K hK => ?_) AllReadyH.nil
      go_simp
      refine Calls.mono (HNow.out _ (B4.trans (hS.mono (by omega)))) ?_
      rintro e w6 ⟨rfl, b6⟩
      have y6 := b6.size
      have BF : Below w4.heap.size w4 w6 := ((Below.refl _ _).drew.trans (b5.mono (Nat.le_refl _))).trans (b6.mono b5.size)
      refine hK.out _ _ (hS.trans (b6.mono (by omega))) (fun hS => ?_)
      clear hK
      refine wpAnyH_take (i := 7) (v := (.pointer (some ⟨gu, offu + k, none⟩))) rfl (by kernel_rfl) (by kernel_rfl) (by kernel_rfl) (fun _ _ _ h => h) (Or.inl ⟨by rfl, fun wx hS => by go_simp⟩) hS ?_
      refine wpAnyH_take (i := 8) (v := (.int .i64 (nowOf a.ds k))) rfl (by kernel_rfl) (by kernel_rfl) (by kernel_rfl) (fun _ _ _ h => h) (Or.inl ⟨by rfl, fun wx hS => by have tn := HNC.out wx (B4.trans (hS.mono (by omega))) k hlt; go_simp⟩) hS ?_
      refine wpAnyH_take (i := 9) (v := (.int .i64 (wasOf a.ds k - nowOf a.ds k))) rfl (by kernel_rfl) (by kernel_rfl) (by kernel_rfl) (fun _ _ _ h => h) (Or.inl ⟨by rfl, fun wx hS => by go_simp⟩) hS ?_
      refine wpAnyH_ready (rs := [10]) (by kernel_rfl) (by simp) ?_
      refine AllReadyH.cons rfl (fun K hK => ?_) AllReadyH.nil
      go_simp
      have F6 := own_belowL HF4.out BF
      have O6 := own_belowL HO4.out BF
      refine hK.out _ _ (hS.alloc (by omega) _) (fun hS => ?_)
      clear hK
      refine wpAnyH_ready (rs := [11]) (by kernel_rfl) (by simp) ?_
      refine AllReadyH.cons rfl (fun K hK => ?_) AllReadyH.nil
      refine step_ifR rfl ?_
      refine wp_append_at (.tmp 27) (.tmp 37) 43 rfl (w.heap.size + 1) 3 i0 (.int .i64 0) 1 8 Try.underlying43 hi hz0 hz1 hz2 rfl (by decide) u6 k (iL (tab k (fun i => wasOf a.ds i - nowOf a.ds i))) rfl (World.ownsRow.alloc F6 _) ⟨w6.heap.size, 0, none⟩ 1 1 [.int .i64 (wasOf a.ds k - nowOf a.ds k)] rfl rfl ?_ ?_ ?_ ?_ ?_ ?_
      · exact cell_one_new _ _ _
      · intro u hu; simp at hu; subst hu; rfl
      · unfold maxLen; omega
      · omega
      · simp; omega
      intro v7 w7 ho7 hg7 hb7
      have hsb : (w6.alloc (.cells #[.int .i64 (wasOf a.ds k - nowOf a.ds k)] 3)).heap.size = w6.heap.size + 1 := by simp
      have z7 := hg7.size
      try rw [hsb] at z7
      try rw [hsb] at hb7
      have hrow : ∀ q, u6.ownBlock = some q → w.heap.size + 1 ≤ q ∧ q < w6.heap.size := fun q hq => World.ownsRow.lt F6 q hq
      have hS7 : Below (w.heap.size + 1) w4 w7 := below_grownC hS hg7 (fun q hq => (hrow q hq).1) (by omega)
      refine hK.out _ _ hS7 (fun hS => ?_)
      clear hK
      refine wpAnyH_take (i := 12) (v := v7) rfl (by kernel_rfl) (by kernel_rfl) (by kernel_rfl) (fun _ _ _ h => h) (Or.inl ⟨by rfl, fun wx hS => by go_simp⟩) hS ?_
      refine wpAnyH_done (by kernel_rfl) ?_ _
      go_wp2_with fail
      have hol : ∀ q, v3.ownBlock = some q → q < w4.heap.size := fun q hq => (World.ownsRow.lt HO4.out q hq).2
      refine ⟨⟨k + 1, by omega, by norm_cast, ?_, ?_, ?_, B4.trans (hS7.mono (by omega)), (hS7.block w.heap.size (by omega)).trans X4, by omega⟩, by simp [intOf]; omega⟩
      · rw [HT0.out, iL_snoc]
        exact World.ownsRow.kept (World.ownsRow.alloc O6 _) hg7 (by
          cases hu : v3.ownBlock with
          | none => exact Or.inl rfl
          | some q => exact Or.inr (fun e => hap4 q hu e.symm))
      · rw [HT1.out, iL_snoc]; exact ho7
      · intro q hq e
        rcases hb7 with k1 | k1
        · rw [k1] at e; exact hap4 q hq e
        · rw [k1] at e; injection e with e; have := hol q hq; omega
    · have hd : decide ((k : Int) < a.ds.length) = false := by simp only [decide_eq_false_iff_not]; omega
      have hkk : k = a.ds.length := by omega
      subst hkk
      have HRd : Hid (Rd w1 u5 (tab a.ds.length (fun _ => 0))) := (rwn_own (by rw [tab_len]; exact o1)).rd
      have m0 : w1.cell? ⟨w.heap.size, 0, none⟩ = some (.int .i64 a.supply) := X1.cell rfl
      have m1 : w1.cell? ⟨w.heap.size, 1, none⟩ = some (.int .i64 a.start) := X1.cell rfl
      have m2 : w1.cell? ⟨w.heap.size, 2, none⟩ = some (.int .i64 a.step) := X1.cell rfl
      have m3 : w1.cell? ⟨w.heap.size, 3, none⟩ = some (.int .i64 a.state) := X1.cell rfl
      have m4 : w1.cell? ⟨w.heap.size, 4, none⟩ = some (.slice (some ⟨g, 0, none⟩) R cap) := X1.cell rfl
      clear o1 f1 X1 hap
      go_wp2
      go_ret3
      exact ⟨_, rfl, HRd.out, B1⟩
end Go.Proofs.Yteinfckkpkbnlaa
