/- The document's Bytes. -/
import Derived.Test.YteinfckkpkbnlaaCkRs
import Derived.Test.YteinfckkpkbnlaaCkY
import Derived.Test.YteinfckkpkbnlaaRefL
import Derived.Maps.AppendAt
import Derived.Deep.RegionHeldLaw
import Derived.Deep.RegionHeld3

namespace Go.Proofs.Yteinfckkpkbnlaa
open Go.RowKit
set_option linter.unusedSimpArgs false
set_option linter.unusedVariables false
variable {a : Au} {R g cap : Nat} {rs : Nat → Value}

theorem catL8 (x y : List UInt8) : (⟨x.toArray⟩ : ByteArray) ++ ⟨y.toArray⟩ = ⟨(x ++ y).toArray⟩ := by
  apply ByteArray.ext
  simp [ByteArray.data_append]
set_option maxRecDepth 100000 in
set_option maxHeartbeats 8000000 in
theorem bytes_ref (w : World) (h : Rf w a R g cap rs) : Calls Try.prog 31 #[rfV a R g cap] w fun e w' => e = .returned (.string (auB a)) ∧ Below w.heap.size w w' := by
  have HFit : Hid _ := h.inv.fit
  have HRD : Hid _ := h.rd
  obtain ⟨i0, hi, hz0, hz1, hz2⟩ := info_parts infoInt
  obtain ⟨W0, hW0, X0, B0⟩ := rf_box w a R g cap
  have hs0 : W0.heap.size = w.heap.size + 1 := by rw [← hW0]; simp
  rw [show rfA a R g cap = #[.int .i64 a.supply, .int .i64 a.start, .int .i64 a.step, .int .i64 a.state, .slice (some ⟨g, 0, none⟩) R cap] from rfl] at X0
  have h1 := h.one
  have hln := h.inv.len
  have HLw : Hid _ := fun wx (hb : Below w.heap.size w wx) => h.below hb
  have HNow : Hid _ := fun wx (hb : Below w.heap.size w wx) => now_ref wx (h.below hb)
  have HWas : Hid _ := fun i (hi : i < a.ds.length) wx (hb : Below w.heap.size w wx) => was_ref wx (h.below hb) i hi
  have HPr : Hid _ := fun wx (hb : Below w.heap.size w wx) => price_ref wx (h.below hb)
  unfold rfV at HNow HWas HPr
  rw [show rfA a R g cap = #[.int .i64 a.supply, .int .i64 a.start, .int .i64 a.step, .int .i64 a.state, .slice (some ⟨g, 0, none⟩) R cap] from rfl] at HNow HPr HWas
  have HDm : Hid (∀ i, i < a.ds.length → 0 ≤ wasOf a.ds i ∧ wasOf a.ds i ≤ 1048576 ∧ 0 ≤ nowOf a.ds i ∧ nowOf a.ds i ≤ 1048576) := h.inv.dm
  obtain ⟨uc, ucp, hus, hcu⟩ := h.now
  rw [tab_len] at hus hcu
  obtain ⟨gu, offu, huc, hgu, _⟩ := hcu 0 (by omega)
  subst huc
  rw [hus] at HNow
  have HNC : Hid (∀ wx, Below w.heap.size w wx → ∀ i, i < a.ds.length → wx.cell? ⟨gu, offu + i, none⟩ = some (.int .i64 (nowOf a.ds i))) := fun wx hb i hi => by
    obtain ⟨g1, o1, e1, _, e2⟩ := hcu i hi
    injection e1 with e1
    injection e1 with e3 e4
    subst e3 e4
    rw [tab_at _ hi] at e2
    exact (hb.cell (p := ⟨gu, offu + i, none⟩) hgu).trans e2
  have HUS : Hid _ := hus
  clear hcu hus
  clear h
  unfold rfV
  rw [show rfA a R g cap = #[.int .i64 a.supply, .int .i64 a.start, .int .i64 a.step, .int .i64 a.state, .slice (some ⟨g, 0, none⟩) R cap] from rfl]
  have c0 : W0.cell? ⟨w.heap.size, 0, none⟩ = some (.int .i64 a.supply) := X0.cell rfl
  have c1 : W0.cell? ⟨w.heap.size, 1, none⟩ = some (.int .i64 a.start) := X0.cell rfl
  have c2 : W0.cell? ⟨w.heap.size, 2, none⟩ = some (.int .i64 a.step) := X0.cell rfl
  have c3 : W0.cell? ⟨w.heap.size, 3, none⟩ = some (.int .i64 a.state) := X0.cell rfl
  have c4 : W0.cell? ⟨w.heap.size, 4, none⟩ = some (.slice (some ⟨g, 0, none⟩) R cap) := X0.cell rfl
  have HN0 : Hid (#[.int .i64 a.supply, .int .i64 a.start, .int .i64 a.step, .int .i64 (R : Int), .int .i64 a.state, .int .i64 (a.ds.length : Int)] = iC (numsK a 0)) := by
    show _ = _
    unfold numsK headL
    rw [HRD.out]
    rfl
  have XW : Blk W0 w.heap.size (rfA a R g cap) 30 := X0
  go_enter Try.func31, Try.ntmps31
  go_wp2_with fail
  refine wp_region_held_drew (S := (fun wx => Below (w.heap.size + 1) W0 wx)) (by kernel_rfl) ((Below.refl _ _).drew) (fun hS => ?_)
  refine wpAnyH_take (i := 0) (v := (.pointer (some ⟨w.heap.size, 0, none⟩))) rfl (by kernel_rfl) (by kernel_rfl) (by kernel_rfl) (fun _ _ _ h => h) (Or.inl ⟨by rfl, fun wx hS => by go_simp⟩) hS ?_
  refine wpAnyH_take (i := 1) (v := (.int .i64 a.supply)) rfl (by kernel_rfl) (by kernel_rfl) (by kernel_rfl) (fun _ _ _ h => h) (Or.inl ⟨by rfl, fun wx hS => by have tX : Blk wx w.heap.size (rfA a R g cap) 30 := (hS.block w.heap.size (by omega)).trans XW; have t0 : wx.cell? ⟨w.heap.size, 0, none⟩ = some (.int .i64 a.supply) := tX.cell rfl; have t1 : wx.cell? ⟨w.heap.size, 1, none⟩ = some (.int .i64 a.start) := tX.cell rfl; have t2 : wx.cell? ⟨w.heap.size, 2, none⟩ = some (.int .i64 a.step) := tX.cell rfl; have t3 : wx.cell? ⟨w.heap.size, 3, none⟩ = some (.int .i64 a.state) := tX.cell rfl; have t4 : wx.cell? ⟨w.heap.size, 4, none⟩ = some (.slice (some ⟨g, 0, none⟩) R cap) := tX.cell rfl; go_simp⟩) hS ?_
  refine wpAnyH_take (i := 2) (v := (.pointer (some ⟨w.heap.size, 1, none⟩))) rfl (by kernel_rfl) (by kernel_rfl) (by kernel_rfl) (fun _ _ _ h => h) (Or.inl ⟨by rfl, fun wx hS => by go_simp⟩) hS ?_
  refine wpAnyH_take (i := 3) (v := (.int .i64 a.start)) rfl (by kernel_rfl) (by kernel_rfl) (by kernel_rfl) (fun _ _ _ h => h) (Or.inl ⟨by rfl, fun wx hS => by have tX : Blk wx w.heap.size (rfA a R g cap) 30 := (hS.block w.heap.size (by omega)).trans XW; have t0 : wx.cell? ⟨w.heap.size, 0, none⟩ = some (.int .i64 a.supply) := tX.cell rfl; have t1 : wx.cell? ⟨w.heap.size, 1, none⟩ = some (.int .i64 a.start) := tX.cell rfl; have t2 : wx.cell? ⟨w.heap.size, 2, none⟩ = some (.int .i64 a.step) := tX.cell rfl; have t3 : wx.cell? ⟨w.heap.size, 3, none⟩ = some (.int .i64 a.state) := tX.cell rfl; have t4 : wx.cell? ⟨w.heap.size, 4, none⟩ = some (.slice (some ⟨g, 0, none⟩) R cap) := tX.cell rfl; go_simp⟩) hS ?_
  refine wpAnyH_take (i := 4) (v := (.pointer (some ⟨w.heap.size, 2, none⟩))) rfl (by kernel_rfl) (by kernel_rfl) (by kernel_rfl) (fun _ _ _ h => h) (Or.inl ⟨by rfl, fun wx hS => by go_simp⟩) hS ?_
  refine wpAnyH_take (i := 5) (v := (.int .i64 a.step)) rfl (by kernel_rfl) (by kernel_rfl) (by kernel_rfl) (fun _ _ _ h => h) (Or.inl ⟨by rfl, fun wx hS => by have tX : Blk wx w.heap.size (rfA a R g cap) 30 := (hS.block w.heap.size (by omega)).trans XW; have t0 : wx.cell? ⟨w.heap.size, 0, none⟩ = some (.int .i64 a.supply) := tX.cell rfl; have t1 : wx.cell? ⟨w.heap.size, 1, none⟩ = some (.int .i64 a.start) := tX.cell rfl; have t2 : wx.cell? ⟨w.heap.size, 2, none⟩ = some (.int .i64 a.step) := tX.cell rfl; have t3 : wx.cell? ⟨w.heap.size, 3, none⟩ = some (.int .i64 a.state) := tX.cell rfl; have t4 : wx.cell? ⟨w.heap.size, 4, none⟩ = some (.slice (some ⟨g, 0, none⟩) R cap) := tX.cell rfl; go_simp⟩) hS ?_
  refine wpAnyH_take (i := 6) (v := (.pointer (some ⟨w.heap.size, 4, none⟩))) rfl (by kernel_rfl) (by kernel_rfl) (by kernel_rfl) (fun _ _ _ h => h) (Or.inl ⟨by rfl, fun wx hS => by go_simp⟩) hS ?_
  refine wpAnyH_take (i := 7) (v := (.slice (some ⟨g, 0, none⟩) R cap)) rfl (by kernel_rfl) (by kernel_rfl) (by kernel_rfl) (fun _ _ _ h => h) (Or.inl ⟨by rfl, fun wx hS => by have tX : Blk wx w.heap.size (rfA a R g cap) 30 := (hS.block w.heap.size (by omega)).trans XW; have t0 : wx.cell? ⟨w.heap.size, 0, none⟩ = some (.int .i64 a.supply) := tX.cell rfl; have t1 : wx.cell? ⟨w.heap.size, 1, none⟩ = some (.int .i64 a.start) := tX.cell rfl; have t2 : wx.cell? ⟨w.heap.size, 2, none⟩ = some (.int .i64 a.step) := tX.cell rfl; have t3 : wx.cell? ⟨w.heap.size, 3, none⟩ = some (.int .i64 a.state) := tX.cell rfl; have t4 : wx.cell? ⟨w.heap.size, 4, none⟩ = some (.slice (some ⟨g, 0, none⟩) R cap) := tX.cell rfl; go_simp⟩) hS ?_
  refine wpAnyH_take (i := 8) (v := (.int .i64 (R : Int))) rfl (by kernel_rfl) (by kernel_rfl) (by kernel_rfl) (fun _ _ _ h => h) (Or.inl ⟨by rfl, fun wx hS => by go_simp⟩) hS ?_
  refine wpAnyH_take (i := 9) (v := (.pointer (some ⟨w.heap.size, 3, none⟩))) rfl (by kernel_rfl) (by kernel_rfl) (by kernel_rfl) (fun _ _ _ h => h) (Or.inl ⟨by rfl, fun wx hS => by go_simp⟩) hS ?_
  refine wpAnyH_take (i := 10) (v := (.int .i64 a.state)) rfl (by kernel_rfl) (by kernel_rfl) (by kernel_rfl) (fun _ _ _ h => h) (Or.inl ⟨by rfl, fun wx hS => by have tX : Blk wx w.heap.size (rfA a R g cap) 30 := (hS.block w.heap.size (by omega)).trans XW; have t0 : wx.cell? ⟨w.heap.size, 0, none⟩ = some (.int .i64 a.supply) := tX.cell rfl; have t1 : wx.cell? ⟨w.heap.size, 1, none⟩ = some (.int .i64 a.start) := tX.cell rfl; have t2 : wx.cell? ⟨w.heap.size, 2, none⟩ = some (.int .i64 a.step) := tX.cell rfl; have t3 : wx.cell? ⟨w.heap.size, 3, none⟩ = some (.int .i64 a.state) := tX.cell rfl; have t4 : wx.cell? ⟨w.heap.size, 4, none⟩ = some (.slice (some ⟨g, 0, none⟩) R cap) := tX.cell rfl; go_simp⟩) hS ?_
  refine wpAnyH_take (i := 11) (v := (.agg #[.int .i64 a.supply, .int .i64 a.start, .int .i64 a.step, .int .i64 a.state, .slice (some ⟨g, 0, none⟩) R cap])) rfl (by kernel_rfl) (by kernel_rfl) (by kernel_rfl) (fun _ _ _ h => h) (Or.inl ⟨by rfl, fun wx hS => by have tX : Blk wx w.heap.size (rfA a R g cap) 30 := (hS.block w.heap.size (by omega)).trans XW; have t0 : wx.cell? ⟨w.heap.size, 0, none⟩ = some (.int .i64 a.supply) := tX.cell rfl; have t1 : wx.cell? ⟨w.heap.size, 1, none⟩ = some (.int .i64 a.start) := tX.cell rfl; have t2 : wx.cell? ⟨w.heap.size, 2, none⟩ = some (.int .i64 a.step) := tX.cell rfl; have t3 : wx.cell? ⟨w.heap.size, 3, none⟩ = some (.int .i64 a.state) := tX.cell rfl; have t4 : wx.cell? ⟨w.heap.size, 4, none⟩ = some (.slice (some ⟨g, 0, none⟩) R cap) := tX.cell rfl; go_simp⟩) hS ?_
  refine wpAnyH_ready (rs := [12]) (by kernel_rfl) (by simp) ?_
  refine AllReadyH.cons rfl (fun K hK => ?_) AllReadyH.nil
  go_simp
  refine Calls.mono (HNow.out _ (B0.trans (hS.mono (by omega)))) ?_
  rintro e w1 ⟨rfl, b1⟩
  have y0 := hS.size
  have y1 := b1.size
  have BF1 : Below W0.heap.size W0 w1 := (Below.refl _ _).drew.trans (b1.mono (Nat.le_refl _))
  refine hK.out _ _ (hS.trans (b1.mono (by omega))) (fun hS => ?_)
  clear hK
  refine wpAnyH_take (i := 13) (v := (.int .i64 (a.ds.length : Int))) rfl (by kernel_rfl) (by kernel_rfl) (by kernel_rfl) (fun _ _ _ h => h) (Or.inl ⟨by rfl, fun wx hS => by go_simp⟩) hS ?_
  refine wpAnyH_ready (rs := [14]) (by kernel_rfl) (by simp) ?_
  refine AllReadyH.cons rfl (fun K hK => ?_) AllReadyH.nil
  go_simp
  refine hK.out _ _ (hS.alloc (by omega) _) (fun hS => ?_)
  clear hK
  refine wpAnyH_take (i := 15) (v := (.slice (some ⟨w1.heap.size, 0, none⟩) 6 6)) rfl (by kernel_rfl) (by kernel_rfl) (by kernel_rfl) (fun _ _ _ h => h) (Or.inl ⟨by rfl, fun wx hS => by go_simp⟩) hS ?_
  refine wpAnyH_done (by kernel_rfl) ?_ _
  obtain ⟨W2, hW2, X2, B2, A2, hs2⟩ : ∃ W2, w1.alloc (.cells #[.int .i64 a.supply, .int .i64 a.start, .int .i64 a.step, .int .i64 (R : Int), .int .i64 a.state, .int .i64 (a.ds.length : Int)] 3) = W2 ∧ Blk W2 w1.heap.size (iC (numsK a 0)) 3 ∧ Below w.heap.size w W2 ∧ Blk W2 w.heap.size #[.int .i64 a.supply, .int .i64 a.start, .int .i64 a.step, .int .i64 a.state, .slice (some ⟨g, 0, none⟩) R cap] 30 ∧ W2.heap.size = w1.heap.size + 1 := ⟨_, rfl, (by rw [HN0.out]; exact blk_new _ _ _ _ rfl), (B0.trans (BF1.mono (by omega))).alloc (by omega) _, (X0.below BF1).alloc _, by simp⟩
  have ho2 : W2.ownsRow (w.heap.size + 1) 3 1 (.slice (some ⟨w1.heap.size, 0, none⟩) 6 6) (6 + 2 * 0) (iL (numsK a 0)) := ⟨rfl, Or.inr ⟨w1.heap.size, 6, iC (numsK a 0), rfl, by omega, X2, by omega, by unfold maxLen; omega, rfl, rfl⟩⟩
  clear hS X2 c0 c1 c2 c3 c4 HN0 XW
  try rw [hW2]
  go_wp2
  go_loopw [3, 4] (fun o i wr => ∃ k : Nat, k ≤ a.ds.length ∧ i = .int .i64 k ∧ wr.ownsRow (w.heap.size + 1) 3 1 o (6 + 2 * k) (iL (numsK a k)) ∧ Below w.heap.size w wr ∧ Blk wr w.heap.size #[.int .i64 a.supply, .int .i64 a.start, .int .i64 a.step, .int .i64 a.state, .slice (some ⟨g, 0, none⟩) R cap] 30 ∧ w.heap.size + 1 ≤ wr.heap.size) (fun _ i _ => a.ds.length - (intOf i).toNat)
  case atStart => exact ⟨0, Nat.zero_le _, rfl, ho2, B2, A2, by omega⟩
  case round =>
    clear ho2 B2 A2
    obtain ⟨k, hk, rfl, ho, br, XR, hzr⟩ := hrel
    have r0 : wr.cell? ⟨w.heap.size, 0, none⟩ = some (.int .i64 a.supply) := XR.cell rfl
    have r1 : wr.cell? ⟨w.heap.size, 1, none⟩ = some (.int .i64 a.start) := XR.cell rfl
    have r2 : wr.cell? ⟨w.heap.size, 2, none⟩ = some (.int .i64 a.step) := XR.cell rfl
    have r3 : wr.cell? ⟨w.heap.size, 3, none⟩ = some (.int .i64 a.state) := XR.cell rfl
    have r4 : wr.cell? ⟨w.heap.size, 4, none⟩ = some (.slice (some ⟨g, 0, none⟩) R cap) := XR.cell rfl
    go_wp2_with fail
    refine Calls.mono (HNow.out wr br) ?_
    rintro e w4 ⟨rfl, b4⟩
    have z4 := b4.size
    have o4 := own_belowL ho b4
    have X4 : Blk w4 w.heap.size (rfA a R g cap) 30 := XR.below b4
    have B4 : Below w.heap.size w w4 := br.trans (b4.mono (by omega))
    have HO4 : Hid _ := o4
    clear r0 r1 r2 r3 r4 ho XR br b4 o4
    by_cases hlt : k < a.ds.length
    · have hd : decide ((k : Int) < a.ds.length) = true := by simp only [decide_eq_true_eq]; omega
      have hki : (k : Int) < a.ds.length := by omega
      have HT : Hid (iL (numsK a (k + 1)) = iL (numsK a k) ++ [.int .i64 (wasOf a.ds k), .int .i64 (nowOf a.ds k)]) := by
        show _ = _
        unfold numsK
        rw [demK]
        simp [iL]
      go_wp2_with fail
      refine wp_region_held_drew (S := (fun wx => Below (w.heap.size + 1) w4 wx)) (by kernel_rfl) ((Below.refl _ _).drew) (fun hS => ?_)
      refine wpAnyH_take (i := 0) (v := u3) rfl (by kernel_rfl) (by kernel_rfl) (by kernel_rfl) (fun _ _ _ h => h) (Or.inl ⟨by rfl, fun wx hS => by go_simp⟩) hS ?_
      refine wpAnyH_take (i := 1) (v := (.agg #[.int .i64 a.supply, .int .i64 a.start, .int .i64 a.step, .int .i64 a.state, .slice (some ⟨g, 0, none⟩) R cap])) rfl (by kernel_rfl) (by kernel_rfl) (by kernel_rfl) (fun _ _ _ h => h) (Or.inl ⟨by rfl, fun wx hS => by have tX : Blk wx w.heap.size (rfA a R g cap) 30 := (hS.block w.heap.size (by omega)).trans X4; have t0 : wx.cell? ⟨w.heap.size, 0, none⟩ = some (.int .i64 a.supply) := tX.cell rfl; have t1 : wx.cell? ⟨w.heap.size, 1, none⟩ = some (.int .i64 a.start) := tX.cell rfl; have t2 : wx.cell? ⟨w.heap.size, 2, none⟩ = some (.int .i64 a.step) := tX.cell rfl; have t3 : wx.cell? ⟨w.heap.size, 3, none⟩ = some (.int .i64 a.state) := tX.cell rfl; have t4 : wx.cell? ⟨w.heap.size, 4, none⟩ = some (.slice (some ⟨g, 0, none⟩) R cap) := tX.cell rfl; go_simp⟩) hS ?_
      refine wpAnyH_take (i := 2) (v := (.int .i64 (k : Int))) rfl (by kernel_rfl) (by kernel_rfl) (by kernel_rfl) (fun _ _ _ h => h) (Or.inl ⟨by rfl, fun wx hS => by go_simp⟩) hS ?_
      refine wpAnyH_take (i := 4) (v := (.agg #[.int .i64 a.supply, .int .i64 a.start, .int .i64 a.step, .int .i64 a.state, .slice (some ⟨g, 0, none⟩) R cap])) rfl (by kernel_rfl) (by kernel_rfl) (by kernel_rfl) (fun _ _ _ h => h) (Or.inl ⟨by rfl, fun wx hS => by have tX : Blk wx w.heap.size (rfA a R g cap) 30 := (hS.block w.heap.size (by omega)).trans X4; have t0 : wx.cell? ⟨w.heap.size, 0, none⟩ = some (.int .i64 a.supply) := tX.cell rfl; have t1 : wx.cell? ⟨w.heap.size, 1, none⟩ = some (.int .i64 a.start) := tX.cell rfl; have t2 : wx.cell? ⟨w.heap.size, 2, none⟩ = some (.int .i64 a.step) := tX.cell rfl; have t3 : wx.cell? ⟨w.heap.size, 3, none⟩ = some (.int .i64 a.state) := tX.cell rfl; have t4 : wx.cell? ⟨w.heap.size, 4, none⟩ = some (.slice (some ⟨g, 0, none⟩) R cap) := tX.cell rfl; go_simp⟩) hS ?_
      refine wpAnyH_take (i := 6) (v := (.int .i64 (k : Int))) rfl (by kernel_rfl) (by kernel_rfl) (by kernel_rfl) (fun _ _ _ h => h) (Or.inl ⟨by rfl, fun wx hS => by go_simp⟩) hS ?_
      refine wpAnyH_ready (rs := [3]) (by kernel_rfl) (by simp) ?_
      refine AllReadyH.cons rfl (fun K hK => ?_) AllReadyH.nil
      go_simp
      refine Calls.mono (HWas.out k hlt _ (B4.trans (hS.mono (by omega)))) ?_
      rintro e w5 ⟨rfl, b5⟩
      have y4 := hS.size
      have y5 := b5.size
      refine hK.out _ _ (hS.trans (b5.mono (by omega))) (fun hS => ?_)
      clear hK
      refine wpAnyH_ready (rs := [5]) (by kernel_rfl) (by simp) ?_
      refine AllReadyH.cons rfl (fun K hK => ?_) AllReadyH.nil
      go_simp
      refine Calls.mono (HNow.out _ (B4.trans (hS.mono (by omega)))) ?_
      rintro e w6 ⟨rfl, b6⟩
      have y6 := b6.size
      have BF : Below w4.heap.size w4 w6 := ((Below.refl _ _).drew.trans (b5.mono (Nat.le_refl _))).trans (b6.mono b5.size)
      refine hK.out _ _ (hS.trans (b6.mono (by omega))) (fun hS => ?_)
      clear hK
      refine wpAnyH_take (i := 7) (v := (.pointer (some ⟨gu, offu + k, none⟩))) rfl (by kernel_rfl) (by kernel_rfl) (by kernel_rfl) (fun _ _ _ h => h) (Or.inl ⟨by rfl, fun wx hS => by go_simp⟩) hS ?_
      refine wpAnyH_take (i := 8) (v := (.int .i64 (nowOf a.ds k))) rfl (by kernel_rfl) (by kernel_rfl) (by kernel_rfl) (fun _ _ _ h => h) (Or.inl ⟨by rfl, fun wx hS => by have tn := HNC.out wx (B4.trans (hS.mono (by omega))) k hlt; go_simp⟩) hS ?_
      refine wpAnyH_ready (rs := [9]) (by kernel_rfl) (by simp) ?_
      refine AllReadyH.cons rfl (fun K hK => ?_) AllReadyH.nil
      go_simp
      have F6 := own_belowL HO4.out BF
      refine hK.out _ _ (hS.alloc (by omega) _) (fun hS => ?_)
      clear hK
      refine wpAnyH_ready (rs := [10]) (by kernel_rfl) (by simp) ?_
      refine AllReadyH.cons rfl (fun K hK => ?_) AllReadyH.nil
      refine step_ifR rfl ?_
      refine wp_append_at (.tmp 29) (.tmp 38) 43 rfl (w.heap.size + 1) 3 i0 (.int .i64 0) 1 8 Try.underlying43 hi hz0 hz1 hz2 rfl (by decide) u3 (6 + 2 * k) (iL (numsK a k)) rfl (World.ownsRow.alloc F6 _) ⟨w6.heap.size, 0, none⟩ 2 2 [.int .i64 (wasOf a.ds k), .int .i64 (nowOf a.ds k)] rfl rfl ?_ ?_ ?_ ?_ ?_ ?_
      · exact cell_two_new _ _ _ _
      · intro u hu; simp at hu; rcases hu with rfl | rfl <;> rfl
      · unfold maxLen; omega
      · omega
      · simp; omega
      intro v7 w7 ho7 hg7 hb7
      have hsb : (w6.alloc (.cells #[.int .i64 (wasOf a.ds k), .int .i64 (nowOf a.ds k)] 3)).heap.size = w6.heap.size + 1 := by simp
      have z7 := hg7.size
      try rw [hsb] at z7
      have hS7 : Below (w.heap.size + 1) w4 w7 := below_grownC hS hg7 (fun q hq => (World.ownsRow.lt F6 q hq).1) (by omega)
      refine hK.out _ _ hS7 (fun hS => ?_)
      clear hK
      refine wpAnyH_take (i := 11) (v := v7) rfl (by kernel_rfl) (by kernel_rfl) (by kernel_rfl) (fun _ _ _ h => h) (Or.inl ⟨by rfl, fun wx hS => by go_simp⟩) hS ?_
      refine wpAnyH_done (by kernel_rfl) ?_ _
      go_wp2_with fail
      refine ⟨⟨k + 1, by omega, by norm_cast, ?_, B4.trans (hS7.mono (by omega)), (hS7.block w.heap.size (by omega)).trans X4, by omega⟩, by simp [intOf]; omega⟩
      rw [HT.out]; exact ho7
    · have hd : decide ((k : Int) < a.ds.length) = false := by simp only [decide_eq_false_iff_not]; omega
      have hkk : k = a.ds.length := by omega
      subst hkk
      have HL : Hid ((nums a).length = 6 + 2 * a.ds.length) := numsK_len a _
      have hrd : Rd w4 u3 (nums a) := (rwn_own (l := nums a) (B := w.heap.size + 1) (by rw [HL.out]; exact HO4.out)).rd
      obtain ⟨c, cap3, hu3, hc⟩ := hrd
      subst hu3
      have HC : Hid _ := hc
      rw [HL.out] at HC
      have hfit : ∀ i, i < (nums a).length → 0 ≤ gAt (nums a) i ∧ gAt (nums a) i ≤ 9007199254740992 := fun i hi => by rw [gAt_eq hi]; exact HFit.out _ (List.getElem_mem _)
      have HF : Hid _ := hfit
      rw [HL.out] at HF
      have HTK : Hid (∀ k, k < (nums a).length → encs ((nums a).take (k + 1)) = encs ((nums a).take k) ++ enc (gAt (nums a) k).toNat) := fun k hk => by rw [gAt_eq hk]; exact encs_take _ k hk
      rw [HL.out] at HTK
      have HEL : Hid (∀ k, (encs ((nums a).take k)).length ≤ 10 * k) := fun k => by
        have := encs_len ((nums a).take k)
        rw [List.length_take] at this
        omega
      have HEN : Hid (auB a = ⟨(encs ((nums a).take (6 + 2 * a.ds.length))).toArray⟩) := by
        show _ = _
        rw [← HL.out, List.take_length]
        rfl
      rw [HL.out]
      clear hc HFit hfit hlt hd HO4 X4
      obtain ⟨wq, rfl⟩ : ∃ wq, wq = wr := ⟨wr, rfl⟩
      generalize hN : nums a = m at *
      have HN : Hid _ := hN
      have hl6 : 6 + 2 * a.ds.length ≤ 38 := by omega
      generalize 6 + 2 * a.ds.length = L at *
      clear hN
      go_wp2
      go_loopw [5, 6] (fun s i wr => ∃ k : Nat, k ≤ L ∧ i = .int .i64 k ∧ s = .string ⟨(encs (m.take k)).toArray⟩ ∧ Below w4.heap.size w4 wr) (fun _ i _ => L - (intOf i).toNat)
      case atStart => exact ⟨0, Nat.zero_le _, rfl, rfl, Below.refl _ _⟩
      case round =>
        obtain ⟨k, hk, rfl, rfl, br⟩ := hrel
        have zr := br.size
        by_cases hlt : k < L
        · have hd : decide ((k : Int) < L) = true := by simp only [decide_eq_true_eq]; omega
          have hki : (k : Int) < L := by omega
          obtain ⟨gn, on, rfl, hgn, hx0⟩ := HC.out k hlt
          have hx := (br.cell (p := ⟨gn, on + k, none⟩) hgn).trans hx0
          have hfk := HF.out k hlt
          have hek := HEL.out k
          have HT := HTK.out k hlt
          generalize gAt m k = y at *
          obtain ⟨yn, rfl⟩ := Int.eq_ofNat_of_zero_le hfk.1
          rw [Int.toNat_natCast] at HT
          have hel := enc_le yn
          have HT2 : Hid _ := HT
          clear HT hx0
          generalize hE : encs (m.take k) = E at *
          have HE : Hid _ := hE
          clear hE
          have dcat : ¬ 9223372036854775807 < E.length + (enc yn).length := by omega
          go_wp2_with fail
          refine Calls.mono (number_ref yn wr (by omega)) ?_
          rintro e w7 ⟨rfl, b7⟩
          go_wp2
          refine ⟨⟨k + 1, by omega, by norm_cast, ?_, br.trans (b7.mono zr)⟩, by simp [intOf]; omega⟩
          rw [HT2.out]
          first | rw [catL8] | rfl
        · have hd : decide ((k : Int) < L) = false := by simp only [decide_eq_false_iff_not]; omega
          have hkk : k = L := by omega
          subst hkk
          go_wp2
          go_ret
          rw [HEN.out]
          exact ⟨rfl, B4.trans (br.mono (by omega))⟩
end Go.Proofs.Yteinfckkpkbnlaa
