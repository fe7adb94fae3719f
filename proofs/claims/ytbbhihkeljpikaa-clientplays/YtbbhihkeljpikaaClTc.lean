/- A reply to both; a step of the client and of its model. -/
import Derived.Test.YtbbhihkeljpikaaClTb
namespace Go.Proofs.Ytbbhihkeljpikaa
open Go.RowKit
set_option linter.unusedSimpArgs false
set_option linter.unusedVariables false

variable {p b x y : Nat} {T : List ByteArray} {S : List (Int × ByteArray)} {q tm tc : Nat} {av : Value} {C : Cs} {w0 : World} {m : Nat} {hv yv : Value} {Y : Mo} {k : Nat}
theorem hear_fix (C : Cs) (o : Option (Int × ByteArray)) : (C.hear o).stamp = C.stamp ∧ (C.hear o).id = C.id := by
  cases o with
  | none => exact ⟨rfl, rfl⟩
  | some z => unfold Cs.hear; simp only []; split <;> exact ⟨rfl, rfl⟩
theorem hears_fix (C : Cs) (who c st : Int) (t : ByteArray) : (C.hears who c st t).stamp = C.stamp ∧ (C.hears who c st t).id = C.id := by
  unfold Cs.hears
  split
  · exact hear_fix _ _
  · exact ⟨rfl, rfl⟩
theorem mhears_fix (Y : Mo) (who st : Int) (t : ByteArray) : (Y.hears who st t).ticks = Y.ticks ∧ (Y.hears who st t).heard.length ≤ Y.heard.length + 1 ∧ (Y.hears who st t).id = Y.id := by
  unfold Mo.hears
  split
  · unfold Mo.took
    split <;> exact ⟨rfl, by simp, rfl⟩
  · exact ⟨rfl, by omega, rfl⟩
theorem Md.act {w w' : World} {j : Nat} {cs : Array Value} (h : Md w0 w m hv yv Y) (ho : Ofm m hv yv w w') (X : Blk w j cs 40) : Blk w' j cs 40 := by
  refine (ho.block j X.lt (fun e => ?_) (fun e => ?_) (fun e => ?_)).trans X
  · have Z := h.blk
    unfold Blk at X Z
    rw [← e, X] at Z
    cases Z
  · obtain ⟨cur, hc⟩ := own_heap h.hrow e
    unfold Blk at X
    rw [X] at hc
    cases hc
  · obtain ⟨cur, hc⟩ := own_heap h.arow e
    unfold Blk at X
    rw [X] at hc
    cases hc
set_option maxHeartbeats 8000000 in
set_option maxRecDepth 100000 in
theorem step_early (ac : Ac) (w : World) (h : Both w0 w p b x y q tm m k S tc av C hv yv Y) (hk : k ≤ 1000) (hz : ac.text.size ≤ 140737488351232) (hkk : ¬ arn ac.kind 5 = 0 ∧ ¬ arn ac.kind 5 = 1 ∧ ¬ arn ac.kind 5 = 4) (hv1 : Y.stamp + arn ac.by_ 3 - 1 < 1) : Calls Try.prog 8 #[.pointer (some ⟨m, 0, none⟩), .pointer (some ⟨q, 0, none⟩), .pointer (some ⟨p, 0, none⟩), .agg #[.int .i64 ac.kind, .int .i64 ac.frm, .int .i64 ac.by_, .string ac.text]] w fun e w' => e = .returned (.bool true) ∧ ∃ S' tc' av' C' hv' yv' Y', Both w0 w' p b x y q tm m (k + 1) S' tc' av' C' hv' yv' Y' := by
  obtain ⟨W0, hW0, X0, B0⟩ := act_box w ac
  have c0 : W0.cell? ⟨w.heap.size, 0, none⟩ = some (.int .i64 ac.kind) := X0.cell rfl
  have HAr : Hid _ := fun wx => around_calls ac.kind 5 wx (by omega) (by omega)
  generalize arn ac.kind 5 = kk at *
  have k0 : (kk == 0) = false := by simpa using hkk.1
  have k1 : (kk == 1) = false := by simpa using hkk.2.1
  have k4 : (kk == 4) = false := by simpa using hkk.2.2
  have j0 : decide (kk = 0) = false := k0
  have j1 : decide (kk = 1) = false := k1
  have j4 : decide (kk = 4) = false := k4
  clear hkk
  have HB0 : Hid _ := h.keep B0
  have hstp := h.stp
  have hys := h.sim.stamp
  have hrg := arn_range ac.by_ 3 (by omega)
  have HBy : Hid _ := fun wx => around_calls ac.by_ 3 wx (by omega) (by omega)
  generalize arn ac.by_ 3 = ar at *
  have e1 : IntKind.i64.wrap (Y.stamp + ar) = Y.stamp + ar := wrapC (by omega) (by omega)
  have e2 : IntKind.i64.wrap (Y.stamp + ar - 1) = Y.stamp + ar - 1 := wrapC (by omega) (by omega)
  have D1 : decide (Y.stamp + ar - 1 < 1) = true := decide_eq_true hv1
  clear hys hstp hrg
  go_enter Try.func8, Try.ntmps8
  go_wp2_with fail
  refine (HAr.out _).mono ?_
  rintro e W0 ⟨rfl, rfl⟩
  go_wp2_with fail
  refine wp_region_held_drew (S := (fun wx => wx.cell? ⟨m, 2, none⟩ = some (.int .i64 Y.stamp) ∧ wx.cell? ⟨w.heap.size, 2, none⟩ = some (.int .i64 ac.by_))) (by kernel_rfl) ⟨HB0.out.md.blk.cell rfl, X0.cell rfl⟩ (fun hS => ?_)
  refine wpAnyH_take (i := 0) (v := (.pointer (some ⟨m, 0, none⟩))) rfl (by kernel_rfl) (by kernel_rfl) (by kernel_rfl) (fun _ _ _ h => h) (Or.inl ⟨by kernel_rfl, fun w hS => by obtain ⟨s0, s1⟩ := hS; go_simp⟩) hS ?_
  refine wpAnyH_take (i := 1) (v := (.pointer (some ⟨m, 0, none⟩))) rfl (by kernel_rfl) (by kernel_rfl) (by kernel_rfl) (fun _ _ _ h => h) (Or.inl ⟨by kernel_rfl, fun w hS => by obtain ⟨s0, s1⟩ := hS; go_simp⟩) hS ?_
  refine wpAnyH_take (i := 2) (v := (.pointer (some ⟨m, 2, none⟩))) rfl (by kernel_rfl) (by kernel_rfl) (by kernel_rfl) (fun _ _ _ h => h) (Or.inl ⟨by kernel_rfl, fun w hS => by obtain ⟨s0, s1⟩ := hS; go_simp⟩) hS ?_
  refine wpAnyH_take (i := 3) (v := (.int .i64 Y.stamp)) rfl (by kernel_rfl) (by kernel_rfl) (by kernel_rfl) (fun _ _ _ h => h) (Or.inl ⟨by kernel_rfl, fun w hS => by obtain ⟨s0, s1⟩ := hS; go_simp⟩) hS ?_
  refine wpAnyH_take (i := 4) (v := (.pointer (some ⟨w.heap.size, 2, none⟩))) rfl (by kernel_rfl) (by kernel_rfl) (by kernel_rfl) (fun _ _ _ h => h) (Or.inl ⟨by kernel_rfl, fun w hS => by obtain ⟨s0, s1⟩ := hS; go_simp⟩) hS ?_
  refine wpAnyH_take (i := 5) (v := (.int .i64 ac.by_)) rfl (by kernel_rfl) (by kernel_rfl) (by kernel_rfl) (fun _ _ _ h => h) (Or.inl ⟨by kernel_rfl, fun w hS => by obtain ⟨s0, s1⟩ := hS; go_simp⟩) hS ?_
  refine wpAnyH_ready (rs := [6]) (by kernel_rfl) (by simp) ?_
  refine AllReadyH.cons rfl (fun K hK => ?_) AllReadyH.nil
  go_simp
  refine Calls.mono (HBy.out _) ?_
  rintro e wb ⟨rfl, rfl⟩
  refine hK.out _ _ ⟨HB0.out.md.blk.cell rfl, X0.cell rfl⟩ (fun hS => ?_)
  clear hK
  refine wpAnyH_take (i := 7) (v := (.int .i64 (Y.stamp + ar))) rfl (by kernel_rfl) (by kernel_rfl) (by kernel_rfl) (fun _ _ _ h => h) (Or.inl ⟨by kernel_rfl, fun w hS => by obtain ⟨s0, s1⟩ := hS; go_simp⟩) hS ?_
  refine wpAnyH_take (i := 8) (v := (.int .i64 (Y.stamp + ar - 1))) rfl (by kernel_rfl) (by kernel_rfl) (by kernel_rfl) (fun _ _ _ h => h) (Or.inl ⟨by kernel_rfl, fun w hS => by obtain ⟨s0, s1⟩ := hS; go_simp⟩) hS ?_
  refine wpAnyH_take (i := 9) (v := (.int .i64 (Y.stamp + ar - 1))) rfl (by kernel_rfl) (by kernel_rfl) (by kernel_rfl) (fun _ _ _ h => h) (Or.inl ⟨by kernel_rfl, fun w hS => by obtain ⟨s0, s1⟩ := hS; go_simp⟩) hS ?_
  refine wpAnyH_done (by kernel_rfl) ?_ _
  clear hS
  have HB1 : Hid _ := HB0.out.keep (Below.refl _ _).drew
  have X1 := X0.drew
  have c1 : W0.drew.cell? ⟨w.heap.size, 1, none⟩ = some (.int .i64 ac.frm) := X1.cell rfl
  have c3 : W0.drew.cell? ⟨w.heap.size, 3, none⟩ = some (.string ac.text) := X1.cell rfl
  generalize Y.stamp + ar - 1 = ST at *
  generalize W0.drew = W1 at *
  go_simp
  go_wp2
  go_ret
  exact ⟨rfl, _, _, _, _, _, _, _, HB1.out.more⟩
set_option maxHeartbeats 8000000 in
set_option maxRecDepth 100000 in
theorem step_neg (ac : Ac) (w : World) (h : Both w0 w p b x y q tm m k S tc av C hv yv Y) (hk : k ≤ 1000) (hz : ac.text.size ≤ 140737488351232) (hkk : ¬ arn ac.kind 5 = 0 ∧ ¬ arn ac.kind 5 = 1 ∧ ¬ arn ac.kind 5 = 4) (hv1 : ¬ Y.stamp + arn ac.by_ 3 - 1 < 1) (hv2 : ac.frm < 0) : Calls Try.prog 8 #[.pointer (some ⟨m, 0, none⟩), .pointer (some ⟨q, 0, none⟩), .pointer (some ⟨p, 0, none⟩), .agg #[.int .i64 ac.kind, .int .i64 ac.frm, .int .i64 ac.by_, .string ac.text]] w fun e w' => e = .returned (.bool true) ∧ ∃ S' tc' av' C' hv' yv' Y', Both w0 w' p b x y q tm m (k + 1) S' tc' av' C' hv' yv' Y' := by
  obtain ⟨W0, hW0, X0, B0⟩ := act_box w ac
  have c0 : W0.cell? ⟨w.heap.size, 0, none⟩ = some (.int .i64 ac.kind) := X0.cell rfl
  have HAr : Hid _ := fun wx => around_calls ac.kind 5 wx (by omega) (by omega)
  generalize arn ac.kind 5 = kk at *
  have k0 : (kk == 0) = false := by simpa using hkk.1
  have k1 : (kk == 1) = false := by simpa using hkk.2.1
  have k4 : (kk == 4) = false := by simpa using hkk.2.2
  have j0 : decide (kk = 0) = false := k0
  have j1 : decide (kk = 1) = false := k1
  have j4 : decide (kk = 4) = false := k4
  clear hkk
  have HB0 : Hid _ := h.keep B0
  have hstp := h.stp
  have hys := h.sim.stamp
  have hrg := arn_range ac.by_ 3 (by omega)
  have HBy : Hid _ := fun wx => around_calls ac.by_ 3 wx (by omega) (by omega)
  generalize arn ac.by_ 3 = ar at *
  have e1 : IntKind.i64.wrap (Y.stamp + ar) = Y.stamp + ar := wrapC (by omega) (by omega)
  have e2 : IntKind.i64.wrap (Y.stamp + ar - 1) = Y.stamp + ar - 1 := wrapC (by omega) (by omega)
  have D1 : decide (Y.stamp + ar - 1 < 1) = false := decide_eq_false hv1
  have D2 : decide (ac.frm < 0) = true := decide_eq_true hv2
  clear hys hstp hrg
  go_enter Try.func8, Try.ntmps8
  go_wp2_with fail
  refine (HAr.out _).mono ?_
  rintro e W0 ⟨rfl, rfl⟩
  go_wp2_with fail
  refine wp_region_held_drew (S := (fun wx => wx.cell? ⟨m, 2, none⟩ = some (.int .i64 Y.stamp) ∧ wx.cell? ⟨w.heap.size, 2, none⟩ = some (.int .i64 ac.by_))) (by kernel_rfl) ⟨HB0.out.md.blk.cell rfl, X0.cell rfl⟩ (fun hS => ?_)
  refine wpAnyH_take (i := 0) (v := (.pointer (some ⟨m, 0, none⟩))) rfl (by kernel_rfl) (by kernel_rfl) (by kernel_rfl) (fun _ _ _ h => h) (Or.inl ⟨by kernel_rfl, fun w hS => by obtain ⟨s0, s1⟩ := hS; go_simp⟩) hS ?_
  refine wpAnyH_take (i := 1) (v := (.pointer (some ⟨m, 0, none⟩))) rfl (by kernel_rfl) (by kernel_rfl) (by kernel_rfl) (fun _ _ _ h => h) (Or.inl ⟨by kernel_rfl, fun w hS => by obtain ⟨s0, s1⟩ := hS; go_simp⟩) hS ?_
  refine wpAnyH_take (i := 2) (v := (.pointer (some ⟨m, 2, none⟩))) rfl (by kernel_rfl) (by kernel_rfl) (by kernel_rfl) (fun _ _ _ h => h) (Or.inl ⟨by kernel_rfl, fun w hS => by obtain ⟨s0, s1⟩ := hS; go_simp⟩) hS ?_
  refine wpAnyH_take (i := 3) (v := (.int .i64 Y.stamp)) rfl (by kernel_rfl) (by kernel_rfl) (by kernel_rfl) (fun _ _ _ h => h) (Or.inl ⟨by kernel_rfl, fun w hS => by obtain ⟨s0, s1⟩ := hS; go_simp⟩) hS ?_
  refine wpAnyH_take (i := 4) (v := (.pointer (some ⟨w.heap.size, 2, none⟩))) rfl (by kernel_rfl) (by kernel_rfl) (by kernel_rfl) (fun _ _ _ h => h) (Or.inl ⟨by kernel_rfl, fun w hS => by obtain ⟨s0, s1⟩ := hS; go_simp⟩) hS ?_
  refine wpAnyH_take (i := 5) (v := (.int .i64 ac.by_)) rfl (by kernel_rfl) (by kernel_rfl) (by kernel_rfl) (fun _ _ _ h => h) (Or.inl ⟨by kernel_rfl, fun w hS => by obtain ⟨s0, s1⟩ := hS; go_simp⟩) hS ?_
  refine wpAnyH_ready (rs := [6]) (by kernel_rfl) (by simp) ?_
  refine AllReadyH.cons rfl (fun K hK => ?_) AllReadyH.nil
  go_simp
  refine Calls.mono (HBy.out _) ?_
  rintro e wb ⟨rfl, rfl⟩
  refine hK.out _ _ ⟨HB0.out.md.blk.cell rfl, X0.cell rfl⟩ (fun hS => ?_)
  clear hK
  refine wpAnyH_take (i := 7) (v := (.int .i64 (Y.stamp + ar))) rfl (by kernel_rfl) (by kernel_rfl) (by kernel_rfl) (fun _ _ _ h => h) (Or.inl ⟨by kernel_rfl, fun w hS => by obtain ⟨s0, s1⟩ := hS; go_simp⟩) hS ?_
  refine wpAnyH_take (i := 8) (v := (.int .i64 (Y.stamp + ar - 1))) rfl (by kernel_rfl) (by kernel_rfl) (by kernel_rfl) (fun _ _ _ h => h) (Or.inl ⟨by kernel_rfl, fun w hS => by obtain ⟨s0, s1⟩ := hS; go_simp⟩) hS ?_
  refine wpAnyH_take (i := 9) (v := (.int .i64 (Y.stamp + ar - 1))) rfl (by kernel_rfl) (by kernel_rfl) (by kernel_rfl) (fun _ _ _ h => h) (Or.inl ⟨by kernel_rfl, fun w hS => by obtain ⟨s0, s1⟩ := hS; go_simp⟩) hS ?_
  refine wpAnyH_done (by kernel_rfl) ?_ _
  clear hS
  have HB1 : Hid _ := HB0.out.keep (Below.refl _ _).drew
  have X1 := X0.drew
  have c1 : W0.drew.cell? ⟨w.heap.size, 1, none⟩ = some (.int .i64 ac.frm) := X1.cell rfl
  have c3 : W0.drew.cell? ⟨w.heap.size, 3, none⟩ = some (.string ac.text) := X1.cell rfl
  generalize Y.stamp + ar - 1 = ST at *
  generalize W0.drew = W1 at *
  go_simp
  go_wp2
  go_ret
  exact ⟨rfl, _, _, _, _, _, _, _, HB1.out.more⟩
set_option maxHeartbeats 8000000 in
set_option maxRecDepth 100000 in
theorem step_far (ac : Ac) (w : World) (h : Both w0 w p b x y q tm m k S tc av C hv yv Y) (hk : k ≤ 1000) (hz : ac.text.size ≤ 140737488351232) (hkk : ¬ arn ac.kind 5 = 0 ∧ ¬ arn ac.kind 5 = 1 ∧ ¬ arn ac.kind 5 = 4) (hv1 : ¬ Y.stamp + arn ac.by_ 3 - 1 < 1) (hv2 : ¬ ac.frm < 0) (hv3 : 255 < ac.frm) : Calls Try.prog 8 #[.pointer (some ⟨m, 0, none⟩), .pointer (some ⟨q, 0, none⟩), .pointer (some ⟨p, 0, none⟩), .agg #[.int .i64 ac.kind, .int .i64 ac.frm, .int .i64 ac.by_, .string ac.text]] w fun e w' => e = .returned (.bool true) ∧ ∃ S' tc' av' C' hv' yv' Y', Both w0 w' p b x y q tm m (k + 1) S' tc' av' C' hv' yv' Y' := by
  obtain ⟨W0, hW0, X0, B0⟩ := act_box w ac
  have c0 : W0.cell? ⟨w.heap.size, 0, none⟩ = some (.int .i64 ac.kind) := X0.cell rfl
  have HAr : Hid _ := fun wx => around_calls ac.kind 5 wx (by omega) (by omega)
  generalize arn ac.kind 5 = kk at *
  have k0 : (kk == 0) = false := by simpa using hkk.1
  have k1 : (kk == 1) = false := by simpa using hkk.2.1
  have k4 : (kk == 4) = false := by simpa using hkk.2.2
  have j0 : decide (kk = 0) = false := k0
  have j1 : decide (kk = 1) = false := k1
  have j4 : decide (kk = 4) = false := k4
  clear hkk
  have HB0 : Hid _ := h.keep B0
  have hstp := h.stp
  have hys := h.sim.stamp
  have hrg := arn_range ac.by_ 3 (by omega)
  have HBy : Hid _ := fun wx => around_calls ac.by_ 3 wx (by omega) (by omega)
  generalize arn ac.by_ 3 = ar at *
  have e1 : IntKind.i64.wrap (Y.stamp + ar) = Y.stamp + ar := wrapC (by omega) (by omega)
  have e2 : IntKind.i64.wrap (Y.stamp + ar - 1) = Y.stamp + ar - 1 := wrapC (by omega) (by omega)
  have D1 : decide (Y.stamp + ar - 1 < 1) = false := decide_eq_false hv1
  have D2 : decide (ac.frm < 0) = false := decide_eq_false hv2
  have D3 : decide (255 < ac.frm) = true := decide_eq_true hv3
  clear hys hstp hrg
  go_enter Try.func8, Try.ntmps8
  go_wp2_with fail
  refine (HAr.out _).mono ?_
  rintro e W0 ⟨rfl, rfl⟩
  go_wp2_with fail
  refine wp_region_held_drew (S := (fun wx => wx.cell? ⟨m, 2, none⟩ = some (.int .i64 Y.stamp) ∧ wx.cell? ⟨w.heap.size, 2, none⟩ = some (.int .i64 ac.by_))) (by kernel_rfl) ⟨HB0.out.md.blk.cell rfl, X0.cell rfl⟩ (fun hS => ?_)
  refine wpAnyH_take (i := 0) (v := (.pointer (some ⟨m, 0, none⟩))) rfl (by kernel_rfl) (by kernel_rfl) (by kernel_rfl) (fun _ _ _ h => h) (Or.inl ⟨by kernel_rfl, fun w hS => by obtain ⟨s0, s1⟩ := hS; go_simp⟩) hS ?_
  refine wpAnyH_take (i := 1) (v := (.pointer (some ⟨m, 0, none⟩))) rfl (by kernel_rfl) (by kernel_rfl) (by kernel_rfl) (fun _ _ _ h => h) (Or.inl ⟨by kernel_rfl, fun w hS => by obtain ⟨s0, s1⟩ := hS; go_simp⟩) hS ?_
  refine wpAnyH_take (i := 2) (v := (.pointer (some ⟨m, 2, none⟩))) rfl (by kernel_rfl) (by kernel_rfl) (by kernel_rfl) (fun _ _ _ h => h) (Or.inl ⟨by kernel_rfl, fun w hS => by obtain ⟨s0, s1⟩ := hS; go_simp⟩) hS ?_
  refine wpAnyH_take (i := 3) (v := (.int .i64 Y.stamp)) rfl (by kernel_rfl) (by kernel_rfl) (by kernel_rfl) (fun _ _ _ h => h) (Or.inl ⟨by kernel_rfl, fun w hS => by obtain ⟨s0, s1⟩ := hS; go_simp⟩) hS ?_
  refine wpAnyH_take (i := 4) (v := (.pointer (some ⟨w.heap.size, 2, none⟩))) rfl (by kernel_rfl) (by kernel_rfl) (by kernel_rfl) (fun _ _ _ h => h) (Or.inl ⟨by kernel_rfl, fun w hS => by obtain ⟨s0, s1⟩ := hS; go_simp⟩) hS ?_
  refine wpAnyH_take (i := 5) (v := (.int .i64 ac.by_)) rfl (by kernel_rfl) (by kernel_rfl) (by kernel_rfl) (fun _ _ _ h => h) (Or.inl ⟨by kernel_rfl, fun w hS => by obtain ⟨s0, s1⟩ := hS; go_simp⟩) hS ?_
  refine wpAnyH_ready (rs := [6]) (by kernel_rfl) (by simp) ?_
  refine AllReadyH.cons rfl (fun K hK => ?_) AllReadyH.nil
  go_simp
  refine Calls.mono (HBy.out _) ?_
  rintro e wb ⟨rfl, rfl⟩
  refine hK.out _ _ ⟨HB0.out.md.blk.cell rfl, X0.cell rfl⟩ (fun hS => ?_)
  clear hK
  refine wpAnyH_take (i := 7) (v := (.int .i64 (Y.stamp + ar))) rfl (by kernel_rfl) (by kernel_rfl) (by kernel_rfl) (fun _ _ _ h => h) (Or.inl ⟨by kernel_rfl, fun w hS => by obtain ⟨s0, s1⟩ := hS; go_simp⟩) hS ?_
  refine wpAnyH_take (i := 8) (v := (.int .i64 (Y.stamp + ar - 1))) rfl (by kernel_rfl) (by kernel_rfl) (by kernel_rfl) (fun _ _ _ h => h) (Or.inl ⟨by kernel_rfl, fun w hS => by obtain ⟨s0, s1⟩ := hS; go_simp⟩) hS ?_
  refine wpAnyH_take (i := 9) (v := (.int .i64 (Y.stamp + ar - 1))) rfl (by kernel_rfl) (by kernel_rfl) (by kernel_rfl) (fun _ _ _ h => h) (Or.inl ⟨by kernel_rfl, fun w hS => by obtain ⟨s0, s1⟩ := hS; go_simp⟩) hS ?_
  refine wpAnyH_done (by kernel_rfl) ?_ _
  clear hS
  have HB1 : Hid _ := HB0.out.keep (Below.refl _ _).drew
  have X1 := X0.drew
  have c1 : W0.drew.cell? ⟨w.heap.size, 1, none⟩ = some (.int .i64 ac.frm) := X1.cell rfl
  have c3 : W0.drew.cell? ⟨w.heap.size, 3, none⟩ = some (.string ac.text) := X1.cell rfl
  generalize Y.stamp + ar - 1 = ST at *
  generalize W0.drew = W1 at *
  go_simp
  go_wp2
  go_ret
  exact ⟨rfl, _, _, _, _, _, _, _, HB1.out.more⟩
set_option maxHeartbeats 8000000 in
set_option maxRecDepth 100000 in
theorem step_big (ac : Ac) (w : World) (h : Both w0 w p b x y q tm m k S tc av C hv yv Y) (hk : k ≤ 1000) (hz : ac.text.size ≤ 140737488351232) (hkk : ¬ arn ac.kind 5 = 0 ∧ ¬ arn ac.kind 5 = 1 ∧ ¬ arn ac.kind 5 = 4) (hv1 : ¬ Y.stamp + arn ac.by_ 3 - 1 < 1) (hv2 : ¬ ac.frm < 0) (hv3 : ¬ 255 < ac.frm) (hv4 : 256 < ac.text.size) : Calls Try.prog 8 #[.pointer (some ⟨m, 0, none⟩), .pointer (some ⟨q, 0, none⟩), .pointer (some ⟨p, 0, none⟩), .agg #[.int .i64 ac.kind, .int .i64 ac.frm, .int .i64 ac.by_, .string ac.text]] w fun e w' => e = .returned (.bool true) ∧ ∃ S' tc' av' C' hv' yv' Y', Both w0 w' p b x y q tm m (k + 1) S' tc' av' C' hv' yv' Y' := by
  obtain ⟨W0, hW0, X0, B0⟩ := act_box w ac
  have c0 : W0.cell? ⟨w.heap.size, 0, none⟩ = some (.int .i64 ac.kind) := X0.cell rfl
  have HAr : Hid _ := fun wx => around_calls ac.kind 5 wx (by omega) (by omega)
  generalize arn ac.kind 5 = kk at *
  have k0 : (kk == 0) = false := by simpa using hkk.1
  have k1 : (kk == 1) = false := by simpa using hkk.2.1
  have k4 : (kk == 4) = false := by simpa using hkk.2.2
  have j0 : decide (kk = 0) = false := k0
  have j1 : decide (kk = 1) = false := k1
  have j4 : decide (kk = 4) = false := k4
  clear hkk
  have HB0 : Hid _ := h.keep B0
  have hstp := h.stp
  have hys := h.sim.stamp
  have hrg := arn_range ac.by_ 3 (by omega)
  have HBy : Hid _ := fun wx => around_calls ac.by_ 3 wx (by omega) (by omega)
  generalize arn ac.by_ 3 = ar at *
  have e1 : IntKind.i64.wrap (Y.stamp + ar) = Y.stamp + ar := wrapC (by omega) (by omega)
  have e2 : IntKind.i64.wrap (Y.stamp + ar - 1) = Y.stamp + ar - 1 := wrapC (by omega) (by omega)
  have D1 : decide (Y.stamp + ar - 1 < 1) = false := decide_eq_false hv1
  have D2 : decide (ac.frm < 0) = false := decide_eq_false hv2
  have D3 : decide (255 < ac.frm) = false := decide_eq_false hv3
  have D4 : decide (256 < (ac.text.size : Int)) = true := decide_eq_true (by omega)
  clear hys hstp hrg
  go_enter Try.func8, Try.ntmps8
  go_wp2_with fail
  refine (HAr.out _).mono ?_
  rintro e W0 ⟨rfl, rfl⟩
  go_wp2_with fail
  refine wp_region_held_drew (S := (fun wx => wx.cell? ⟨m, 2, none⟩ = some (.int .i64 Y.stamp) ∧ wx.cell? ⟨w.heap.size, 2, none⟩ = some (.int .i64 ac.by_))) (by kernel_rfl) ⟨HB0.out.md.blk.cell rfl, X0.cell rfl⟩ (fun hS => ?_)
  refine wpAnyH_take (i := 0) (v := (.pointer (some ⟨m, 0, none⟩))) rfl (by kernel_rfl) (by kernel_rfl) (by kernel_rfl) (fun _ _ _ h => h) (Or.inl ⟨by kernel_rfl, fun w hS => by obtain ⟨s0, s1⟩ := hS; go_simp⟩) hS ?_
  refine wpAnyH_take (i := 1) (v := (.pointer (some ⟨m, 0, none⟩))) rfl (by kernel_rfl) (by kernel_rfl) (by kernel_rfl) (fun _ _ _ h => h) (Or.inl ⟨by kernel_rfl, fun w hS => by obtain ⟨s0, s1⟩ := hS; go_simp⟩) hS ?_
  refine wpAnyH_take (i := 2) (v := (.pointer (some ⟨m, 2, none⟩))) rfl (by kernel_rfl) (by kernel_rfl) (by kernel_rfl) (fun _ _ _ h => h) (Or.inl ⟨by kernel_rfl, fun w hS => by obtain ⟨s0, s1⟩ := hS; go_simp⟩) hS ?_
  refine wpAnyH_take (i := 3) (v := (.int .i64 Y.stamp)) rfl (by kernel_rfl) (by kernel_rfl) (by kernel_rfl) (fun _ _ _ h => h) (Or.inl ⟨by kernel_rfl, fun w hS => by obtain ⟨s0, s1⟩ := hS; go_simp⟩) hS ?_
  refine wpAnyH_take (i := 4) (v := (.pointer (some ⟨w.heap.size, 2, none⟩))) rfl (by kernel_rfl) (by kernel_rfl) (by kernel_rfl) (fun _ _ _ h => h) (Or.inl ⟨by kernel_rfl, fun w hS => by obtain ⟨s0, s1⟩ := hS; go_simp⟩) hS ?_
  refine wpAnyH_take (i := 5) (v := (.int .i64 ac.by_)) rfl (by kernel_rfl) (by kernel_rfl) (by kernel_rfl) (fun _ _ _ h => h) (Or.inl ⟨by kernel_rfl, fun w hS => by obtain ⟨s0, s1⟩ := hS; go_simp⟩) hS ?_
  refine wpAnyH_ready (rs := [6]) (by kernel_rfl) (by simp) ?_
  refine AllReadyH.cons rfl (fun K hK => ?_) AllReadyH.nil
  go_simp
  refine Calls.mono (HBy.out _) ?_
  rintro e wb ⟨rfl, rfl⟩
  refine hK.out _ _ ⟨HB0.out.md.blk.cell rfl, X0.cell rfl⟩ (fun hS => ?_)
  clear hK
  refine wpAnyH_take (i := 7) (v := (.int .i64 (Y.stamp + ar))) rfl (by kernel_rfl) (by kernel_rfl) (by kernel_rfl) (fun _ _ _ h => h) (Or.inl ⟨by kernel_rfl, fun w hS => by obtain ⟨s0, s1⟩ := hS; go_simp⟩) hS ?_
  refine wpAnyH_take (i := 8) (v := (.int .i64 (Y.stamp + ar - 1))) rfl (by kernel_rfl) (by kernel_rfl) (by kernel_rfl) (fun _ _ _ h => h) (Or.inl ⟨by kernel_rfl, fun w hS => by obtain ⟨s0, s1⟩ := hS; go_simp⟩) hS ?_
  refine wpAnyH_take (i := 9) (v := (.int .i64 (Y.stamp + ar - 1))) rfl (by kernel_rfl) (by kernel_rfl) (by kernel_rfl) (fun _ _ _ h => h) (Or.inl ⟨by kernel_rfl, fun w hS => by obtain ⟨s0, s1⟩ := hS; go_simp⟩) hS ?_
  refine wpAnyH_done (by kernel_rfl) ?_ _
  clear hS
  have HB1 : Hid _ := HB0.out.keep (Below.refl _ _).drew
  have X1 := X0.drew
  have c1 : W0.drew.cell? ⟨w.heap.size, 1, none⟩ = some (.int .i64 ac.frm) := X1.cell rfl
  have c3 : W0.drew.cell? ⟨w.heap.size, 3, none⟩ = some (.string ac.text) := X1.cell rfl
  generalize Y.stamp + ar - 1 = ST at *
  generalize W0.drew = W1 at *
  go_simp
  go_wp2
  go_ret
  exact ⟨rfl, _, _, _, _, _, _, _, HB1.out.more⟩
set_option maxHeartbeats 8000000 in
set_option maxRecDepth 100000 in
theorem step_reply (ac : Ac) (w : World) (h : Both w0 w p b x y q tm m k S tc av C hv yv Y) (hk : k ≤ 1000) (hz : ac.text.size ≤ 140737488351232) (hkk : ¬ arn ac.kind 5 = 0 ∧ ¬ arn ac.kind 5 = 1 ∧ ¬ arn ac.kind 5 = 4) (hv1 : ¬ Y.stamp + arn ac.by_ 3 - 1 < 1) (hv2 : ¬ ac.frm < 0) (hv3 : ¬ 255 < ac.frm) (hv4 : ¬ 256 < ac.text.size) : Calls Try.prog 8 #[.pointer (some ⟨m, 0, none⟩), .pointer (some ⟨q, 0, none⟩), .pointer (some ⟨p, 0, none⟩), .agg #[.int .i64 ac.kind, .int .i64 ac.frm, .int .i64 ac.by_, .string ac.text]] w fun e w' => e = .returned (.bool true) ∧ ∃ S' tc' av' C' hv' yv' Y', Both w0 w' p b x y q tm m (k + 1) S' tc' av' C' hv' yv' Y' := by
  obtain ⟨W0, hW0, X0, B0⟩ := act_box w ac
  have c0 : W0.cell? ⟨w.heap.size, 0, none⟩ = some (.int .i64 ac.kind) := X0.cell rfl
  have HAr : Hid _ := fun wx => around_calls ac.kind 5 wx (by omega) (by omega)
  generalize arn ac.kind 5 = kk at *
  have k0 : (kk == 0) = false := by simpa using hkk.1
  have k1 : (kk == 1) = false := by simpa using hkk.2.1
  have k4 : (kk == 4) = false := by simpa using hkk.2.2
  have j0 : decide (kk = 0) = false := k0
  have j1 : decide (kk = 1) = false := k1
  have j4 : decide (kk = 4) = false := k4
  clear hkk
  have HB0 : Hid _ := h.keep B0
  have hstp := h.stp
  have hys := h.sim.stamp
  have hrg := arn_range ac.by_ 3 (by omega)
  have HBy : Hid _ := fun wx => around_calls ac.by_ 3 wx (by omega) (by omega)
  generalize arn ac.by_ 3 = ar at *
  have e1 : IntKind.i64.wrap (Y.stamp + ar) = Y.stamp + ar := wrapC (by omega) (by omega)
  have e2 : IntKind.i64.wrap (Y.stamp + ar - 1) = Y.stamp + ar - 1 := wrapC (by omega) (by omega)
  have D1 : decide (Y.stamp + ar - 1 < 1) = false := decide_eq_false hv1
  have D2 : decide (ac.frm < 0) = false := decide_eq_false hv2
  have D3 : decide (255 < ac.frm) = false := decide_eq_false hv3
  have D4 : decide (256 < (ac.text.size : Int)) = false := decide_eq_false (by omega)
  have hsg : isSg ac.frm = true := by unfold isSg; simp only [decide_eq_true_eq]; omega
  have hid := h.idr
  have hsl := h.sl
  have hal := h.al
  have hhl := h.hl
  have hyi := h.sim.id
  have hST : 1 ≤ Y.stamp + ar - 1 ∧ Y.stamp + ar - 1 ≤ 1099511627776 := by omega
  obtain ⟨ST0, hST0⟩ : ∃ ST0, Y.stamp + ar - 1 = ST0 := ⟨_, rfl⟩
  have HRp : Hid _ := fun wx (hx : Book wx p b x y [] S) => reply_calls ac.frm Y.id (Y.stamp + ar - 1) ac.text wx hx (by omega) hsg (by omega) hST (by omega)
  have HRv : Hid _ := fun wx (hx : St w0 wx p b x y [] (note S (ac.frm, byS (smB 10 Y.id (Y.stamp + ar - 1) ac.text))) q tm tc av C) => rcv_reply ac.frm Y.id (Y.stamp + ar - 1) ac.text wx hx (by omega) hsg (by omega) hST (by omega) h.inv (by omega)
  have HHe : Hid _ := fun wx (hx : Md w0 wx m hv yv Y) => mhears_calls ac.frm (Y.stamp + ar - 1) ac.text wx hx (by rw [h.sim.f]; have := h.inv.cf; omega) (by omega) (by rw [h.sim.ans]; omega)
  have htq : C.takes ac.frm Y.id (Y.stamp + ar - 1) = Y.takes ac.frm (Y.stamp + ar - 1) := by rw [hyi]; exact h.sim.takes ac.frm _ (by omega)
  have HSi : Hid (Sim (C.hears ac.frm Y.id (Y.stamp + ar - 1) ac.text) (Y.hears ac.frm (Y.stamp + ar - 1) ac.text)) := by show Sim _ _; rw [hyi]; exact h.sim.hears ac.frm _ ac.text (by omega)
  have HIn : Hid _ := h.inv.hears ac.frm Y.id (Y.stamp + ar - 1) ac.text (by omega)
  have hfx := hears_fix C ac.frm Y.id (Y.stamp + ar - 1) ac.text
  have hfa := hears_ans C ac.frm Y.id (Y.stamp + ar - 1) ac.text
  have hfm := mhears_fix Y ac.frm (Y.stamp + ar - 1) ac.text
  have hnl := note_len S (ac.frm, byS (smB 10 Y.id (Y.stamp + ar - 1) ac.text))
  rw [htq] at HRv
  have HId : Hid ((Y.hears ac.frm (Y.stamp + ar - 1) ac.text).id = Y.id) := hfm.2.2
  have HEn : Hid (∀ wx tc' av' hv' yv', St w0 wx p b x y [] (note S (ac.frm, byS (smB 10 Y.id (Y.stamp + ar - 1) ac.text))) q tm tc' av' (C.hears ac.frm Y.id (Y.stamp + ar - 1) ac.text) → Md w0 wx m hv' yv' (Y.hears ac.frm (Y.stamp + ar - 1) ac.text) → Apt av' yv' → Both w0 wx p b x y q tm m (k + 1) (note S (ac.frm, byS (smB 10 Y.id (Y.stamp + ar - 1) ac.text))) tc' av' (C.hears ac.frm Y.id (Y.stamp + ar - 1) ac.text) hv' yv' (Y.hears ac.frm (Y.stamp + ar - 1) ac.text)) := fun wx tc' av' hv' yv' h1 h2 h3 =>
    ⟨h1, h2, h3, HSi.out, HIn.out, by omega, by omega, by omega, by rw [hfx.1]; omega, by rw [hfm.1]; have := h.tk; omega, by rw [hfx.2]; exact hid⟩
  generalize Y.takes ac.frm (Y.stamp + ar - 1) = TK at *
  generalize C.hears ac.frm Y.id (Y.stamp + ar - 1) ac.text = C2 at *
  generalize Y.hears ac.frm (Y.stamp + ar - 1) ac.text = Y2 at *
  clear hnl hfm hfa hfx htq hST hST0 hyi hhl hal hsl hid hsg hys hstp hrg
  go_enter Try.func8, Try.ntmps8
  go_wp2_with fail
  refine (HAr.out _).mono ?_
  rintro e W0 ⟨rfl, rfl⟩
  go_wp2_with fail
  refine wp_region_held_drew (S := (fun wx => wx.cell? ⟨m, 2, none⟩ = some (.int .i64 Y.stamp) ∧ wx.cell? ⟨w.heap.size, 2, none⟩ = some (.int .i64 ac.by_))) (by kernel_rfl) ⟨HB0.out.md.blk.cell rfl, X0.cell rfl⟩ (fun hS => ?_)
  refine wpAnyH_take (i := 0) (v := (.pointer (some ⟨m, 0, none⟩))) rfl (by kernel_rfl) (by kernel_rfl) (by kernel_rfl) (fun _ _ _ h => h) (Or.inl ⟨by kernel_rfl, fun w hS => by obtain ⟨s0, s1⟩ := hS; go_simp⟩) hS ?_
  refine wpAnyH_take (i := 1) (v := (.pointer (some ⟨m, 0, none⟩))) rfl (by kernel_rfl) (by kernel_rfl) (by kernel_rfl) (fun _ _ _ h => h) (Or.inl ⟨by kernel_rfl, fun w hS => by obtain ⟨s0, s1⟩ := hS; go_simp⟩) hS ?_
  refine wpAnyH_take (i := 2) (v := (.pointer (some ⟨m, 2, none⟩))) rfl (by kernel_rfl) (by kernel_rfl) (by kernel_rfl) (fun _ _ _ h => h) (Or.inl ⟨by kernel_rfl, fun w hS => by obtain ⟨s0, s1⟩ := hS; go_simp⟩) hS ?_
  refine wpAnyH_take (i := 3) (v := (.int .i64 Y.stamp)) rfl (by kernel_rfl) (by kernel_rfl) (by kernel_rfl) (fun _ _ _ h => h) (Or.inl ⟨by kernel_rfl, fun w hS => by obtain ⟨s0, s1⟩ := hS; go_simp⟩) hS ?_
  refine wpAnyH_take (i := 4) (v := (.pointer (some ⟨w.heap.size, 2, none⟩))) rfl (by kernel_rfl) (by kernel_rfl) (by kernel_rfl) (fun _ _ _ h => h) (Or.inl ⟨by kernel_rfl, fun w hS => by obtain ⟨s0, s1⟩ := hS; go_simp⟩) hS ?_
  refine wpAnyH_take (i := 5) (v := (.int .i64 ac.by_)) rfl (by kernel_rfl) (by kernel_rfl) (by kernel_rfl) (fun _ _ _ h => h) (Or.inl ⟨by kernel_rfl, fun w hS => by obtain ⟨s0, s1⟩ := hS; go_simp⟩) hS ?_
  refine wpAnyH_ready (rs := [6]) (by kernel_rfl) (by simp) ?_
  refine AllReadyH.cons rfl (fun K hK => ?_) AllReadyH.nil
  go_simp
  refine Calls.mono (HBy.out _) ?_
  rintro e wb ⟨rfl, rfl⟩
  refine hK.out _ _ ⟨HB0.out.md.blk.cell rfl, X0.cell rfl⟩ (fun hS => ?_)
  clear hK
  refine wpAnyH_take (i := 7) (v := (.int .i64 (Y.stamp + ar))) rfl (by kernel_rfl) (by kernel_rfl) (by kernel_rfl) (fun _ _ _ h => h) (Or.inl ⟨by kernel_rfl, fun w hS => by obtain ⟨s0, s1⟩ := hS; go_simp⟩) hS ?_
  refine wpAnyH_take (i := 8) (v := (.int .i64 (Y.stamp + ar - 1))) rfl (by kernel_rfl) (by kernel_rfl) (by kernel_rfl) (fun _ _ _ h => h) (Or.inl ⟨by kernel_rfl, fun w hS => by obtain ⟨s0, s1⟩ := hS; go_simp⟩) hS ?_
  refine wpAnyH_take (i := 9) (v := (.int .i64 (Y.stamp + ar - 1))) rfl (by kernel_rfl) (by kernel_rfl) (by kernel_rfl) (fun _ _ _ h => h) (Or.inl ⟨by kernel_rfl, fun w hS => by obtain ⟨s0, s1⟩ := hS; go_simp⟩) hS ?_
  refine wpAnyH_done (by kernel_rfl) ?_ _
  clear hS
  have HB1 : Hid _ := HB0.out.keep (Below.refl _ _).drew
  have X1 := X0.drew
  have c1 : W0.drew.cell? ⟨w.heap.size, 1, none⟩ = some (.int .i64 ac.frm) := X1.cell rfl
  have c3 : W0.drew.cell? ⟨w.heap.size, 3, none⟩ = some (.string ac.text) := X1.cell rfl
  generalize Y.stamp + ar - 1 = ST at *
  generalize W0.drew = W1 at *
  go_simp
  go_wp2_with fail
  have HSC : Hid (∀ wx, Blk wx w.heap.size #[.int .i64 ac.kind, .int .i64 ac.frm, .int .i64 ac.by_, .string ac.text] 40 → wx.cell? ⟨m, 1, none⟩ = some (.int .i64 Y.id) → (fun wx => wx.cell? ⟨w.heap.size, 1, none⟩ = some (.int .i64 ac.frm) ∧ wx.cell? ⟨w.heap.size, 3, none⟩ = some (.string ac.text) ∧ wx.cell? ⟨m, 1, none⟩ = some (.int .i64 Y.id)) wx) := fun wx X Z => ⟨X.cell rfl, X.cell rfl, Z⟩
  refine wp_region_held_drew (S := (fun wx => wx.cell? ⟨w.heap.size, 1, none⟩ = some (.int .i64 ac.frm) ∧ wx.cell? ⟨w.heap.size, 3, none⟩ = some (.string ac.text) ∧ wx.cell? ⟨m, 1, none⟩ = some (.int .i64 Y.id))) (by kernel_rfl) (HSC.out _ X1.drew (HB1.out.md.blk.drew.cell rfl)) (fun hS => ?_)
  refine wpAnyH_take (i := 0) (v := (.pointer (some ⟨q, 0, none⟩))) rfl (by kernel_rfl) (by kernel_rfl) (by kernel_rfl) (fun _ _ _ h => h) (Or.inl ⟨by kernel_rfl, fun w hS => by obtain ⟨s0, s1, s2⟩ := hS; go_simp⟩) hS ?_
  refine wpAnyH_take (i := 1) (v := (.pointer (some ⟨p, 0, none⟩))) rfl (by kernel_rfl) (by kernel_rfl) (by kernel_rfl) (fun _ _ _ h => h) (Or.inl ⟨by kernel_rfl, fun w hS => by obtain ⟨s0, s1, s2⟩ := hS; go_simp⟩) hS ?_
  refine wpAnyH_take (i := 2) (v := (.pointer (some ⟨w.heap.size, 1, none⟩))) rfl (by kernel_rfl) (by kernel_rfl) (by kernel_rfl) (fun _ _ _ h => h) (Or.inl ⟨by kernel_rfl, fun w hS => by obtain ⟨s0, s1, s2⟩ := hS; go_simp⟩) hS ?_
  refine wpAnyH_take (i := 3) (v := (.int .i64 ac.frm)) rfl (by kernel_rfl) (by kernel_rfl) (by kernel_rfl) (fun _ _ _ h => h) (Or.inl ⟨by kernel_rfl, fun w hS => by obtain ⟨s0, s1, s2⟩ := hS; go_simp⟩) hS ?_
  refine wpAnyH_take (i := 4) (v := (.pointer (some ⟨m, 0, none⟩))) rfl (by kernel_rfl) (by kernel_rfl) (by kernel_rfl) (fun _ _ _ h => h) (Or.inl ⟨by kernel_rfl, fun w hS => by obtain ⟨s0, s1, s2⟩ := hS; go_simp⟩) hS ?_
  refine wpAnyH_take (i := 5) (v := (.pointer (some ⟨m, 0, none⟩))) rfl (by kernel_rfl) (by kernel_rfl) (by kernel_rfl) (fun _ _ _ h => h) (Or.inl ⟨by kernel_rfl, fun w hS => by obtain ⟨s0, s1, s2⟩ := hS; go_simp⟩) hS ?_
  refine wpAnyH_take (i := 6) (v := (.pointer (some ⟨m, 1, none⟩))) rfl (by kernel_rfl) (by kernel_rfl) (by kernel_rfl) (fun _ _ _ h => h) (Or.inl ⟨by kernel_rfl, fun w hS => by obtain ⟨s0, s1, s2⟩ := hS; go_simp⟩) hS ?_
  refine wpAnyH_take (i := 7) (v := (.int .i64 Y.id)) rfl (by kernel_rfl) (by kernel_rfl) (by kernel_rfl) (fun _ _ _ h => h) (Or.inl ⟨by kernel_rfl, fun w hS => by obtain ⟨s0, s1, s2⟩ := hS; go_simp⟩) hS ?_
  refine wpAnyH_take (i := 8) (v := (.int .i64 ST)) rfl (by kernel_rfl) (by kernel_rfl) (by kernel_rfl) (fun _ _ _ h => h) (Or.inl ⟨by kernel_rfl, fun w hS => by obtain ⟨s0, s1, s2⟩ := hS; go_simp⟩) hS ?_
  refine wpAnyH_take (i := 9) (v := (.pointer (some ⟨w.heap.size, 3, none⟩))) rfl (by kernel_rfl) (by kernel_rfl) (by kernel_rfl) (fun _ _ _ h => h) (Or.inl ⟨by kernel_rfl, fun w hS => by obtain ⟨s0, s1, s2⟩ := hS; go_simp⟩) hS ?_
  refine wpAnyH_take (i := 10) (v := (.string ac.text)) rfl (by kernel_rfl) (by kernel_rfl) (by kernel_rfl) (fun _ _ _ h => h) (Or.inl ⟨by kernel_rfl, fun w hS => by obtain ⟨s0, s1, s2⟩ := hS; go_simp⟩) hS ?_
  refine wpAnyH_take (i := 13) (v := (.pointer (some ⟨m, 0, none⟩))) rfl (by kernel_rfl) (by kernel_rfl) (by kernel_rfl) (fun _ _ _ h => h) (Or.inl ⟨by kernel_rfl, fun w hS => by obtain ⟨s0, s1, s2⟩ := hS; go_simp⟩) hS ?_
  refine wpAnyH_take (i := 14) (v := (.pointer (some ⟨w.heap.size, 1, none⟩))) rfl (by kernel_rfl) (by kernel_rfl) (by kernel_rfl) (fun _ _ _ h => h) (Or.inl ⟨by kernel_rfl, fun w hS => by obtain ⟨s0, s1, s2⟩ := hS; go_simp⟩) hS ?_
  refine wpAnyH_take (i := 15) (v := (.int .i64 ac.frm)) rfl (by kernel_rfl) (by kernel_rfl) (by kernel_rfl) (fun _ _ _ h => h) (Or.inl ⟨by kernel_rfl, fun w hS => by obtain ⟨s0, s1, s2⟩ := hS; go_simp⟩) hS ?_
  refine wpAnyH_take (i := 16) (v := (.int .i64 ST)) rfl (by kernel_rfl) (by kernel_rfl) (by kernel_rfl) (fun _ _ _ h => h) (Or.inl ⟨by kernel_rfl, fun w hS => by obtain ⟨s0, s1, s2⟩ := hS; go_simp⟩) hS ?_
  refine wpAnyH_take (i := 17) (v := (.pointer (some ⟨w.heap.size, 3, none⟩))) rfl (by kernel_rfl) (by kernel_rfl) (by kernel_rfl) (fun _ _ _ h => h) (Or.inl ⟨by kernel_rfl, fun w hS => by obtain ⟨s0, s1, s2⟩ := hS; go_simp⟩) hS ?_
  refine wpAnyH_take (i := 18) (v := (.string ac.text)) rfl (by kernel_rfl) (by kernel_rfl) (by kernel_rfl) (fun _ _ _ h => h) (Or.inl ⟨by kernel_rfl, fun w hS => by obtain ⟨s0, s1, s2⟩ := hS; go_simp⟩) hS ?_
  refine wpAnyH_ready (rs := [11]) (by kernel_rfl) (by simp) ?_
  refine AllReadyH.cons rfl (fun K hK => ?_) AllReadyH.nil
  go_simp
  refine Calls.mono (HRp.out _ (HB1.out.st.book.below (Below.refl _ _).drew)) ?_
  rintro e w5 ⟨rfl, K5, o5⟩
  have od : Off2 x y W1 w5 := (Off2.of_below (Below.refl _ _).drew).trans o5
  have H5 := HB1.out.st.off2 K5 od
  have M5 := HB1.out.md.off2 HB1.out.st H5.below od
  have X5 : Blk w5 w.heap.size #[.int .i64 ac.kind, .int .i64 ac.frm, .int .i64 ac.by_, .string ac.text] 40 := (Kpt.of_off2 (v := .slice none 0 0) HB1.out.st.book od).blk _ _ _ (by decide) (by simp [Value.ownBlock]) X1
  refine hK.out _ _ (HSC.out _ X5 (M5.blk.cell rfl)) (fun hS => ?_)
  clear hK
  refine wpAnyH_ready (rs := [12]) (by kernel_rfl) (by simp) ?_
  refine AllReadyH.cons rfl (fun K hK => ?_) AllReadyH.nil
  go_simp
  refine Calls.mono (HRv.out _ H5) ?_
  rintro e w6 ⟨rfl, tc6, av6, H6, k6, f6⟩
  have M6 := M5.kpt H5 H6.below k6 HB1.out.apt
  have X6 := k6.blk _ _ _ (by decide) (H5.apart X5 (fun cur e => by cases e)) X5
  have A6 : Apt av6 yv := fun j hj => by
    rcases f6 with e | e
    · exact HB1.out.apt j (e ▸ hj)
    · intro hy
      have h1 := e j hj
      have h2 := (M5.arow.lt j hy).2
      omega
  refine hK.out _ _ (HSC.out _ X6 (M6.blk.cell rfl)) (fun hS => ?_)
  clear hK
  refine wpAnyH_ready (rs := [19]) (by kernel_rfl) (by simp) ?_
  refine AllReadyH.cons rfl (fun K hK => ?_) AllReadyH.nil
  go_simp
  refine Calls.mono (HHe.out _ M6) ?_
  rintro e w7 ⟨rfl, hv7, yv7, M7, o7, f7⟩
  have H7 := H6.ofm M6 o7 A6
  have X7 := M6.act o7 X6
  have A7 : Apt av6 yv7 := fun j hj => by
    rcases f7 with e | e
    · rw [e]; exact A6 j hj
    · intro hy
      have h1 := e j hy
      have h2 := (H6.row.lt j hj).2
      omega
  refine hK.out _ _ (HSC.out _ X7 (by have h9 : w7.cell? ⟨m, 1, none⟩ = some (.int .i64 Y2.id) := M7.blk.cell rfl; rw [h9, HId.out])) (fun hS => ?_)
  clear hK
  refine wpAnyH_take (i := 20) (v := (.bool true)) rfl (by kernel_rfl) (by kernel_rfl) (by kernel_rfl) (fun _ _ _ h => h) (Or.inl ⟨by kernel_rfl, fun w hS => by obtain ⟨s0, s1, s2⟩ := hS; go_simp⟩) hS ?_
  refine wpAnyH_take (i := 21) (v := (.bool true)) rfl (by kernel_rfl) (by kernel_rfl) (by kernel_rfl) (fun _ _ _ h => h) (Or.inl ⟨by kernel_rfl, fun w hS => by obtain ⟨s0, s1, s2⟩ := hS; go_simp⟩) hS ?_
  refine wpAnyH_done (by kernel_rfl) ?_ _
  clear hS HSC
  have HFi : Hid _ := HEn.out w7 tc6 av6 hv7 yv7 H7 M7 A7
  go_wp2
  go_ret
  exact ⟨rfl, _, _, _, _, _, _, _, HFi.out⟩
theorem step_calls (ac : Ac) (w : World) (h : Both w0 w p b x y q tm m k S tc av C hv yv Y) (hk : k ≤ 1000) (hz : ac.text.size ≤ 140737488351232) : Calls Try.prog 8 #[.pointer (some ⟨m, 0, none⟩), .pointer (some ⟨q, 0, none⟩), .pointer (some ⟨p, 0, none⟩), .agg #[.int .i64 ac.kind, .int .i64 ac.frm, .int .i64 ac.by_, .string ac.text]] w fun e w' => e = .returned (.bool true) ∧ ∃ S' tc' av' C' hv' yv' Y', Both w0 w' p b x y q tm m (k + 1) S' tc' av' C' hv' yv' Y' := by
  by_cases h0 : arn ac.kind 5 = 0
  · by_cases ho : 256 < ac.text.size
    · exact step_long ac w h hk hz h0 ho
    · cases hw : C.waits with
      | true => exact step_busy ac w h hk hz h0 (by omega) hw
      | false => exact step_asks ac w h hk hz h0 (by omega) hw
  by_cases h1 : arn ac.kind 5 = 1
  · cases hw : C.waits with
    | false => exact step_idle ac w h hk hz h1 hw
    | true =>
      by_cases hr : (Y.ticks + 1) % 4 = 0
      · exact step_sends ac w h hk hz h1 hw hr
      · exact step_still ac w h hk hz h1 hw hr
  by_cases h4 : arn ac.kind 5 = 4
  · cases hr : ofSgR ac.text with
    | error er => exact step_noise ac w h hk hz h4 hr
    | ok mm =>
      cases hc : chkB S mm.frm mm.body mm.sig with
      | true => exact step_known ac w h hk hz h4 hr hc
      | false => exact step_forged ac w h hk hz h4 hr hc
  by_cases v1 : Y.stamp + arn ac.by_ 3 - 1 < 1
  · exact step_early ac w h hk hz ⟨h0, h1, h4⟩ v1
  by_cases v2 : ac.frm < 0
  · exact step_neg ac w h hk hz ⟨h0, h1, h4⟩ v1 v2
  by_cases v3 : 255 < ac.frm
  · exact step_far ac w h hk hz ⟨h0, h1, h4⟩ v1 v2 v3
  by_cases v4 : 256 < ac.text.size
  · exact step_big ac w h hk hz ⟨h0, h1, h4⟩ v1 v2 v3 v4
  exact step_reply ac w h hk hz ⟨h0, h1, h4⟩ v1 v2 v3 v4
end Go.Proofs.Ytbbhihkeljpikaa

namespace Go.Proofs.Ytbbhihkeljpikaa
open Go.RowKit
set_option linter.unusedSimpArgs false
set_option linter.unusedVariables false

variable {p b x y : Nat} {T : List ByteArray} {S : List (Int × ByteArray)} {q tm tc : Nat} {av : Value} {C : Cs} {w0 : World} {m : Nat} {hv yv : Value} {Y : Mo} {k : Nat}
theorem neq_answer (w : World) (a : Int) (s : ByteArray) : (binOp .neq 44 (.agg #[.int .i64 a, .string s]) (.agg #[.int .i64 a, .string s])).run Try.prog w = .ok (.bool false) w := by
  simp only [binOp]
  simp [eq_answerI w a a s s]
/-- A store into a row that is nobody's. -/
theorem Both.foreign {w : World} {g o : Nat} {u : Value} {cs : Array Value} (h : Both w0 w p b x y q tm m k S tc av C hv yv Y) (X : Blk w g cs 44) (hg : w0.heap.size ≤ g) (h1 : av.ownBlock ≠ some g) (h2 : yv.ownBlock ≠ some g) : Both w0 (w.setCell ⟨g, o, none⟩ u) p b x y q tm m k S tc av C hv yv Y := by
  have G : ∀ j, j ≠ g → (w.setCell ⟨g, o, none⟩ u).heap[j]? = w.heap[j]? := fun j hj => heap_setCell_other w ⟨g, o, none⟩ j u hj
  have N : ∀ (j : Nat) (ob : Obj), w.heap[j]? = some ob → (∀ cur, ob ≠ .cells cur 44 (0, 0)) → j ≠ g := fun j ob hj hn e => by
    unfold Blk at X
    rw [e, X] at hj
    exact hn _ (Option.some.inj hj).symm
  have B : Below w0.heap.size w0 (w.setCell ⟨g, o, none⟩ u) := h.st.below.setCell (p := ⟨g, o, none⟩) hg u
  refine ⟨⟨B, ⟨(G _ (N _ _ h.st.book.blk (fun _ e => by cases e))).trans h.st.book.blk, (G _ (N _ _ h.st.book.nums.blk (fun _ e => by cases e))).trans h.st.book.nums.blk, (G _ (N _ _ h.st.book.nums.mx (fun _ e => by cases e))).trans h.st.book.nums.mx, (G _ (N _ _ h.st.book.nums.my (fun _ e => by cases e))).trans h.st.book.nums.my, h.st.book.nums.ne⟩, (G _ (N _ _ h.st.blk (fun _ e => by cases e))).trans h.st.blk, (G _ (N _ _ h.st.map (fun _ e => by cases e))).trans h.st.map, own_same h.st.row (fun j cur hj _ => G j (fun e => h1 (e ▸ hj))), h.st.low, h.st.nx, h.st.ny⟩, ⟨B, (G _ (N _ _ h.md.blk (fun _ e => by cases e))).trans h.md.blk, own_same h.md.hrow (fun j cur hj hc => G j (N _ _ hc (fun _ e => by cases e))), own_same h.md.arow (fun j cur hj _ => G j (fun e => h2 (e ▸ hj))), h.md.low⟩, h.apt, h.sim, h.inv, h.sl, h.al, h.hl, h.stp, h.tk, h.idr⟩
def mo0 (f id : Int) : Mo := ⟨f, id, 0, 0, false, ⟨#[]⟩, [], []⟩
theorem both0 {w W : World} {f id : Int} (h : St w0 w p b x y [] [] q tm 0 (.slice none 0 0) (cs0 f 3 2 5 id)) (hf : 1 ≤ f ∧ f ≤ 4) (hi : 0 ≤ id ∧ id ≤ 2) (hW : w.alloc (.cells (moC (mo0 f id) (.slice none 0 0) (.slice none 0 0)) 37) = W) : Both w0 W p b x y q tm w.heap.size 0 [] 0 (.slice none 0 0) (cs0 f 3 2 5 id) (.slice none 0 0) (.slice none 0 0) (mo0 f id) := by
  have hb : Below w.heap.size w W := by rw [← hW]; go_grown
  have H := h.keep hb
  exact ⟨H, ⟨H.below, by rw [← hW]; exact blk_new _ _ _ _ rfl, ⟨rfl, Or.inl ⟨rfl, rfl⟩⟩, ⟨rfl, Or.inl ⟨rfl, rfl⟩⟩, h.below.size⟩, fun j hj => by simp [Value.ownBlock] at hj, ⟨rfl, rfl, rfl, rfl, rfl, fun hx => absurd hx (by unfold Cs.waits cs0; simp), fun _ => rfl⟩, ⟨by simp [cs0], fun z hz => by simp [cs0] at hz, hf⟩, by simp, by simp [cs0], by simp [mo0], by simp [cs0], by simp [mo0], hi⟩
set_option maxHeartbeats 16000000 in
set_option maxRecDepth 100000 in
theorem plays_calls (faults id : Int) (v : Value) (l : List Ac) (w : World) (hl : Acs w v l) (hz : l.length * 40 ≤ 140737488351232) : Calls Try.prog 3 #[.int .i64 faults, .int .i64 id, v] w fun e w' => e = .returned (.bool true) ∧ Below w.heap.size w w' := by
  obtain ⟨a, cap, rfl, hc⟩ := hl.any
  have HC : Hid _ := hc
  have HNB : Hid _ := newBook_calls w
  have HAw : Hid _ := awake_calls
  have HCf : Hid _ := fun wx => config_calls faults wx
  have har := arn_range faults 4 (by omega)
  have hir := arn_range id 3 (by omega)
  have HAr : Hid _ := fun wx => around_calls id 3 wx (by omega) (by omega)
  obtain ⟨f, hf⟩ : ∃ f : Int, 1 + arn faults 4 = f := ⟨_, rfl⟩
  rw [hf] at HCf
  have hf1 : 1 ≤ f ∧ f ≤ 4 := by omega
  generalize arn id 3 = id3 at *
  have hz2 : l.length ≤ 3518437208781 := by omega
  clear hl hc hz har hf
  go_enter Try.func3, Try.ntmps3
  go_wp2_with fail
  refine Calls.mono HNB.out ?_
  rintro e w1 ⟨p, b, x, y, rfl, K1, b1, hp, hb, hx, hy⟩
  go_wp2_with fail
  refine (HCf.out _).mono ?_
  rintro e w2 ⟨rfl, b2⟩
  obtain ⟨W3, hW3, X3, B3⟩ : ∃ W3, w2.alloc (.cells #[.int .i64 f, .int .i64 3, .int .i64 2, .int .i64 5] 26) = W3 ∧ Blk W3 w2.heap.size #[.int .i64 f, .int .i64 3, .int .i64 2, .int .i64 5] 26 ∧ Below w2.heap.size w2 W3 := ⟨_, rfl, blk_new _ _ _ _ rfl, by go_grown⟩
  have hGi : (Try.prog.info? 26).map (·.size) = some (#[.int .i64 f, .int .i64 3, .int .i64 2, .int .i64 5] : Array Value).size := by kernel_rfl
  have hfit : fitsB f 3 2 5 = true := by unfold fitsB inB; simp; omega
  have HNw : Hid _ := new_ok f 3 2 5 id3 w W3 (chain (chain b1 b2) B3) ⟨hp, hb, hx, hy⟩ ((K1.below b2).below B3) (by decide) hfit hir.1 hir.2
  go_wp2_with fail
  refine (HAr.out _).mono ?_
  rintro e W3 ⟨rfl, rfl⟩
  go_wp2_with ((with_reducible refine rd_row (ty := 26) X3 Try.underlying26 rfl hGi ?_ ?_); rfl)
  refine Calls.mono HNw.out ?_
  rintro e w4 ⟨q, tm, rfl, H4, b4⟩
  have X4 := X3.below b4
  have x0 : w4.cell? ⟨w2.heap.size, 0, none⟩ = some (.int .i64 f) := X4.cell rfl
  obtain ⟨W5, hW5⟩ : ∃ W5, w4.alloc (.cells #[.int .i64 f, .int .i64 id3, .int .i64 0, .int .i64 0, .bool false, .string ⟨#[]⟩, .slice none 0 0, .slice none 0 0] 37) = W5 := ⟨_, rfl⟩
  have HB5 : Hid _ := both0 H4 hf1 (by omega) hW5
  obtain ⟨m, hm⟩ : ∃ m, w4.heap.size = m := ⟨_, rfl⟩
  rw [hm] at HB5
  have HM : Hid _ := hm
  clear HNw HNB HCf HAr X3 X4
  go_wp2
  try rw [hm]
  clear hm
  go_loopw [13] (fun iv wr => ∃ (k : Nat) (S : List (Int × ByteArray)) (tc : Nat) (av : Value) (C : Cs) (hv yv : Value) (Y : Mo), k ≤ l.length ∧ k ≤ 100 ∧ iv = .int .i64 k ∧ Hid (Both w wr p b x y q tm m k S tc av C hv yv Y)) (fun iv _ => l.length - (intOf iv).toNat)
  case atStart => exact ⟨0, _, _, _, _, _, _, _, Nat.zero_le _, Nat.zero_le _, rfl, HB5⟩
  case round =>
    obtain ⟨k, S, tc, av, C, hv, yv, Y, hk, hk100, rfl, HB⟩ := hrel
    by_cases hlt : k < l.length
    · have hd1 : decide ((k : Int) < l.length) = true := decide_eq_true (by omega)
      by_cases h100 : k < 100
      · have hd2 : decide ((k : Int) < 100) = true := decide_eq_true (by omega)
        obtain ⟨g, off, rfl, hcap, hg, hcell, hfit⟩ := HC.out k hlt
        obtain ⟨ac, hac⟩ : ∃ ac, l[k] = ac := ⟨_, rfl⟩
        rw [hac] at hcell hfit
        have hfit' : ac.text.size ≤ 140737488351232 := hfit
        have HCE : Hid (∀ j u, (Ac.cells ac)[j]? = some u → w.cell? ⟨g, off + k * 4 + j, none⟩ = some u) := hcell
        have HSt : Hid _ := fun wx (hx : Both w wx p b x y q tm m k S tc av C hv yv Y) => step_calls ac wx hx (by omega) hfit'
        clear hcell hac hfit
        go_wp2_with fail
        have HSC : Hid (∀ wx, Below w.heap.size w wx → (fun wx => wx.cell? ⟨g, off + k * 4, none⟩ = some (.int .i64 ac.kind) ∧ wx.cell? ⟨g, off + k * 4 + 1, none⟩ = some (.int .i64 ac.frm) ∧ wx.cell? ⟨g, off + k * 4 + 2, none⟩ = some (.int .i64 ac.by_) ∧ wx.cell? ⟨g, off + k * 4 + 3, none⟩ = some (.string ac.text)) wx) := fun wx hb => ⟨(hb.cell (p := ⟨g, off + k * 4, none⟩) hg).trans (HCE.out 0 _ rfl), (hb.cell (p := ⟨g, off + k * 4 + 1, none⟩) hg).trans (HCE.out 1 _ rfl), (hb.cell (p := ⟨g, off + k * 4 + 2, none⟩) hg).trans (HCE.out 2 _ rfl), (hb.cell (p := ⟨g, off + k * 4 + 3, none⟩) hg).trans (HCE.out 3 _ rfl)⟩
        refine wp_region_held_drew (S := (fun wx => wx.cell? ⟨g, off + k * 4, none⟩ = some (.int .i64 ac.kind) ∧ wx.cell? ⟨g, off + k * 4 + 1, none⟩ = some (.int .i64 ac.frm) ∧ wx.cell? ⟨g, off + k * 4 + 2, none⟩ = some (.int .i64 ac.by_) ∧ wx.cell? ⟨g, off + k * 4 + 3, none⟩ = some (.string ac.text))) (by kernel_rfl) (HSC.out _ (HB.out.st.below.trans (Below.refl _ _).drew)) (fun hS => ?_)
        refine wpAnyH_take (i := 0) (v := (.pointer (some ⟨m, 0, none⟩))) rfl (by kernel_rfl) (by kernel_rfl) (by kernel_rfl) (fun _ _ _ h => h) (Or.inl ⟨by kernel_rfl, fun w hS => by obtain ⟨s0, s1, s2, s3⟩ := hS; go_simp⟩) hS ?_
        refine wpAnyH_take (i := 1) (v := (.pointer (some ⟨q, 0, none⟩))) rfl (by kernel_rfl) (by kernel_rfl) (by kernel_rfl) (fun _ _ _ h => h) (Or.inl ⟨by kernel_rfl, fun w hS => by obtain ⟨s0, s1, s2, s3⟩ := hS; go_simp⟩) hS ?_
        refine wpAnyH_take (i := 2) (v := (.pointer (some ⟨p, 0, none⟩))) rfl (by kernel_rfl) (by kernel_rfl) (by kernel_rfl) (fun _ _ _ h => h) (Or.inl ⟨by kernel_rfl, fun w hS => by obtain ⟨s0, s1, s2, s3⟩ := hS; go_simp⟩) hS ?_
        refine wpAnyH_take (i := 3) (v := (.slice (some ⟨g, off, none⟩) l.length cap)) rfl (by kernel_rfl) (by kernel_rfl) (by kernel_rfl) (fun _ _ _ h => h) (Or.inl ⟨by kernel_rfl, fun w hS => by obtain ⟨s0, s1, s2, s3⟩ := hS; go_simp⟩) hS ?_
        refine wpAnyH_take (i := 4) (v := (.int .i64 (k : Int))) rfl (by kernel_rfl) (by kernel_rfl) (by kernel_rfl) (fun _ _ _ h => h) (Or.inl ⟨by kernel_rfl, fun w hS => by obtain ⟨s0, s1, s2, s3⟩ := hS; go_simp⟩) hS ?_
        refine wpAnyH_take (i := 5) (v := (.pointer (some ⟨g, off + k * 4, none⟩))) rfl (by kernel_rfl) (by kernel_rfl) (by kernel_rfl) (fun _ _ _ h => h) (Or.inl ⟨by kernel_rfl, fun w hS => by obtain ⟨s0, s1, s2, s3⟩ := hS; go_simp⟩) hS ?_
        refine wpAnyH_take (i := 6) (v := (.agg #[.int .i64 ac.kind, .int .i64 ac.frm, .int .i64 ac.by_, .string ac.text])) rfl (by kernel_rfl) (by kernel_rfl) (by kernel_rfl) (fun _ _ _ h => h) (Or.inl ⟨by kernel_rfl, fun w hS => by obtain ⟨s0, s1, s2, s3⟩ := hS; go_simp⟩) hS ?_
        refine wpAnyH_ready (rs := [7]) (by kernel_rfl) (by simp) ?_
        refine AllReadyH.cons rfl (fun K hK => ?_) AllReadyH.nil
        go_simp
        refine Calls.mono (HSt.out _ (HB.out.keep (Below.refl _ _).drew)) ?_
        rintro e w5 ⟨rfl, S5, tc5, av5, C5, hv5, yv5, Y5, B5⟩
        have HB5 : Hid _ := B5
        have z4 : w5.cell? ⟨m, 4, none⟩ = some (.bool Y5.waits) := B5.md.blk.cell rfl
        have HWt : Hid _ := waits_calls w5 B5.st
        rw [← B5.sim.waits] at HWt
        refine hK.out _ _ (HSC.out _ B5.st.below) (fun hS => ?_)
        clear hK B5
        refine wpAnyH_take (i := 8) (v := (.bool false)) rfl (by kernel_rfl) (by kernel_rfl) (by kernel_rfl) (fun _ _ _ h => h) (Or.inl ⟨by kernel_rfl, fun w hS => by obtain ⟨s0, s1, s2, s3⟩ := hS; go_simp⟩) hS ?_
        refine wpAnyH_take (i := 9) (v := (.bool false)) rfl (by kernel_rfl) (by kernel_rfl) (by kernel_rfl) (fun _ _ _ h => h) (Or.inl ⟨by kernel_rfl, fun w hS => by obtain ⟨s0, s1, s2, s3⟩ := hS; go_simp⟩) hS ?_
        refine wpAnyH_take (i := 10) (v := (.pointer (some ⟨q, 0, none⟩))) rfl (by kernel_rfl) (by kernel_rfl) (by kernel_rfl) (fun _ _ _ h => h) (Or.inl ⟨by kernel_rfl, fun w hS => by obtain ⟨s0, s1, s2, s3⟩ := hS; go_simp⟩) hS ?_
        refine wpAnyH_take (i := 12) (v := (.pointer (some ⟨m, 0, none⟩))) rfl (by kernel_rfl) (by kernel_rfl) (by kernel_rfl) (fun _ _ _ h => h) (Or.inl ⟨by kernel_rfl, fun w hS => by obtain ⟨s0, s1, s2, s3⟩ := hS; go_simp⟩) hS ?_
        refine wpAnyH_take (i := 13) (v := (.pointer (some ⟨m, 0, none⟩))) rfl (by kernel_rfl) (by kernel_rfl) (by kernel_rfl) (fun _ _ _ h => h) (Or.inl ⟨by kernel_rfl, fun w hS => by obtain ⟨s0, s1, s2, s3⟩ := hS; go_simp⟩) hS ?_
        refine wpAnyH_take (i := 14) (v := (.pointer (some ⟨m, 4, none⟩))) rfl (by kernel_rfl) (by kernel_rfl) (by kernel_rfl) (fun _ _ _ h => h) (Or.inl ⟨by kernel_rfl, fun w hS => by obtain ⟨s0, s1, s2, s3⟩ := hS; go_simp⟩) hS ?_
        refine wpAnyH_ready (rs := [11, 15]) (by kernel_rfl) (by simp) ?_
        refine AllReadyH.cons rfl (fun K hK => ?_) (AllReadyH.cons rfl (fun K hK => ?_) AllReadyH.nil)
        · go_simp
          refine Calls.mono HWt.out ?_
          rintro e w5 ⟨rfl, rfl⟩
          refine hK.out _ _ (HSC.out _ HB5.out.st.below) (fun hS => ?_)
          clear hK
          refine wpAnyH_ready (rs := [15]) (by kernel_rfl) (by simp) ?_
          refine AllReadyH.cons rfl (fun K hK => ?_) AllReadyH.nil
          go_simp
          refine hK.out _ _ (HSC.out _ HB5.out.st.below) (fun hS => ?_)
          clear hK
          refine wpAnyH_take (i := 16) (v := (.bool false)) rfl (by kernel_rfl) (by kernel_rfl) (by kernel_rfl) (fun _ _ _ h => h) (Or.inl ⟨by kernel_rfl, fun w hS => by obtain ⟨s0, s1, s2, s3⟩ := hS; go_simp⟩) hS ?_
          refine wpAnyH_take (i := 17) (v := (.bool false)) rfl (by kernel_rfl) (by kernel_rfl) (by kernel_rfl) (fun _ _ _ h => h) (Or.inl ⟨by kernel_rfl, fun w hS => by obtain ⟨s0, s1, s2, s3⟩ := hS; go_simp⟩) hS ?_
          refine wpAnyH_done (by kernel_rfl) ?_ _
          clear hS HSC
          go_simp
          have HA : Hid _ := answers_calls w5 HB5.out.st (by have := HB5.out.al; omega)
          go_wp2_with fail
          refine Calls.mono HA.out ?_
          rintro e w6 ⟨vl, rfl, ho6, b6⟩
          have HB6 : Hid _ := HB5.out.keep b6
          obtain ⟨n, hn⟩ : ∃ n, C5.ans.length = n := ⟨_, rfl⟩
          have hay := HB6.out.md.arow
          rw [HB6.out.sim.ans, hn] at hay
          rw [hn] at ho6
          obtain ⟨al, cl, rfl⟩ := own_sl ho6
          obtain ⟨ay, cy, hyv⟩ := own_sl hay
          have y7 : w6.cell? ⟨m, 7, none⟩ = some (.slice ay n cy) := by rw [← hyv]; exact HB6.out.md.blk.cell rfl
          have hn9 : n ≤ 1001 := by have := HB5.out.al; omega
          have HOl : Hid _ := ho6
          have HOy : Hid (w6.ownsRow w.heap.size 44 2 (.slice ay n cy) n (anC C5.ans)) := by rw [← hyv]; exact hay
          have HYV : Hid _ := hyv
          have HZ6 : Hid (w5.heap.size ≤ w6.heap.size) := b6.size
          have HNa : Hid _ := hn
          clear HA hay ho6 hyv hn HWt z4
          go_wp2
          go_loopw [15] (fun jv wr => ∃ j : Nat, j ≤ n ∧ jv = .int .i64 j ∧ Hid (Both w wr p b x y q tm m (k + 1) S5 tc5 av5 C5 hv5 yv5 Y5) ∧ Hid (∀ i (hi : i < n), j ≤ i → ∃ gl zi zs, al = some ⟨gl, 0, none⟩ ∧ n ≤ cl ∧ (∃ cs, Blk wr gl cs 44) ∧ w.heap.size ≤ gl ∧ av5.ownBlock ≠ some gl ∧ yv5.ownBlock ≠ some gl ∧ (anC C5.ans)[i * 2]? = some (.int .i64 zi) ∧ (anC C5.ans)[i * 2 + 1]? = some (.string zs) ∧ wr.cell? ⟨gl, i * 2, none⟩ = some (.int .i64 zi) ∧ wr.cell? ⟨gl, i * 2 + 1, none⟩ = some (.string zs))) (fun jv _ => n - (intOf jv).toNat)
          case atStart =>
            refine ⟨0, Nat.zero_le _, rfl, HB6.out, ?_⟩
            show ∀ i, _
            intro i hi _
            obtain ⟨gl, cap, hv1, hgl, hcp, hcell⟩ := own_at HOl.out (by omega)
            injection hv1 with i1 i2 i3
            subst i1 i3
            have hg2 := anC_get C5.ans i (by rw [HNa.out]; exact hi)
            obtain ⟨cur, hcur⟩ := own_heap HOl.out (k := gl) rfl
            refine ⟨gl, _, _, rfl, hcp, ⟨cur, hcur⟩, by have := HB5.out.st.below.size; omega, fun e => ?_, fun e => ?_, hg2.1, hg2.2, hcell _ _ hg2.1, hcell _ _ hg2.2⟩
            · have := (HB5.out.st.row.lt gl e).2; omega
            · have := (HB5.out.md.arow.lt gl e).2; omega
          case round =>
            obtain ⟨j, hj, rfl, HBr, HR⟩ := hrel
            by_cases hjn : j < n
            · have hdj : decide ((j : Int) < n) = true := decide_eq_true (by omega)
              obtain ⟨gl, zi, zs, rfl, hcl, ⟨cs, X⟩, hgl, na1, na2, g1, g2, q0, q1⟩ := HR.out j hjn (Nat.le_refl _)
              have hry := HBr.out.md.arow
              rw [HBr.out.sim.ans, HNa.out, HYV.out] at hry
              obtain ⟨gy, cap, hv1, hgy, hcy, hcell⟩ := own_at hry (by omega)
              injection hv1 with i1 i2 i3
              subst i1 i3
              have q2 : wr.cell? ⟨m, 7, none⟩ = some (.slice (some ⟨gy, 0, none⟩) n cy) := by rw [← HYV.out]; exact HBr.out.md.blk.cell rfl
              have q3 := hcell _ _ g1
              have q4 := hcell _ _ g2
              have hneq := fun wx => neq_answer wx zi zs
              have f1 : wr.drew.frozen? ⟨gl, j * 2 + 1, none⟩ = false := X.drew.frozen
              have r1 : wr.drew.cell? ⟨gl, j * 2 + 1, none⟩ = some (.string zs) := q1
              obtain ⟨W7, hW7⟩ : ∃ W7, wr.drew.setCell ⟨gl, j * 2 + 1, none⟩ (.string ⟨#[115, 112, 111, 105, 108, 116]⟩) = W7 := ⟨_, rfl⟩
              have HB7 : Hid (Both w W7 p b x y q tm m (k + 1) S5 tc5 av5 C5 hv5 yv5 Y5) := by show Both _ _ _ _ _ _ _ _ _ _ _ _ _ _ _ _ _; rw [← hW7]; exact (HBr.out.keep (Below.refl _ _).drew).foreign X.drew hgl na1 na2
              have HR7 : Hid (∀ i (hi : i < n), j + 1 ≤ i → ∃ gl2 zi zs, some (⟨gl, 0, none⟩ : Addr) = some ⟨gl2, 0, none⟩ ∧ n ≤ cl ∧ (∃ cs, Blk W7 gl2 cs 44) ∧ w.heap.size ≤ gl2 ∧ av5.ownBlock ≠ some gl2 ∧ yv5.ownBlock ≠ some gl2 ∧ (anC C5.ans)[i * 2]? = some (.int .i64 zi) ∧ (anC C5.ans)[i * 2 + 1]? = some (.string zs) ∧ W7.cell? ⟨gl2, i * 2, none⟩ = some (.int .i64 zi) ∧ W7.cell? ⟨gl2, i * 2 + 1, none⟩ = some (.string zs)) := by
                show ∀ i, _
                intro i hi hji
                obtain ⟨gl2, zi2, zs2, h1, h2, ⟨cs2, X2⟩, h4, h5, h6, h7, h8, h9, h10⟩ := HR.out i hi (by omega)
                injection h1 with h1
                injection h1 with h1
                subst h1
                have X3 := X2.drew.set (j * 2 + 1) (.string ⟨#[115, 112, 111, 105, 108, 116]⟩)
                rw [hW7] at X3
                refine ⟨_, zi2, zs2, rfl, h2, ⟨_, X3⟩, h4, h5, h6, h7, h8, ?_, ?_⟩
                · rw [← hW7]
                  rw [cell_of_row wr _ _ cs2 _ (0, 0) X2] at h9
                  exact (X2.drew.set (j * 2 + 1) _).cell (by rw [Array.getElem?_setIfInBounds_ne (by omega)]; exact h9)
                · rw [← hW7]
                  rw [cell_of_row wr _ _ cs2 _ (0, 0) X2] at h10
                  exact (X2.drew.set (j * 2 + 1) _).cell (by rw [Array.getElem?_setIfInBounds_ne (by omega)]; exact h10)
              clear hry hcell
              go_wp2_with fail
              refine wp_region_held_drew (S := (fun wx => wx.cell? ⟨gl, j * 2, none⟩ = some (.int .i64 zi) ∧ wx.cell? ⟨gl, j * 2 + 1, none⟩ = some (.string zs) ∧ wx.cell? ⟨m, 7, none⟩ = some (.slice (some ⟨gy, 0, none⟩) n cy) ∧ wx.cell? ⟨gy, j * 2, none⟩ = some (.int .i64 zi) ∧ wx.cell? ⟨gy, j * 2 + 1, none⟩ = some (.string zs))) (by kernel_rfl) ⟨q0, q1, q2, q3, q4⟩ (fun hS => ?_)
              refine wpAnyH_take (i := 0) (v := (.slice (some ⟨gl, 0, none⟩) n cl)) rfl (by kernel_rfl) (by kernel_rfl) (by kernel_rfl) (fun _ _ _ h => h) (Or.inl ⟨by kernel_rfl, fun w hS => by obtain ⟨s0, s1, s2, s3, s4⟩ := hS; go_simp⟩) hS ?_
              refine wpAnyH_take (i := 1) (v := (.int .i64 (j : Int))) rfl (by kernel_rfl) (by kernel_rfl) (by kernel_rfl) (fun _ _ _ h => h) (Or.inl ⟨by kernel_rfl, fun w hS => by obtain ⟨s0, s1, s2, s3, s4⟩ := hS; go_simp⟩) hS ?_
              refine wpAnyH_take (i := 2) (v := (.pointer (some ⟨gl, j * 2, none⟩))) rfl (by kernel_rfl) (by kernel_rfl) (by kernel_rfl) (fun _ _ _ h => h) (Or.inl ⟨by kernel_rfl, fun w hS => by obtain ⟨s0, s1, s2, s3, s4⟩ := hS; go_simp⟩) hS ?_
              refine wpAnyH_take (i := 3) (v := (.agg #[.int .i64 zi, .string zs])) rfl (by kernel_rfl) (by kernel_rfl) (by kernel_rfl) (fun _ _ _ h => h) (Or.inl ⟨by kernel_rfl, fun w hS => by obtain ⟨s0, s1, s2, s3, s4⟩ := hS; go_simp⟩) hS ?_
              refine wpAnyH_take (i := 4) (v := (.pointer (some ⟨m, 0, none⟩))) rfl (by kernel_rfl) (by kernel_rfl) (by kernel_rfl) (fun _ _ _ h => h) (Or.inl ⟨by kernel_rfl, fun w hS => by obtain ⟨s0, s1, s2, s3, s4⟩ := hS; go_simp⟩) hS ?_
              refine wpAnyH_take (i := 5) (v := (.pointer (some ⟨m, 0, none⟩))) rfl (by kernel_rfl) (by kernel_rfl) (by kernel_rfl) (fun _ _ _ h => h) (Or.inl ⟨by kernel_rfl, fun w hS => by obtain ⟨s0, s1, s2, s3, s4⟩ := hS; go_simp⟩) hS ?_
              refine wpAnyH_take (i := 6) (v := (.pointer (some ⟨m, 7, none⟩))) rfl (by kernel_rfl) (by kernel_rfl) (by kernel_rfl) (fun _ _ _ h => h) (Or.inl ⟨by kernel_rfl, fun w hS => by obtain ⟨s0, s1, s2, s3, s4⟩ := hS; go_simp⟩) hS ?_
              refine wpAnyH_take (i := 7) (v := (.slice (some ⟨gy, 0, none⟩) n cy)) rfl (by kernel_rfl) (by kernel_rfl) (by kernel_rfl) (fun _ _ _ h => h) (Or.inl ⟨by kernel_rfl, fun w hS => by obtain ⟨s0, s1, s2, s3, s4⟩ := hS; go_simp⟩) hS ?_
              refine wpAnyH_take (i := 8) (v := (.int .i64 (j : Int))) rfl (by kernel_rfl) (by kernel_rfl) (by kernel_rfl) (fun _ _ _ h => h) (Or.inl ⟨by kernel_rfl, fun w hS => by obtain ⟨s0, s1, s2, s3, s4⟩ := hS; go_simp⟩) hS ?_
              refine wpAnyH_take (i := 9) (v := (.pointer (some ⟨gy, j * 2, none⟩))) rfl (by kernel_rfl) (by kernel_rfl) (by kernel_rfl) (fun _ _ _ h => h) (Or.inl ⟨by kernel_rfl, fun w hS => by obtain ⟨s0, s1, s2, s3, s4⟩ := hS; go_simp⟩) hS ?_
              refine wpAnyH_take (i := 10) (v := (.agg #[.int .i64 zi, .string zs])) rfl (by kernel_rfl) (by kernel_rfl) (by kernel_rfl) (fun _ _ _ h => h) (Or.inl ⟨by kernel_rfl, fun w hS => by obtain ⟨s0, s1, s2, s3, s4⟩ := hS; go_simp⟩) hS ?_
              refine wpAnyH_take (i := 11) (v := (.bool false)) rfl (by kernel_rfl) (by kernel_rfl) (by kernel_rfl) (fun _ _ _ h => h) (Or.inl ⟨by kernel_rfl, fun w hS => by obtain ⟨s0, s1, s2, s3, s4⟩ := hS; go_simp⟩) hS ?_
              refine wpAnyH_done (by kernel_rfl) ?_ _
              clear hS
              go_simp
              go_wp2
              exact ⟨⟨j + 1, by omega, by norm_cast, HB7.out, HR7.out⟩, by simp [intOf]; omega⟩
            · have hdj : decide ((j : Int) < n) = false := decide_eq_false (by omega)
              go_wp2
              exact ⟨⟨k + 1, S5, tc5, av5, C5, hv5, yv5, Y5, by omega, by omega, by norm_cast, HBr.out⟩, by simp [intOf]; omega⟩
        · go_simp
          refine hK.out _ _ (HSC.out _ HB5.out.st.below) (fun hS => ?_)
          clear hK
          refine wpAnyH_ready (rs := [11]) (by kernel_rfl) (by simp) ?_
          refine AllReadyH.cons rfl (fun K hK => ?_) AllReadyH.nil
          go_simp
          refine Calls.mono HWt.out ?_
          rintro e w5 ⟨rfl, rfl⟩
          refine hK.out _ _ (HSC.out _ HB5.out.st.below) (fun hS => ?_)
          clear hK
          refine wpAnyH_take (i := 16) (v := (.bool false)) rfl (by kernel_rfl) (by kernel_rfl) (by kernel_rfl) (fun _ _ _ h => h) (Or.inl ⟨by kernel_rfl, fun w hS => by obtain ⟨s0, s1, s2, s3⟩ := hS; go_simp⟩) hS ?_
          refine wpAnyH_take (i := 17) (v := (.bool false)) rfl (by kernel_rfl) (by kernel_rfl) (by kernel_rfl) (fun _ _ _ h => h) (Or.inl ⟨by kernel_rfl, fun w hS => by obtain ⟨s0, s1, s2, s3⟩ := hS; go_simp⟩) hS ?_
          refine wpAnyH_done (by kernel_rfl) ?_ _
          clear hS HSC
          go_simp
          have HA : Hid _ := answers_calls w5 HB5.out.st (by have := HB5.out.al; omega)
          go_wp2_with fail
          refine Calls.mono HA.out ?_
          rintro e w6 ⟨vl, rfl, ho6, b6⟩
          have HB6 : Hid _ := HB5.out.keep b6
          obtain ⟨n, hn⟩ : ∃ n, C5.ans.length = n := ⟨_, rfl⟩
          have hay := HB6.out.md.arow
          rw [HB6.out.sim.ans, hn] at hay
          rw [hn] at ho6
          obtain ⟨al, cl, rfl⟩ := own_sl ho6
          obtain ⟨ay, cy, hyv⟩ := own_sl hay
          have y7 : w6.cell? ⟨m, 7, none⟩ = some (.slice ay n cy) := by rw [← hyv]; exact HB6.out.md.blk.cell rfl
          have hn9 : n ≤ 1001 := by have := HB5.out.al; omega
          have HOl : Hid _ := ho6
          have HOy : Hid (w6.ownsRow w.heap.size 44 2 (.slice ay n cy) n (anC C5.ans)) := by rw [← hyv]; exact hay
          have HYV : Hid _ := hyv
          have HZ6 : Hid (w5.heap.size ≤ w6.heap.size) := b6.size
          have HNa : Hid _ := hn
          clear HA hay ho6 hyv hn HWt z4
          go_wp2
          go_loopw [15] (fun jv wr => ∃ j : Nat, j ≤ n ∧ jv = .int .i64 j ∧ Hid (Both w wr p b x y q tm m (k + 1) S5 tc5 av5 C5 hv5 yv5 Y5) ∧ Hid (∀ i (hi : i < n), j ≤ i → ∃ gl zi zs, al = some ⟨gl, 0, none⟩ ∧ n ≤ cl ∧ (∃ cs, Blk wr gl cs 44) ∧ w.heap.size ≤ gl ∧ av5.ownBlock ≠ some gl ∧ yv5.ownBlock ≠ some gl ∧ (anC C5.ans)[i * 2]? = some (.int .i64 zi) ∧ (anC C5.ans)[i * 2 + 1]? = some (.string zs) ∧ wr.cell? ⟨gl, i * 2, none⟩ = some (.int .i64 zi) ∧ wr.cell? ⟨gl, i * 2 + 1, none⟩ = some (.string zs))) (fun jv _ => n - (intOf jv).toNat)
          case atStart =>
            refine ⟨0, Nat.zero_le _, rfl, HB6.out, ?_⟩
            show ∀ i, _
            intro i hi _
            obtain ⟨gl, cap, hv1, hgl, hcp, hcell⟩ := own_at HOl.out (by omega)
            injection hv1 with i1 i2 i3
            subst i1 i3
            have hg2 := anC_get C5.ans i (by rw [HNa.out]; exact hi)
            obtain ⟨cur, hcur⟩ := own_heap HOl.out (k := gl) rfl
            refine ⟨gl, _, _, rfl, hcp, ⟨cur, hcur⟩, by have := HB5.out.st.below.size; omega, fun e => ?_, fun e => ?_, hg2.1, hg2.2, hcell _ _ hg2.1, hcell _ _ hg2.2⟩
            · have := (HB5.out.st.row.lt gl e).2; omega
            · have := (HB5.out.md.arow.lt gl e).2; omega
          case round =>
            obtain ⟨j, hj, rfl, HBr, HR⟩ := hrel
            by_cases hjn : j < n
            · have hdj : decide ((j : Int) < n) = true := decide_eq_true (by omega)
              obtain ⟨gl, zi, zs, rfl, hcl, ⟨cs, X⟩, hgl, na1, na2, g1, g2, q0, q1⟩ := HR.out j hjn (Nat.le_refl _)
              have hry := HBr.out.md.arow
              rw [HBr.out.sim.ans, HNa.out, HYV.out] at hry
              obtain ⟨gy, cap, hv1, hgy, hcy, hcell⟩ := own_at hry (by omega)
              injection hv1 with i1 i2 i3
              subst i1 i3
              have q2 : wr.cell? ⟨m, 7, none⟩ = some (.slice (some ⟨gy, 0, none⟩) n cy) := by rw [← HYV.out]; exact HBr.out.md.blk.cell rfl
              have q3 := hcell _ _ g1
              have q4 := hcell _ _ g2
              have hneq := fun wx => neq_answer wx zi zs
              have f1 : wr.drew.frozen? ⟨gl, j * 2 + 1, none⟩ = false := X.drew.frozen
              have r1 : wr.drew.cell? ⟨gl, j * 2 + 1, none⟩ = some (.string zs) := q1
              obtain ⟨W7, hW7⟩ : ∃ W7, wr.drew.setCell ⟨gl, j * 2 + 1, none⟩ (.string ⟨#[115, 112, 111, 105, 108, 116]⟩) = W7 := ⟨_, rfl⟩
              have HB7 : Hid (Both w W7 p b x y q tm m (k + 1) S5 tc5 av5 C5 hv5 yv5 Y5) := by show Both _ _ _ _ _ _ _ _ _ _ _ _ _ _ _ _ _; rw [← hW7]; exact (HBr.out.keep (Below.refl _ _).drew).foreign X.drew hgl na1 na2
              have HR7 : Hid (∀ i (hi : i < n), j + 1 ≤ i → ∃ gl2 zi zs, some (⟨gl, 0, none⟩ : Addr) = some ⟨gl2, 0, none⟩ ∧ n ≤ cl ∧ (∃ cs, Blk W7 gl2 cs 44) ∧ w.heap.size ≤ gl2 ∧ av5.ownBlock ≠ some gl2 ∧ yv5.ownBlock ≠ some gl2 ∧ (anC C5.ans)[i * 2]? = some (.int .i64 zi) ∧ (anC C5.ans)[i * 2 + 1]? = some (.string zs) ∧ W7.cell? ⟨gl2, i * 2, none⟩ = some (.int .i64 zi) ∧ W7.cell? ⟨gl2, i * 2 + 1, none⟩ = some (.string zs)) := by
                show ∀ i, _
                intro i hi hji
                obtain ⟨gl2, zi2, zs2, h1, h2, ⟨cs2, X2⟩, h4, h5, h6, h7, h8, h9, h10⟩ := HR.out i hi (by omega)
                injection h1 with h1
                injection h1 with h1
                subst h1
                have X3 := X2.drew.set (j * 2 + 1) (.string ⟨#[115, 112, 111, 105, 108, 116]⟩)
                rw [hW7] at X3
                refine ⟨_, zi2, zs2, rfl, h2, ⟨_, X3⟩, h4, h5, h6, h7, h8, ?_, ?_⟩
                · rw [← hW7]
                  rw [cell_of_row wr _ _ cs2 _ (0, 0) X2] at h9
                  exact (X2.drew.set (j * 2 + 1) _).cell (by rw [Array.getElem?_setIfInBounds_ne (by omega)]; exact h9)
                · rw [← hW7]
                  rw [cell_of_row wr _ _ cs2 _ (0, 0) X2] at h10
                  exact (X2.drew.set (j * 2 + 1) _).cell (by rw [Array.getElem?_setIfInBounds_ne (by omega)]; exact h10)
              clear hry hcell
              go_wp2_with fail
              refine wp_region_held_drew (S := (fun wx => wx.cell? ⟨gl, j * 2, none⟩ = some (.int .i64 zi) ∧ wx.cell? ⟨gl, j * 2 + 1, none⟩ = some (.string zs) ∧ wx.cell? ⟨m, 7, none⟩ = some (.slice (some ⟨gy, 0, none⟩) n cy) ∧ wx.cell? ⟨gy, j * 2, none⟩ = some (.int .i64 zi) ∧ wx.cell? ⟨gy, j * 2 + 1, none⟩ = some (.string zs))) (by kernel_rfl) ⟨q0, q1, q2, q3, q4⟩ (fun hS => ?_)
              refine wpAnyH_take (i := 0) (v := (.slice (some ⟨gl, 0, none⟩) n cl)) rfl (by kernel_rfl) (by kernel_rfl) (by kernel_rfl) (fun _ _ _ h => h) (Or.inl ⟨by kernel_rfl, fun w hS => by obtain ⟨s0, s1, s2, s3, s4⟩ := hS; go_simp⟩) hS ?_
              refine wpAnyH_take (i := 1) (v := (.int .i64 (j : Int))) rfl (by kernel_rfl) (by kernel_rfl) (by kernel_rfl) (fun _ _ _ h => h) (Or.inl ⟨by kernel_rfl, fun w hS => by obtain ⟨s0, s1, s2, s3, s4⟩ := hS; go_simp⟩) hS ?_
              refine wpAnyH_take (i := 2) (v := (.pointer (some ⟨gl, j * 2, none⟩))) rfl (by kernel_rfl) (by kernel_rfl) (by kernel_rfl) (fun _ _ _ h => h) (Or.inl ⟨by kernel_rfl, fun w hS => by obtain ⟨s0, s1, s2, s3, s4⟩ := hS; go_simp⟩) hS ?_
              refine wpAnyH_take (i := 3) (v := (.agg #[.int .i64 zi, .string zs])) rfl (by kernel_rfl) (by kernel_rfl) (by kernel_rfl) (fun _ _ _ h => h) (Or.inl ⟨by kernel_rfl, fun w hS => by obtain ⟨s0, s1, s2, s3, s4⟩ := hS; go_simp⟩) hS ?_
              refine wpAnyH_take (i := 4) (v := (.pointer (some ⟨m, 0, none⟩))) rfl (by kernel_rfl) (by kernel_rfl) (by kernel_rfl) (fun _ _ _ h => h) (Or.inl ⟨by kernel_rfl, fun w hS => by obtain ⟨s0, s1, s2, s3, s4⟩ := hS; go_simp⟩) hS ?_
              refine wpAnyH_take (i := 5) (v := (.pointer (some ⟨m, 0, none⟩))) rfl (by kernel_rfl) (by kernel_rfl) (by kernel_rfl) (fun _ _ _ h => h) (Or.inl ⟨by kernel_rfl, fun w hS => by obtain ⟨s0, s1, s2, s3, s4⟩ := hS; go_simp⟩) hS ?_
              refine wpAnyH_take (i := 6) (v := (.pointer (some ⟨m, 7, none⟩))) rfl (by kernel_rfl) (by kernel_rfl) (by kernel_rfl) (fun _ _ _ h => h) (Or.inl ⟨by kernel_rfl, fun w hS => by obtain ⟨s0, s1, s2, s3, s4⟩ := hS; go_simp⟩) hS ?_
              refine wpAnyH_take (i := 7) (v := (.slice (some ⟨gy, 0, none⟩) n cy)) rfl (by kernel_rfl) (by kernel_rfl) (by kernel_rfl) (fun _ _ _ h => h) (Or.inl ⟨by kernel_rfl, fun w hS => by obtain ⟨s0, s1, s2, s3, s4⟩ := hS; go_simp⟩) hS ?_
              refine wpAnyH_take (i := 8) (v := (.int .i64 (j : Int))) rfl (by kernel_rfl) (by kernel_rfl) (by kernel_rfl) (fun _ _ _ h => h) (Or.inl ⟨by kernel_rfl, fun w hS => by obtain ⟨s0, s1, s2, s3, s4⟩ := hS; go_simp⟩) hS ?_
              refine wpAnyH_take (i := 9) (v := (.pointer (some ⟨gy, j * 2, none⟩))) rfl (by kernel_rfl) (by kernel_rfl) (by kernel_rfl) (fun _ _ _ h => h) (Or.inl ⟨by kernel_rfl, fun w hS => by obtain ⟨s0, s1, s2, s3, s4⟩ := hS; go_simp⟩) hS ?_
              refine wpAnyH_take (i := 10) (v := (.agg #[.int .i64 zi, .string zs])) rfl (by kernel_rfl) (by kernel_rfl) (by kernel_rfl) (fun _ _ _ h => h) (Or.inl ⟨by kernel_rfl, fun w hS => by obtain ⟨s0, s1, s2, s3, s4⟩ := hS; go_simp⟩) hS ?_
              refine wpAnyH_take (i := 11) (v := (.bool false)) rfl (by kernel_rfl) (by kernel_rfl) (by kernel_rfl) (fun _ _ _ h => h) (Or.inl ⟨by kernel_rfl, fun w hS => by obtain ⟨s0, s1, s2, s3, s4⟩ := hS; go_simp⟩) hS ?_
              refine wpAnyH_done (by kernel_rfl) ?_ _
              clear hS
              go_simp
              go_wp2
              exact ⟨⟨j + 1, by omega, by norm_cast, HB7.out, HR7.out⟩, by simp [intOf]; omega⟩
            · have hdj : decide ((j : Int) < n) = false := decide_eq_false (by omega)
              go_wp2
              exact ⟨⟨k + 1, S5, tc5, av5, C5, hv5, yv5, Y5, by omega, by omega, by norm_cast, HBr.out⟩, by simp [intOf]; omega⟩
      · have hd2 : decide ((k : Int) < 100) = false := decide_eq_false (by omega)
        have HBl : Hid _ := HB.out.st.below
        go_wp2_with fail
        refine Calls.mono (HAw.out _) ?_
        rintro e w9 ⟨rfl, b9⟩
        go_wp2
        go_ret
        exact ⟨rfl, HBl.out.trans (b9.mono HBl.out.size)⟩
    · have hd1 : decide ((k : Int) < l.length) = false := decide_eq_false (by omega)
      have HBl : Hid _ := HB.out.st.below
      go_wp2_with fail
      refine Calls.mono (HAw.out _) ?_
      rintro e w9 ⟨rfl, b9⟩
      go_wp2
      go_ret
      exact ⟨rfl, HBl.out.trans (b9.mono HBl.out.size)⟩
end Go.Proofs.Ytbbhihkeljpikaa
