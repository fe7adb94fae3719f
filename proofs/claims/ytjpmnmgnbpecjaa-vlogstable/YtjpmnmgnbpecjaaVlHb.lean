/- What stands at a number is proved: it was in another view. -/
import Derived.Test.YtjpmnmgnbpecjaaVlH
namespace Go.Proofs.Ytjpmnmgnbpecjaa
open Go.Shelf Go.RowKit Go.Lib Go.Sort
open Go.ChangeMaps (setBlock)
set_option linter.unusedSimpArgs false
set_option linter.unusedVariables false
variable {w : World} {p : Nat} {mp : Nat → Option Nat} {L : Lv}
set_option maxHeartbeats 16000000 in
set_option maxRecDepth 100000 in
theorem proveC2 {o : Nat} {V FV FQ S0 : Int} {S1 S2 : ByteArray} {a : Option Nat} {AL : List Sgn} {R : World → Prop} (c1 : w.cell? ⟨p, 1, none⟩ = some (.int .i64 V)) (c6 : w.cell? ⟨p, o + 6, none⟩ = some (.int .i64 FV)) (c7 : w.cell? ⟨p, o + 7, none⟩ = some (.int .i64 FQ)) (h1 : 0 < FQ) (h2 : ¬ FV = V) (HP : Hid (∀ wx, Below w.heap.size w wx → Calls Try.prog 34 #[.pointer (some ⟨p, 0, none⟩), .pointer (some ⟨p, o, none⟩)] wx fun e w' => e = .returned (.bool true) ∧ Below wx.heap.size wx w')) (HS : Hid (∀ wx, Below w.heap.size w wx → wx.cell? ⟨p, 1, none⟩ = some (.int .i64 V) ∧ wx.cell? ⟨p, o, none⟩ = some (.int .i64 S0) ∧ wx.cell? ⟨p, o + 1, none⟩ = some (.string S1) ∧ wx.cell? ⟨p, o + 2, none⟩ = some (.string S2) ∧ wx.cell? ⟨p, o + 3, none⟩ = some (.map a)))
    (HQ : Hid (∀ wx, Below w.heap.size w wx → Calls Try.prog 35 #[.pointer (some ⟨p, 0, none⟩), .map a, .agg #[.int .i64 S0, .string S1]] wx fun e w' => ∃ v, e = .returned v ∧ QrV w' wx.heap.size v (some AL) ∧ Below wx.heap.size wx w'))
    (HT : Hid (∀ wx, Below w.heap.size w wx → wx.there p (o + 5) 8))
    (HF : Hid (∀ wx lv, Below w.heap.size w wx → Sgr wx 0 lv AL → R (wx.setCells p (o + 5) [.int .i64 11, .int .i64 V, .int .i64 S0, .int .i64 0, .int .i64 0, .string S1, .string S2, lv]))) :
    Calls Try.prog 45 #[.pointer (some ⟨p, 0, none⟩), .pointer (some ⟨p, o, none⟩)] w fun e w' => e = .returned (.tuple #[]) ∧ R w' := by
  have d1 : decide (0 < FQ) = true := decide_eq_true h1
  have d2 : decide (FV = V) = false := decide_eq_false h2
  have d3 : (FV == V) = false := d2
  clear h1
  go_enter Try.func45, Try.ntmps45
  go_wp2_with fail
  go_quiet (fail)
  go_wp2_with fail
  refine (HP.out _ (by first | exact below_drewN _ _ | exact (Below.refl _ _).drew | (refine ⟨rfl, rfl, rfl, Nat.le_refl _, fun _ _ => rfl⟩))).mono ?_
  rintro e w1 ⟨rfl, hb1⟩
  have b1 : Below w.heap.size w w1 := by
    refine Below.trans (?_ : Below w.heap.size w _) hb1
    first | exact below_drewN _ _ | exact (Below.refl _ _).drew | (refine ⟨rfl, rfl, rfl, Nat.le_refl _, fun _ _ => rfl⟩)
  clear hb1
  go_wp2_with fail
  refine wp_region_held_drew (S := (fun wx => wx.cell? ⟨p, 1, none⟩ = some (.int .i64 V) ∧ wx.cell? ⟨p, o, none⟩ = some (.int .i64 S0) ∧ wx.cell? ⟨p, o + 1, none⟩ = some (.string S1) ∧ wx.cell? ⟨p, o + 2, none⟩ = some (.string S2) ∧ wx.cell? ⟨p, o + 3, none⟩ = some (.map a))) (by kernel_rfl) (HS.out _ (Below.drew b1)) (fun hS => ?_)
  refine wpAnyH_take (i := 0) (v := (.pointer (some ⟨p, o, none⟩))) rfl (by kernel_rfl) (by kernel_rfl) (by kernel_rfl) (fun _ _ _ h => h) (Or.inl ⟨by kernel_rfl, fun w hS => by obtain ⟨s0, s1, s2, s3, s4⟩ := hS; go_simp⟩) hS ?_
  refine wpAnyH_take (i := 1) (v := (.pointer (some ⟨p, 0, none⟩))) rfl (by kernel_rfl) (by kernel_rfl) (by kernel_rfl) (fun _ _ _ h => h) (Or.inl ⟨by kernel_rfl, fun w hS => by obtain ⟨s0, s1, s2, s3, s4⟩ := hS; go_simp⟩) hS ?_
  refine wpAnyH_take (i := 2) (v := (.pointer (some ⟨p, 0, none⟩))) rfl (by kernel_rfl) (by kernel_rfl) (by kernel_rfl) (fun _ _ _ h => h) (Or.inl ⟨by kernel_rfl, fun w hS => by obtain ⟨s0, s1, s2, s3, s4⟩ := hS; go_simp⟩) hS ?_
  refine wpAnyH_take (i := 3) (v := (.pointer (some ⟨p, 1, none⟩))) rfl (by kernel_rfl) (by kernel_rfl) (by kernel_rfl) (fun _ _ _ h => h) (Or.inl ⟨by kernel_rfl, fun w hS => by obtain ⟨s0, s1, s2, s3, s4⟩ := hS; go_simp⟩) hS ?_
  refine wpAnyH_take (i := 4) (v := (.int .i64 V)) rfl (by kernel_rfl) (by kernel_rfl) (by kernel_rfl) (fun _ _ _ h => h) (Or.inl ⟨by kernel_rfl, fun w hS => by obtain ⟨s0, s1, s2, s3, s4⟩ := hS; go_simp⟩) hS ?_
  refine wpAnyH_take (i := 5) (v := (.pointer (some ⟨p, o, none⟩))) rfl (by kernel_rfl) (by kernel_rfl) (by kernel_rfl) (fun _ _ _ h => h) (Or.inl ⟨by kernel_rfl, fun w hS => by obtain ⟨s0, s1, s2, s3, s4⟩ := hS; go_simp⟩) hS ?_
  refine wpAnyH_take (i := 6) (v := (.pointer (some ⟨p, o, none⟩))) rfl (by kernel_rfl) (by kernel_rfl) (by kernel_rfl) (fun _ _ _ h => h) (Or.inl ⟨by kernel_rfl, fun w hS => by obtain ⟨s0, s1, s2, s3, s4⟩ := hS; go_simp⟩) hS ?_
  refine wpAnyH_take (i := 7) (v := (.pointer (some ⟨p, o, none⟩))) rfl (by kernel_rfl) (by kernel_rfl) (by kernel_rfl) (fun _ _ _ h => h) (Or.inl ⟨by kernel_rfl, fun w hS => by obtain ⟨s0, s1, s2, s3, s4⟩ := hS; go_simp⟩) hS ?_
  refine wpAnyH_take (i := 8) (v := (.pointer (some ⟨p, o, none⟩))) rfl (by kernel_rfl) (by kernel_rfl) (by kernel_rfl) (fun _ _ _ h => h) (Or.inl ⟨by kernel_rfl, fun w hS => by obtain ⟨s0, s1, s2, s3, s4⟩ := hS; go_simp⟩) hS ?_
  refine wpAnyH_take (i := 9) (v := (.pointer (some ⟨p, o, none⟩))) rfl (by kernel_rfl) (by kernel_rfl) (by kernel_rfl) (fun _ _ _ h => h) (Or.inl ⟨by kernel_rfl, fun w hS => by obtain ⟨s0, s1, s2, s3, s4⟩ := hS; go_simp⟩) hS ?_
  refine wpAnyH_take (i := 10) (v := (.int .i64 S0)) rfl (by kernel_rfl) (by kernel_rfl) (by kernel_rfl) (fun _ _ _ h => h) (Or.inl ⟨by kernel_rfl, fun w hS => by obtain ⟨s0, s1, s2, s3, s4⟩ := hS; go_simp⟩) hS ?_
  refine wpAnyH_take (i := 11) (v := (.pointer (some ⟨p, o, none⟩))) rfl (by kernel_rfl) (by kernel_rfl) (by kernel_rfl) (fun _ _ _ h => h) (Or.inl ⟨by kernel_rfl, fun w hS => by obtain ⟨s0, s1, s2, s3, s4⟩ := hS; go_simp⟩) hS ?_
  refine wpAnyH_take (i := 12) (v := (.pointer (some ⟨p, o, none⟩))) rfl (by kernel_rfl) (by kernel_rfl) (by kernel_rfl) (fun _ _ _ h => h) (Or.inl ⟨by kernel_rfl, fun w hS => by obtain ⟨s0, s1, s2, s3, s4⟩ := hS; go_simp⟩) hS ?_
  refine wpAnyH_take (i := 13) (v := (.pointer (some ⟨p, o, none⟩))) rfl (by kernel_rfl) (by kernel_rfl) (by kernel_rfl) (fun _ _ _ h => h) (Or.inl ⟨by kernel_rfl, fun w hS => by obtain ⟨s0, s1, s2, s3, s4⟩ := hS; go_simp⟩) hS ?_
  refine wpAnyH_take (i := 14) (v := (.pointer (some ⟨p, o, none⟩))) rfl (by kernel_rfl) (by kernel_rfl) (by kernel_rfl) (fun _ _ _ h => h) (Or.inl ⟨by kernel_rfl, fun w hS => by obtain ⟨s0, s1, s2, s3, s4⟩ := hS; go_simp⟩) hS ?_
  refine wpAnyH_take (i := 15) (v := (.pointer (some ⟨p, o + 1, none⟩))) rfl (by kernel_rfl) (by kernel_rfl) (by kernel_rfl) (fun _ _ _ h => h) (Or.inl ⟨by kernel_rfl, fun w hS => by obtain ⟨s0, s1, s2, s3, s4⟩ := hS; go_simp⟩) hS ?_
  refine wpAnyH_take (i := 16) (v := (.string S1)) rfl (by kernel_rfl) (by kernel_rfl) (by kernel_rfl) (fun _ _ _ h => h) (Or.inl ⟨by kernel_rfl, fun w hS => by obtain ⟨s0, s1, s2, s3, s4⟩ := hS; go_simp⟩) hS ?_
  refine wpAnyH_take (i := 17) (v := (.pointer (some ⟨p, o, none⟩))) rfl (by kernel_rfl) (by kernel_rfl) (by kernel_rfl) (fun _ _ _ h => h) (Or.inl ⟨by kernel_rfl, fun w hS => by obtain ⟨s0, s1, s2, s3, s4⟩ := hS; go_simp⟩) hS ?_
  refine wpAnyH_take (i := 18) (v := (.pointer (some ⟨p, o, none⟩))) rfl (by kernel_rfl) (by kernel_rfl) (by kernel_rfl) (fun _ _ _ h => h) (Or.inl ⟨by kernel_rfl, fun w hS => by obtain ⟨s0, s1, s2, s3, s4⟩ := hS; go_simp⟩) hS ?_
  refine wpAnyH_take (i := 19) (v := (.pointer (some ⟨p, o, none⟩))) rfl (by kernel_rfl) (by kernel_rfl) (by kernel_rfl) (fun _ _ _ h => h) (Or.inl ⟨by kernel_rfl, fun w hS => by obtain ⟨s0, s1, s2, s3, s4⟩ := hS; go_simp⟩) hS ?_
  refine wpAnyH_take (i := 20) (v := (.pointer (some ⟨p, o + 2, none⟩))) rfl (by kernel_rfl) (by kernel_rfl) (by kernel_rfl) (fun _ _ _ h => h) (Or.inl ⟨by kernel_rfl, fun w hS => by obtain ⟨s0, s1, s2, s3, s4⟩ := hS; go_simp⟩) hS ?_
  refine wpAnyH_take (i := 21) (v := (.string S2)) rfl (by kernel_rfl) (by kernel_rfl) (by kernel_rfl) (fun _ _ _ h => h) (Or.inl ⟨by kernel_rfl, fun w hS => by obtain ⟨s0, s1, s2, s3, s4⟩ := hS; go_simp⟩) hS ?_
  refine wpAnyH_take (i := 22) (v := (.pointer (some ⟨p, 0, none⟩))) rfl (by kernel_rfl) (by kernel_rfl) (by kernel_rfl) (fun _ _ _ h => h) (Or.inl ⟨by kernel_rfl, fun w hS => by obtain ⟨s0, s1, s2, s3, s4⟩ := hS; go_simp⟩) hS ?_
  refine wpAnyH_take (i := 23) (v := (.pointer (some ⟨p, o, none⟩))) rfl (by kernel_rfl) (by kernel_rfl) (by kernel_rfl) (fun _ _ _ h => h) (Or.inl ⟨by kernel_rfl, fun w hS => by obtain ⟨s0, s1, s2, s3, s4⟩ := hS; go_simp⟩) hS ?_
  refine wpAnyH_take (i := 24) (v := (.pointer (some ⟨p, o, none⟩))) rfl (by kernel_rfl) (by kernel_rfl) (by kernel_rfl) (fun _ _ _ h => h) (Or.inl ⟨by kernel_rfl, fun w hS => by obtain ⟨s0, s1, s2, s3, s4⟩ := hS; go_simp⟩) hS ?_
  refine wpAnyH_take (i := 25) (v := (.pointer (some ⟨p, o, none⟩))) rfl (by kernel_rfl) (by kernel_rfl) (by kernel_rfl) (fun _ _ _ h => h) (Or.inl ⟨by kernel_rfl, fun w hS => by obtain ⟨s0, s1, s2, s3, s4⟩ := hS; go_simp⟩) hS ?_
  refine wpAnyH_take (i := 26) (v := (.pointer (some ⟨p, o + 3, none⟩))) rfl (by kernel_rfl) (by kernel_rfl) (by kernel_rfl) (fun _ _ _ h => h) (Or.inl ⟨by kernel_rfl, fun w hS => by obtain ⟨s0, s1, s2, s3, s4⟩ := hS; go_simp⟩) hS ?_
  refine wpAnyH_take (i := 27) (v := (.map a)) rfl (by kernel_rfl) (by kernel_rfl) (by kernel_rfl) (fun _ _ _ h => h) (Or.inl ⟨by kernel_rfl, fun w hS => by obtain ⟨s0, s1, s2, s3, s4⟩ := hS; go_simp⟩) hS ?_
  refine wpAnyH_take (i := 28) (v := (.pointer (some ⟨p, o, none⟩))) rfl (by kernel_rfl) (by kernel_rfl) (by kernel_rfl) (fun _ _ _ h => h) (Or.inl ⟨by kernel_rfl, fun w hS => by obtain ⟨s0, s1, s2, s3, s4⟩ := hS; go_simp⟩) hS ?_
  refine wpAnyH_take (i := 29) (v := (.pointer (some ⟨p, o, none⟩))) rfl (by kernel_rfl) (by kernel_rfl) (by kernel_rfl) (fun _ _ _ h => h) (Or.inl ⟨by kernel_rfl, fun w hS => by obtain ⟨s0, s1, s2, s3, s4⟩ := hS; go_simp⟩) hS ?_
  refine wpAnyH_take (i := 30) (v := (.pointer (some ⟨p, o, none⟩))) rfl (by kernel_rfl) (by kernel_rfl) (by kernel_rfl) (fun _ _ _ h => h) (Or.inl ⟨by kernel_rfl, fun w hS => by obtain ⟨s0, s1, s2, s3, s4⟩ := hS; go_simp⟩) hS ?_
  refine wpAnyH_take (i := 31) (v := (.pointer (some ⟨p, o, none⟩))) rfl (by kernel_rfl) (by kernel_rfl) (by kernel_rfl) (fun _ _ _ h => h) (Or.inl ⟨by kernel_rfl, fun w hS => by obtain ⟨s0, s1, s2, s3, s4⟩ := hS; go_simp⟩) hS ?_
  refine wpAnyH_take (i := 32) (v := (.agg #[.int .i64 S0, .string S1])) rfl (by kernel_rfl) (by kernel_rfl) (by kernel_rfl) (fun _ _ _ h => h) (Or.inl ⟨by kernel_rfl, fun w hS => by obtain ⟨s0, s1, s2, s3, s4⟩ := hS; go_simp⟩) hS ?_
  refine wpAnyH_ready (rs := [33]) (by kernel_rfl) (by simp) ?_
  refine AllReadyH.cons rfl (fun K hK => ?_) AllReadyH.nil
  go_simp
  refine (HQ.out _ (Below.drew b1)).mono ?_
  rintro e w2 ⟨v, rfl, hv, hb2⟩
  have b2 : Below w.heap.size w w2 := b1.trans ((Below.drew (Below.refl _ _)).trans (hb2.mono (Nat.le_refl _))|>.mono b1.size)
  refine hK.out _ _ (HS.out _ b2) (fun hS => ?_)
  clear hK
  obtain ⟨hne, hv2⟩ := hv
  rcases hv2 with ⟨_, h2⟩ | ⟨g, cap, cs, rfl, hx1, hx2, hx3, hx4, hx5⟩
  · exact absurd h2 hne
  refine wpAnyH_take (i := 34) (v := (.agg #[.int .i64 11, .int .i64 V, .int .i64 S0, .int .i64 0, .int .i64 0, .string S1, .string S2, .slice (some ⟨g, 0, none⟩) AL.length cap])) rfl (by kernel_rfl) (by kernel_rfl) (by kernel_rfl) (fun _ _ _ h => h) (Or.inl ⟨by kernel_rfl, fun w hS => by obtain ⟨s0, s1, s2, s3, s4⟩ := hS; go_simp⟩) hS ?_
  refine wpAnyH_take (i := 35) (v := (.pointer (some ⟨p, o, none⟩))) rfl (by kernel_rfl) (by kernel_rfl) (by kernel_rfl) (fun _ _ _ h => h) (Or.inl ⟨by kernel_rfl, fun w hS => by obtain ⟨s0, s1, s2, s3, s4⟩ := hS; go_simp⟩) hS ?_
  refine wpAnyH_take (i := 36) (v := (.pointer (some ⟨p, o + 5, none⟩))) rfl (by kernel_rfl) (by kernel_rfl) (by kernel_rfl) (fun _ _ _ h => h) (Or.inl ⟨by kernel_rfl, fun w hS => by obtain ⟨s0, s1, s2, s3, s4⟩ := hS; go_simp⟩) hS ?_
  refine wpAnyH_ready (rs := [37]) (by kernel_rfl) (by simp) ?_
  refine AllReadyH.cons rfl (fun K hK => ?_) AllReadyH.nil
  refine step_ifV rfl ?_
  refine wp_store_mid 34 (.tmp 66) (.tmp 64) rfl p (o + 5) #[.int .i64 11, .int .i64 V, .int .i64 S0, .int .i64 0, .int .i64 0, .string S1, .string S2, .slice (some ⟨g, 0, none⟩) AL.length cap] (by kernel_rfl) (by kernel_rfl) (HT.out _ b2) (by kernel_rfl) (by kernel_rfl) ?_
  obtain ⟨W3, hW3⟩ : ∃ W3, w2.setCells p (o + 5) [.int .i64 11, .int .i64 V, .int .i64 S0, .int .i64 0, .int .i64 0, .string S1, .string S2, .slice (some ⟨g, 0, none⟩) AL.length cap] = W3 := ⟨_, rfl⟩
  have HW3 : Hid _ := hW3
  refine hK.out _ _ ?hSS (fun hS => ?_)
  case hSS =>
    obtain ⟨s0, s1, s2, s3, s4⟩ := HS.out _ b2
    exact ⟨(World.cell?_setCells_out p _ (o + 5) w2 ⟨p, 1, none⟩ (fun _ _ => Or.inl (by show 1 < o + 5; omega))).trans s0, (World.cell?_setCells_out p _ (o + 5) w2 ⟨p, o, none⟩ (fun _ _ => Or.inl (by show o < o + 5; omega))).trans s1, (World.cell?_setCells_out p _ (o + 5) w2 ⟨p, o + 1, none⟩ (fun _ _ => Or.inl (by show o + 1 < o + 5; omega))).trans s2, (World.cell?_setCells_out p _ (o + 5) w2 ⟨p, o + 2, none⟩ (fun _ _ => Or.inl (by show o + 2 < o + 5; omega))).trans s3, (World.cell?_setCells_out p _ (o + 5) w2 ⟨p, o + 3, none⟩ (fun _ _ => Or.inl (by show o + 3 < o + 5; omega))).trans s4⟩
  clear hK hS hW3
  refine wpAnyH_done (by kernel_rfl) ?_ _
  go_simp
  go_wp2
  go_end0
  exact ⟨rfl, HF.out w2 _ b2 (Or.inr ⟨g, cap, cs, rfl, hx1, hx2, Nat.zero_le _, hx4, hx5⟩)⟩
end Go.Proofs.Ytjpmnmgnbpecjaa
