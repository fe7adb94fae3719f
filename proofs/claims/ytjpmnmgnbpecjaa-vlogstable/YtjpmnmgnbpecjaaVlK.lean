/- Prepared, Committed; the places by rising numbers. -/
import Derived.Test.YtjpmnmgnbpecjaaVlE
namespace Go.Proofs.Ytjpmnmgnbpecjaa
open Go.Shelf Go.RowKit Go.Lib Go.Sort
open Go.ChangeMaps (setBlock)
set_option linter.unusedSimpArgs false
set_option linter.unusedVariables false
variable {w : World} {p : Nat} {mp : Nat → Option Nat} {L : Lv}
set_option maxHeartbeats 4000000 in
set_option maxRecDepth 100000 in
theorem prepd_calls (h : Lg w p mp L) (hi : LInv L) (q : Int) : Calls Try.prog 17 #[.pointer (some ⟨p, 0, none⟩), .int .i64 q] w fun e w' => e = .returned (.bool (L.wi q && (L.sl (pla q)).prep L.n)) ∧ Below w.heap.size w w' := by
  have hr := at_calls h hi q
  unfold slP at hr
  by_cases h1 : L.wi q = true
  · rw [if_pos h1] at hr
    obtain ⟨lv, hs, _⟩ := h.slot (pla q) (pla_lt q)
    have HP : Hid _ := prepared_calls hi.n h.c0 hs (h.mpr (pla_lt q)) (hi.pr (pla_lt q))
    rw [h1, Bool.true_and]
    clear hs h hi h1
    generalize 3 + pla q * 13 = o at *
    generalize (L.sl (pla q)).prep L.n = R at *
    go_enter Try.func17, Try.ntmps17
    go_wp2_with fail
    refine hr.mono ?_
    rintro e w1 ⟨rfl, rfl⟩
    go_wp2_with fail
    refine Calls.mono HP.out ?_
    rintro e w2 ⟨rfl, b2⟩
    go_wp2
    go_ret
    exact ⟨rfl, b2⟩
  · rw [if_neg h1] at hr
    rw [show L.wi q = false by simpa using h1, Bool.false_and]
    clear h hi h1
    go_enter Try.func17, Try.ntmps17
    go_wp2_with fail
    refine hr.mono ?_
    rintro e w1 ⟨rfl, rfl⟩
    go_wp2
    go_ret
    exact ⟨rfl, Below.refl _ _⟩
set_option maxHeartbeats 4000000 in
set_option maxRecDepth 100000 in
theorem commd_no {o : Nat} {q S0 : Int} {S1 : ByteArray} {b : Option Nat} (hr : Calls Try.prog 31 #[.pointer (some ⟨p, 0, none⟩), .int .i64 q] w fun e w' => e = .returned (.pointer (some ⟨p, o, none⟩)) ∧ w' = w) (HP : ∀ wx, Below w.heap.size w wx → Calls Try.prog 34 #[.pointer (some ⟨p, 0, none⟩), .pointer (some ⟨p, o, none⟩)] wx fun e w' => e = .returned (.bool false) ∧ Below wx.heap.size wx w') (HS : ∀ wx, Below w.heap.size w wx → wx.cell? ⟨p, o, none⟩ = some (.int .i64 S0) ∧ wx.cell? ⟨p, o + 1, none⟩ = some (.string S1) ∧ wx.cell? ⟨p, o + 4, none⟩ = some (.map b)) :
    Calls Try.prog 18 #[.pointer (some ⟨p, 0, none⟩), .int .i64 q] w fun e w' => e = .returned (.bool false) ∧ Below w.heap.size w w' := by
  go_enter Try.func18, Try.ntmps18
  go_wp2_with fail
  refine hr.mono ?_
  rintro e w0 ⟨rfl, hw0⟩
  obtain rfl := hw0.symm
  clear hr
  go_wp2_with fail
  refine wp_region_held_drew (S := (fun wx => wx.cell? ⟨p, o, none⟩ = some (.int .i64 S0) ∧ wx.cell? ⟨p, o + 1, none⟩ = some (.string S1) ∧ wx.cell? ⟨p, o + 4, none⟩ = some (.map b))) (by kernel_rfl) (HS _ (Below.refl _ _).drew) (fun hS => ?_)
  refine wpAnyH_take (i := 0) (v := (.pointer (some ⟨p, o, none⟩))) rfl (by kernel_rfl) (by kernel_rfl) (by kernel_rfl) (fun _ _ _ h => h) (Or.inl ⟨by kernel_rfl, fun w hS => by obtain ⟨s0, s1, s2⟩ := hS; go_simp⟩) hS ?_
  refine wpAnyH_take (i := 1) (v := (.bool true)) rfl (by kernel_rfl) (by kernel_rfl) (by kernel_rfl) (fun _ _ _ h => h) (Or.inl ⟨by kernel_rfl, fun w hS => by obtain ⟨s0, s1, s2⟩ := hS; go_simp⟩) hS ?_
  refine wpAnyH_take (i := 2) (v := (.bool true)) rfl (by kernel_rfl) (by kernel_rfl) (by kernel_rfl) (fun _ _ _ h => h) (Or.inl ⟨by kernel_rfl, fun w hS => by obtain ⟨s0, s1, s2⟩ := hS; go_simp⟩) hS ?_
  refine wpAnyH_take (i := 3) (v := (.pointer (some ⟨p, 0, none⟩))) rfl (by kernel_rfl) (by kernel_rfl) (by kernel_rfl) (fun _ _ _ h => h) (Or.inl ⟨by kernel_rfl, fun w hS => by obtain ⟨s0, s1, s2⟩ := hS; go_simp⟩) hS ?_
  refine wpAnyH_take (i := 4) (v := (.pointer (some ⟨p, o, none⟩))) rfl (by kernel_rfl) (by kernel_rfl) (by kernel_rfl) (fun _ _ _ h => h) (Or.inl ⟨by kernel_rfl, fun w hS => by obtain ⟨s0, s1, s2⟩ := hS; go_simp⟩) hS ?_
  refine wpAnyH_ready (rs := [5]) (by kernel_rfl) (by simp) ?_
  refine AllReadyH.cons rfl (fun K hK => ?_) AllReadyH.nil
  go_simp
  refine (HP _ (Below.refl _ _).drew).mono ?_
  rintro e w1 ⟨rfl, hb1⟩
  have b1 : Below w.heap.size w w1 := (Below.refl _ _).drew.trans hb1
  refine hK.out _ _ (HS _ b1) (fun hS => ?_)
  clear hK hb1
  refine wpAnyH_take (i := 6) (v := (.bool false)) rfl (by kernel_rfl) (by kernel_rfl) (by kernel_rfl) (fun _ _ _ h => h) (Or.inl ⟨by kernel_rfl, fun w hS => by obtain ⟨s0, s1, s2⟩ := hS; go_simp⟩) hS ?_
  refine wpAnyH_take (i := 7) (v := (.bool false)) rfl (by kernel_rfl) (by kernel_rfl) (by kernel_rfl) (fun _ _ _ h => h) (Or.inl ⟨by kernel_rfl, fun w hS => by obtain ⟨s0, s1, s2⟩ := hS; go_simp⟩) hS ?_
  refine wpAnyH_take (i := 8) (v := undef) rfl (by kernel_rfl) (by kernel_rfl) (by kernel_rfl) (fun _ _ _ h => h) (Or.inr ⟨by kernel_rfl, rfl⟩) hS ?_
  refine wpAnyH_take (i := 9) (v := undef) rfl (by kernel_rfl) (by kernel_rfl) (by kernel_rfl) (fun _ _ _ h => h) (Or.inr ⟨by kernel_rfl, rfl⟩) hS ?_
  refine wpAnyH_take (i := 10) (v := undef) rfl (by kernel_rfl) (by kernel_rfl) (by kernel_rfl) (fun _ _ _ h => h) (Or.inr ⟨by kernel_rfl, rfl⟩) hS ?_
  refine wpAnyH_take (i := 11) (v := undef) rfl (by kernel_rfl) (by kernel_rfl) (by kernel_rfl) (fun _ _ _ h => h) (Or.inr ⟨by kernel_rfl, rfl⟩) hS ?_
  refine wpAnyH_take (i := 12) (v := undef) rfl (by kernel_rfl) (by kernel_rfl) (by kernel_rfl) (fun _ _ _ h => h) (Or.inr ⟨by kernel_rfl, rfl⟩) hS ?_
  refine wpAnyH_take (i := 13) (v := undef) rfl (by kernel_rfl) (by kernel_rfl) (by kernel_rfl) (fun _ _ _ h => h) (Or.inr ⟨by kernel_rfl, rfl⟩) hS ?_
  refine wpAnyH_take (i := 14) (v := undef) rfl (by kernel_rfl) (by kernel_rfl) (by kernel_rfl) (fun _ _ _ h => h) (Or.inr ⟨by kernel_rfl, rfl⟩) hS ?_
  refine wpAnyH_take (i := 15) (v := undef) rfl (by kernel_rfl) (by kernel_rfl) (by kernel_rfl) (fun _ _ _ h => h) (Or.inr ⟨by kernel_rfl, rfl⟩) hS ?_
  refine wpAnyH_take (i := 16) (v := undef) rfl (by kernel_rfl) (by kernel_rfl) (by kernel_rfl) (fun _ _ _ h => h) (Or.inr ⟨by kernel_rfl, rfl⟩) hS ?_
  refine wpAnyH_take (i := 17) (v := undef) rfl (by kernel_rfl) (by kernel_rfl) (by kernel_rfl) (fun _ _ _ h => h) (Or.inr ⟨by kernel_rfl, rfl⟩) hS ?_
  refine wpAnyH_take (i := 18) (v := undef) rfl (by kernel_rfl) (by kernel_rfl) (by kernel_rfl) (fun _ _ _ h => h) (Or.inr ⟨by kernel_rfl, rfl⟩) hS ?_
  refine wpAnyH_take (i := 19) (v := undef) rfl (by kernel_rfl) (by kernel_rfl) (by kernel_rfl) (fun _ _ _ h => h) (Or.inr ⟨by kernel_rfl, rfl⟩) hS ?_
  refine wpAnyH_take (i := 20) (v := undef) rfl (by kernel_rfl) (by kernel_rfl) (by kernel_rfl) (fun _ _ _ h => h) (Or.inr ⟨by kernel_rfl, rfl⟩) hS ?_
  refine wpAnyH_take (i := 21) (v := (.bool false)) rfl (by kernel_rfl) (by kernel_rfl) (by kernel_rfl) (fun _ _ _ h => h) (Or.inl ⟨by kernel_rfl, fun w hS => by obtain ⟨s0, s1, s2⟩ := hS; go_simp⟩) hS ?_
  refine wpAnyH_take (i := 22) (v := (.bool false)) rfl (by kernel_rfl) (by kernel_rfl) (by kernel_rfl) (fun _ _ _ h => h) (Or.inl ⟨by kernel_rfl, fun w hS => by obtain ⟨s0, s1, s2⟩ := hS; go_simp⟩) hS ?_
  refine wpAnyH_done (by kernel_rfl) ?_ _
  clear HP HS hS
  go_simp
  go_wp2
  go_ret
  exact ⟨rfl, b1⟩
set_option maxHeartbeats 4000000 in
set_option maxRecDepth 100000 in
theorem commd_yes {o : Nat} {q S0 : Int} {S1 : ByteArray} {b : Option Nat} {Q : Option (List Sgn)} (hr : Calls Try.prog 31 #[.pointer (some ⟨p, 0, none⟩), .int .i64 q] w fun e w' => e = .returned (.pointer (some ⟨p, o, none⟩)) ∧ w' = w) (HP : ∀ wx, Below w.heap.size w wx → Calls Try.prog 34 #[.pointer (some ⟨p, 0, none⟩), .pointer (some ⟨p, o, none⟩)] wx fun e w' => e = .returned (.bool true) ∧ Below wx.heap.size wx w') (HS : ∀ wx, Below w.heap.size w wx → wx.cell? ⟨p, o, none⟩ = some (.int .i64 S0) ∧ wx.cell? ⟨p, o + 1, none⟩ = some (.string S1) ∧ wx.cell? ⟨p, o + 4, none⟩ = some (.map b)) (HQ : ∀ wx, Below w.heap.size w wx → Calls Try.prog 35 #[.pointer (some ⟨p, 0, none⟩), .map b, .agg #[.int .i64 S0, .string S1]] wx fun e w' => ∃ v, e = .returned v ∧ QrV w' wx.heap.size v Q ∧ Below wx.heap.size wx w') :
    Calls Try.prog 18 #[.pointer (some ⟨p, 0, none⟩), .int .i64 q] w fun e w' => e = .returned (.bool Q.isSome) ∧ Below w.heap.size w w' := by
  go_enter Try.func18, Try.ntmps18
  go_wp2_with fail
  refine hr.mono ?_
  rintro e w0 ⟨rfl, hw0⟩
  obtain rfl := hw0.symm
  clear hr
  go_wp2_with fail
  refine wp_region_held_drew (S := (fun wx => wx.cell? ⟨p, o, none⟩ = some (.int .i64 S0) ∧ wx.cell? ⟨p, o + 1, none⟩ = some (.string S1) ∧ wx.cell? ⟨p, o + 4, none⟩ = some (.map b))) (by kernel_rfl) (HS _ (Below.refl _ _).drew) (fun hS => ?_)
  refine wpAnyH_take (i := 0) (v := (.pointer (some ⟨p, o, none⟩))) rfl (by kernel_rfl) (by kernel_rfl) (by kernel_rfl) (fun _ _ _ h => h) (Or.inl ⟨by kernel_rfl, fun w hS => by obtain ⟨s0, s1, s2⟩ := hS; go_simp⟩) hS ?_
  refine wpAnyH_take (i := 1) (v := (.bool true)) rfl (by kernel_rfl) (by kernel_rfl) (by kernel_rfl) (fun _ _ _ h => h) (Or.inl ⟨by kernel_rfl, fun w hS => by obtain ⟨s0, s1, s2⟩ := hS; go_simp⟩) hS ?_
  refine wpAnyH_take (i := 2) (v := (.bool true)) rfl (by kernel_rfl) (by kernel_rfl) (by kernel_rfl) (fun _ _ _ h => h) (Or.inl ⟨by kernel_rfl, fun w hS => by obtain ⟨s0, s1, s2⟩ := hS; go_simp⟩) hS ?_
  refine wpAnyH_take (i := 3) (v := (.pointer (some ⟨p, 0, none⟩))) rfl (by kernel_rfl) (by kernel_rfl) (by kernel_rfl) (fun _ _ _ h => h) (Or.inl ⟨by kernel_rfl, fun w hS => by obtain ⟨s0, s1, s2⟩ := hS; go_simp⟩) hS ?_
  refine wpAnyH_take (i := 4) (v := (.pointer (some ⟨p, o, none⟩))) rfl (by kernel_rfl) (by kernel_rfl) (by kernel_rfl) (fun _ _ _ h => h) (Or.inl ⟨by kernel_rfl, fun w hS => by obtain ⟨s0, s1, s2⟩ := hS; go_simp⟩) hS ?_
  refine wpAnyH_ready (rs := [5]) (by kernel_rfl) (by simp) ?_
  refine AllReadyH.cons rfl (fun K hK => ?_) AllReadyH.nil
  go_simp
  refine (HP _ (Below.refl _ _).drew).mono ?_
  rintro e w1 ⟨rfl, hb1⟩
  have b1 : Below w.heap.size w w1 := (Below.refl _ _).drew.trans hb1
  refine hK.out _ _ (HS _ b1) (fun hS => ?_)
  clear hK hb1
  refine wpAnyH_take (i := 6) (v := (.bool true)) rfl (by kernel_rfl) (by kernel_rfl) (by kernel_rfl) (fun _ _ _ h => h) (Or.inl ⟨by kernel_rfl, fun w hS => by obtain ⟨s0, s1, s2⟩ := hS; go_simp⟩) hS ?_
  refine wpAnyH_take (i := 7) (v := (.bool true)) rfl (by kernel_rfl) (by kernel_rfl) (by kernel_rfl) (fun _ _ _ h => h) (Or.inl ⟨by kernel_rfl, fun w hS => by obtain ⟨s0, s1, s2⟩ := hS; go_simp⟩) hS ?_
  refine wpAnyH_take (i := 8) (v := (.pointer (some ⟨p, 0, none⟩))) rfl (by kernel_rfl) (by kernel_rfl) (by kernel_rfl) (fun _ _ _ h => h) (Or.inl ⟨by kernel_rfl, fun w hS => by obtain ⟨s0, s1, s2⟩ := hS; go_simp⟩) hS ?_
  refine wpAnyH_take (i := 9) (v := (.pointer (some ⟨p, o, none⟩))) rfl (by kernel_rfl) (by kernel_rfl) (by kernel_rfl) (fun _ _ _ h => h) (Or.inl ⟨by kernel_rfl, fun w hS => by obtain ⟨s0, s1, s2⟩ := hS; go_simp⟩) hS ?_
  refine wpAnyH_take (i := 10) (v := (.pointer (some ⟨p, o, none⟩))) rfl (by kernel_rfl) (by kernel_rfl) (by kernel_rfl) (fun _ _ _ h => h) (Or.inl ⟨by kernel_rfl, fun w hS => by obtain ⟨s0, s1, s2⟩ := hS; go_simp⟩) hS ?_
  refine wpAnyH_take (i := 11) (v := (.pointer (some ⟨p, o, none⟩))) rfl (by kernel_rfl) (by kernel_rfl) (by kernel_rfl) (fun _ _ _ h => h) (Or.inl ⟨by kernel_rfl, fun w hS => by obtain ⟨s0, s1, s2⟩ := hS; go_simp⟩) hS ?_
  refine wpAnyH_take (i := 12) (v := (.pointer (some ⟨p, o + 4, none⟩))) rfl (by kernel_rfl) (by kernel_rfl) (by kernel_rfl) (fun _ _ _ h => h) (Or.inl ⟨by kernel_rfl, fun w hS => by obtain ⟨s0, s1, s2⟩ := hS; go_simp⟩) hS ?_
  refine wpAnyH_take (i := 13) (v := (.map b)) rfl (by kernel_rfl) (by kernel_rfl) (by kernel_rfl) (fun _ _ _ h => h) (Or.inl ⟨by kernel_rfl, fun w hS => by obtain ⟨s0, s1, s2⟩ := hS; go_simp⟩) hS ?_
  refine wpAnyH_take (i := 14) (v := (.pointer (some ⟨p, o, none⟩))) rfl (by kernel_rfl) (by kernel_rfl) (by kernel_rfl) (fun _ _ _ h => h) (Or.inl ⟨by kernel_rfl, fun w hS => by obtain ⟨s0, s1, s2⟩ := hS; go_simp⟩) hS ?_
  refine wpAnyH_take (i := 15) (v := (.pointer (some ⟨p, o, none⟩))) rfl (by kernel_rfl) (by kernel_rfl) (by kernel_rfl) (fun _ _ _ h => h) (Or.inl ⟨by kernel_rfl, fun w hS => by obtain ⟨s0, s1, s2⟩ := hS; go_simp⟩) hS ?_
  refine wpAnyH_take (i := 16) (v := (.pointer (some ⟨p, o, none⟩))) rfl (by kernel_rfl) (by kernel_rfl) (by kernel_rfl) (fun _ _ _ h => h) (Or.inl ⟨by kernel_rfl, fun w hS => by obtain ⟨s0, s1, s2⟩ := hS; go_simp⟩) hS ?_
  refine wpAnyH_take (i := 17) (v := (.pointer (some ⟨p, o, none⟩))) rfl (by kernel_rfl) (by kernel_rfl) (by kernel_rfl) (fun _ _ _ h => h) (Or.inl ⟨by kernel_rfl, fun w hS => by obtain ⟨s0, s1, s2⟩ := hS; go_simp⟩) hS ?_
  refine wpAnyH_take (i := 18) (v := (.agg #[.int .i64 S0, .string S1])) rfl (by kernel_rfl) (by kernel_rfl) (by kernel_rfl) (fun _ _ _ h => h) (Or.inl ⟨by kernel_rfl, fun w hS => by obtain ⟨s0, s1, s2⟩ := hS; go_simp⟩) hS ?_
  refine wpAnyH_ready (rs := [19]) (by kernel_rfl) (by simp) ?_
  refine AllReadyH.cons rfl (fun K hK => ?_) AllReadyH.nil
  go_simp
  refine (HQ _ b1).mono ?_
  rintro e w2 ⟨v, rfl, hv, hb2⟩
  have b2 : Below w.heap.size w w2 := b1.trans (hb2.mono b1.size)
  refine hK.out _ _ (HS _ b2) (fun hS => ?_)
  clear hK
  cases Q with
  | none =>
    have hv' : v = .slice none 0 0 := hv
    subst hv'
    refine wpAnyH_take (i := 20) (v := (.bool false)) rfl (by kernel_rfl) (by kernel_rfl) (by kernel_rfl) (fun _ _ _ h => h) (Or.inl ⟨by kernel_rfl, fun w hS => by obtain ⟨s0, s1, s2⟩ := hS; go_simp⟩) hS ?_
    refine wpAnyH_take (i := 21) (v := (.bool false)) rfl (by kernel_rfl) (by kernel_rfl) (by kernel_rfl) (fun _ _ _ h => h) (Or.inl ⟨by kernel_rfl, fun w hS => by obtain ⟨s0, s1, s2⟩ := hS; go_simp⟩) hS ?_
    refine wpAnyH_take (i := 22) (v := (.bool false)) rfl (by kernel_rfl) (by kernel_rfl) (by kernel_rfl) (fun _ _ _ h => h) (Or.inl ⟨by kernel_rfl, fun w hS => by obtain ⟨s0, s1, s2⟩ := hS; go_simp⟩) hS ?_
    refine wpAnyH_done (by kernel_rfl) ?_ _
    clear HP HS HQ hS
    go_simp
    go_wp2
    go_ret
    exact ⟨rfl, b2⟩
  | some l =>
    obtain ⟨hne, hv2⟩ := hv
    rcases hv2 with ⟨_, h2⟩ | ⟨g, cap, cs, rfl, _⟩
    · exact absurd h2 hne
    clear hne
    generalize l.length = ll at *
    refine wpAnyH_take (i := 20) (v := (.bool true)) rfl (by kernel_rfl) (by kernel_rfl) (by kernel_rfl) (fun _ _ _ h => h) (Or.inl ⟨by kernel_rfl, fun w hS => by obtain ⟨s0, s1, s2⟩ := hS; go_simp⟩) hS ?_
    refine wpAnyH_take (i := 21) (v := (.bool true)) rfl (by kernel_rfl) (by kernel_rfl) (by kernel_rfl) (fun _ _ _ h => h) (Or.inl ⟨by kernel_rfl, fun w hS => by obtain ⟨s0, s1, s2⟩ := hS; go_simp⟩) hS ?_
    refine wpAnyH_take (i := 22) (v := (.bool true)) rfl (by kernel_rfl) (by kernel_rfl) (by kernel_rfl) (fun _ _ _ h => h) (Or.inl ⟨by kernel_rfl, fun w hS => by obtain ⟨s0, s1, s2⟩ := hS; go_simp⟩) hS ?_
    refine wpAnyH_done (by kernel_rfl) ?_ _
    clear HP HS HQ hS
    go_simp
    go_wp2
    go_ret
    exact ⟨rfl, b2⟩
set_option maxHeartbeats 4000000 in
set_option maxRecDepth 100000 in
theorem commd_out {q : Int} (hr : Calls Try.prog 31 #[.pointer (some ⟨p, 0, none⟩), .int .i64 q] w fun e w' => e = .returned (.pointer none) ∧ w' = w) :
    Calls Try.prog 18 #[.pointer (some ⟨p, 0, none⟩), .int .i64 q] w fun e w' => e = .returned (.bool false) ∧ Below w.heap.size w w' := by
  go_enter Try.func18, Try.ntmps18
  go_wp2_with fail
  refine hr.mono ?_
  rintro e w0 ⟨rfl, hw0⟩
  obtain rfl := hw0.symm
  clear hr
  go_wp2_with fail
  go_quiet (fail)
  go_wp2
  go_ret
  exact ⟨rfl, by first | exact below_drewN _ _ | exact (Below.refl _ _).drew | (refine ⟨rfl, rfl, rfl, Nat.le_refl _, fun _ _ => rfl⟩)⟩
theorem commd_calls (h : Lg w p mp L) (hi : LInv L) (q : Int) : Calls Try.prog 18 #[.pointer (some ⟨p, 0, none⟩), .int .i64 q] w fun e w' => e = .returned (.bool (L.wi q && (L.sl (pla q)).comm L.n)) ∧ Below w.heap.size w w' := by
  have hr := at_calls h hi q
  unfold slP at hr
  by_cases h1 : L.wi q = true
  · rw [if_pos h1] at hr
    obtain ⟨lv, hs, _⟩ := h.slot (pla q) (pla_lt q)
    have hpl := h.lt
    have HP := fun wx (hb : Below w.heap.size w wx) => prepared_calls (w := wx) hi.n (h.below hb).c0 (rangeAt_block hs (hb.block p hpl)) ((h.below hb).mpr (pla_lt q)) (hi.pr (pla_lt q))
    have HS : ∀ wx, Below w.heap.size w wx → wx.cell? ⟨p, 3 + pla q * 13, none⟩ = some (.int .i64 (L.sl (pla q)).ps) ∧ wx.cell? ⟨p, 3 + pla q * 13 + 1, none⟩ = some (.string (L.sl (pla q)).pd) ∧ wx.cell? ⟨p, 3 + pla q * 13 + 4, none⟩ = some (.map (mp (2 * pla q + 1))) := fun wx hb => by
      have hr' := rangeAt_block hs (hb.block p hpl)
      exact ⟨hr' 0 _ rfl, hr' 1 _ rfl, hr' 4 _ rfl⟩
    rw [h1, Bool.true_and]
    unfold Slot.comm
    cases hp : (L.sl (pla q)).prep L.n with
    | false =>
      rw [hp] at HP
      rw [Bool.false_and]
      exact commd_no hr HP HS
    | true =>
      rw [hp] at HP
      rw [Bool.true_and]
      exact commd_yes hr HP HS (fun wx hb => quorum_calls L.n p _ _ _ _ wx hi.n ((h.below hb).mco (pla_lt q)) (hi.co (pla_lt q)) (h.below hb).c0)
  · rw [if_neg h1] at hr
    rw [show L.wi q = false by simpa using h1, Bool.false_and]
    exact commd_out hr

/-- The places by rising numbers. -/
def risP (p : Nat) (L : Lv) (i : Nat) : Value := .pointer (some ⟨p, 3 + pla (L.lo + 1 + (i : Int)) * 13, none⟩)
def ris (p : Nat) (L : Lv) (k : Nat) : List Value := (List.range k).map (risP p L)
theorem ris_snoc (p : Nat) (L : Lv) (k : Nat) : ris p L (k + 1) = ris p L k ++ [risP p L k] := by simp [ris, List.range_succ]
theorem infoP : (Try.prog.info? 73).map (fun i => (i.zero, i.size, i.bytes)) = some (some (.pointer none), 1, 8) := by kernel_rfl
set_option maxHeartbeats 4000000 in
set_option maxRecDepth 100000 in
theorem rising_calls (h : Lg w p mp L) (hi : LInv L) : Calls Try.prog 26 #[.pointer (some ⟨p, 2, none⟩)] w fun e w' => ∃ v, e = .returned v ∧ w'.ownsRow w.heap.size 73 1 v 8 (ris p L 8) ∧ Below w.heap.size w w' := by
  obtain ⟨iS, hS, hS0, hS1, hS2⟩ := info_parts infoP
  have hlo := hi.lo
  have HR : Hid (∀ wx (i : Nat), Below w.heap.size w wx → i < 8 → Calls Try.prog 41 #[.pointer (some ⟨p, 2, none⟩), .int .i64 (L.lo + 1 + (i : Int))] wx fun e w' => e = .returned (risP p L i) ∧ w' = wx) := fun wx i hb hi8 => by
    have := ringAt_calls (h.below hb) hi (L.lo + 1 + (i : Int))
    unfold slP at this
    rw [if_pos (by unfold Lv.wi; simp; omega)] at this
    exact this
  have HC2 : Hid (∀ wx, Below w.heap.size w wx → wx.cell? ⟨p, 2, none⟩ = some (.int .i64 L.lo)) := fun wx hb => (h.below hb).c2
  clear h hi
  have hw1 : IntKind.i64.wrap (L.lo + 1) = L.lo + 1 := by simp [IntKind.wrap, IntKind.bits, IntKind.signed]; omega
  go_enter Try.func26, Try.ntmps26
  go_wp2_with fail
  go_loopw [3, 5] (fun ov iv wr => ∃ k : Nat, k ≤ 8 ∧ iv = .int .i64 k ∧ Hid (wr.ownsRow w.heap.size 73 1 ov k (ris p L k)) ∧ Below w.heap.size w wr) (fun _ iv _ => 8 - (intOf iv).toNat)
  case atStart => exact ⟨0, by decide, rfl, World.ownsRow_nil _ _ _ _, Below.refl _ _⟩
  case round =>
    obtain ⟨k, hk, rfl, HO, hb⟩ := hrel
    by_cases hlt : k < 8
    · have hd : decide ((k : Int) < 8) = true := by simp only [decide_eq_true_eq]; omega
      have c2 := HC2.out wr hb
      have hw2 : IntKind.i64.wrap (L.lo + 1 + (k : Int)) = L.lo + 1 + (k : Int) := by simp [IntKind.wrap, IntKind.bits, IntKind.signed]; omega
      have HRk : Hid _ := HR.out wr k hb hlt
      have hz := hb.size
      have HSN : Hid _ := ris_snoc p L k
      unfold risP at HRk HSN
      generalize 3 + pla (L.lo + 1 + (k : Int)) * 13 = o at *
      go_wp2_with fail
      refine Calls.mono HRk.out ?_
      rintro e w2 ⟨rfl, hw2'⟩
      obtain rfl := hw2'.symm
      go_wp2_with (at_builtin; refine wpList_append_own _ rfl _ _ 71 rfl w.heap.size 73 iS (.pointer none) 1 8 Try.underlying71 hS hS0 hS1 hS2 rfl (by decide) _ _ _ rfl (World.ownsRow.alloc HO.out _) ⟨wr.heap.size, 0, none⟩ 1 1 [.pointer (some ⟨p, o, none⟩)] rfl rfl ?c1 ?c2 ?c3 ?c4 ?c5 ?_)
      case c1 =>
        intro j u hj
        rw [Addr.add_mid, Nat.zero_add]
        exact (blk_new wr wr.heap.size #[.pointer (some ⟨p, o, none⟩)] 73 rfl).cell (by simpa using hj)
      case c2 => intro u hu; simp at hu; subst hu; rfl
      case c3 => unfold maxLen; omega
      case c4 => omega
      case c5 => simp; omega
      intro ov' w5 hown5 hgrow5 _
      have b5 : Below w.heap.size w w5 := below_grown (hb.alloc (by omega) _) hgrow5 (fun q hq => (World.ownsRow.lt HO.out q hq).1) (by simp; omega)
      have HO5 : Hid _ := hown5
      clear hown5 hgrow5
      go_wp2
      refine ⟨⟨k + 1, by omega, by norm_cast, ?_, b5⟩, by simp [intOf]; omega⟩
      show World.ownsRow _ _ _ _ _ _ _
      rw [HSN.out]; exact HO5.out
    · have hd : decide ((k : Int) < 8) = false := by simp only [decide_eq_false_iff_not]; omega
      have : k = 8 := by omega
      subst this
      go_wp2
      go_ret
      exact ⟨_, rfl, HO.out, hb⟩
end Go.Proofs.Ytjpmnmgnbpecjaa
