/- Vote: a commit. -/
import Derived.Test.YtjpmnmgnbpecjaaVlJ3
namespace Go.Proofs.Ytjpmnmgnbpecjaa
open Go.Shelf Go.RowKit Go.Lib Go.Sort
open Go.ChangeMaps (setBlock)
set_option linter.unusedSimpArgs false
set_option linter.unusedVariables false
variable {w : World} {p : Nat} {mp : Nat → Option Nat} {L : Lv}
set_option maxHeartbeats 16000000 in
set_option maxRecDepth 100000 in
theorem vote4_calls (h : Lg w p mp L) (hi : LInv L) (m0 : Int) (m1 m2 : ByteArray) (vw q : Int) (d : ByteArray) (hz1 : m1.size ≤ 281474976710656) (hz2 : m2.size ≤ 281474976710656) (hz3 : d.size ≤ 281474976710656) :
    Calls Try.prog 36 #[.pointer (some ⟨p, 0, none⟩), .agg #[.int .i64 m0, .string m1, .string m2], .agg #[.int .i64 4, .int .i64 vw, .int .i64 q, .int .i64 0, .int .i64 0, .string d, .string ⟨#[]⟩, .slice none 0 0]] w (Done w p mp (L.vote (m0, m1, m2) 4 vw q d)) := by
  obtain ⟨W0, hW0, XM, B0, Z0⟩ : ∃ W0, (w.alloc (.cells #[.int .i64 m0, .string m1, .string m2] 38)) = W0 ∧ Blk W0 w.heap.size #[.int .i64 m0, .string m1, .string m2] 38 ∧ Below w.heap.size w W0 ∧ W0.heap.size = w.heap.size + 1 :=
    ⟨_, rfl, blk_new _ _ _ _ rfl, by go_grown, by simp⟩
  obtain ⟨W1, hW1, XB, B1, Z1⟩ : ∃ W1, (W0.alloc (.cells #[.int .i64 4, .int .i64 vw, .int .i64 q, .int .i64 0, .int .i64 0, .string d, .string ⟨#[]⟩, .slice none 0 0] 34)) = W1 ∧ Blk W1 W0.heap.size #[.int .i64 4, .int .i64 vw, .int .i64 q, .int .i64 0, .int .i64 0, .string d, .string ⟨#[]⟩, .slice none 0 0] 34 ∧ Below W0.heap.size W0 W1 ∧ W1.heap.size = W0.heap.size + 1 :=
    ⟨_, rfl, blk_new _ _ _ _ rfl, by go_grown, by simp⟩
  have b01 : Below w.heap.size w W1 := B0.trans (B1.mono (by omega))
  have XM1 := XM.below B1
  have hza : w.heap.size < W0.heap.size := by omega
  have hzb : W0.heap.size < W1.heap.size := by omega
  have HZ0 : Hid _ := Z0
  have HZ1 : Hid _ := Z1
  clear Z0 Z1
  have y0 : W1.cell? ⟨w.heap.size, 0, none⟩ = some (.int .i64 m0) := XM1.cell rfl
  have z0 : W1.cell? ⟨W0.heap.size, 0, none⟩ = some (.int .i64 4) := XB.cell rfl
  have z1 : W1.cell? ⟨W0.heap.size, 1, none⟩ = some (.int .i64 vw) := XB.cell rfl
  have z2 : W1.cell? ⟨W0.heap.size, 2, none⟩ = some (.int .i64 q) := XB.cell rfl
  have h1 := h.below b01
  have HPL : Hid (p < w.heap.size) := h.lt
  have hh := has_calls h1 hi m0
  have ho := open_calls h1 hi vw q
  have hself : Lg W1 p mp L ∧ Stp p mp w mp W1 := ⟨h1, Stp.of_below b01⟩
  have HS : Hid _ := hself
  clear hself
  by_cases g0 : 0 ≤ m0 ∧ m0 < L.n
  rotate_left
  · have hR : L.vote (m0, m1, m2) 4 vw q d = (L, 1) := by unfold Lv.vote; rw [if_pos (Or.inl g0)]
    rw [hR]
    have hb : (decide (0 ≤ m0) && decide (m0 < (L.n : Int))) = false := by
      by_cases e : 0 ≤ m0
      · have : ¬ m0 < (L.n : Int) := fun e2 => g0 ⟨e, e2⟩
        simp [this]
      · simp [e]
    rw [hb] at hh
    clear hR hb g0 h1 h hi ho
    go_enter Try.func36, Try.ntmps36
    go_wp2_with fail
    refine hh.mono ?_
    rintro e w1 ⟨rfl, rfl⟩
    go_wp2
    go_ret
    exact ⟨rfl, mp, HS.out⟩
  have hb : (decide (0 ≤ m0) && decide (m0 < (L.n : Int))) = true := by simp [g0.1, g0.2]
  rw [hb] at hh
  unfold opP at ho
  by_cases g1 : L.wi q = true ∧ vw = L.vw
  rotate_left
  · rw [if_neg g1] at ho
    have hR : L.vote (m0, m1, m2) 4 vw q d = (L, 100) := by
      unfold Lv.vote
      rw [if_neg (by rintro (e | e); · exact e g0
                     · exact absurd rfl (by first | exact e.1 | exact e.2)), if_pos]
      by_cases e : L.wi q = true
      · exact Or.inr (fun e2 => g1 ⟨e, e2⟩)
      · exact Or.inl (by simpa using e)
    rw [hR]
    clear hR hb g0 g1 h1 h hi
    go_enter Try.func36, Try.ntmps36
    go_wp2_with fail
    refine hh.mono ?_
    rintro e w1 ⟨rfl, rfl⟩
    go_wp2_with fail
    refine ho.mono ?_
    rintro e w1 ⟨rfl, rfl⟩
    go_wp2
    go_ret
    exact ⟨rfl, mp, HS.out⟩
  rw [if_pos g1] at ho
  have hk := pla_lt q
  obtain ⟨lv, hr, hsg⟩ := h1.slot (pla q) hk
  have HR : Hid (L.vote (m0, m1, m2) 4 vw q d = match vget (L.sl (pla q)).co m0 with
      | some v => if v.2.1 = d then (L, 101) else (L, 102)
      | none => (L.set (pla q) (({ L.sl (pla q) with co := vput (L.sl (pla q)).co m0 (q, d, (m0, m1, m2)) }).prove L.n L.vw), 0)) := by
    show _ = _
    unfold Lv.vote
    rw [if_neg (by rintro (e | e); · exact e g0
                   · exact absurd rfl (by first | exact e.1 | exact e.2)), if_neg (by
      rintro (e | e); · rw [g1.1] at e; cases e
      · exact e g1.2)]
    rfl
  have HV : Hid (∀ wx o, Calls Try.prog 33 #[.pointer (some ⟨p, o, none⟩), .int .i64 4] wx fun e w' => e = .returned (.pointer (some ⟨p, o + 4, none⟩)) ∧ w' = wx) := fun wx o => votes4_calls wx p o
  have HI : Hid _ := hi
  have Hk : Hid _ := hk
  have G0 : Hid _ := g0
  have H1 : Hid (Lg W1 p mp L) := h1
  clear h hi hb g1 hsg g0 h1
  generalize pla q = k at *
  have hcj : W1.cell? ⟨p, 3 + k * 13 + 4, none⟩ = some (.map (mp (2 * k + 1))) := hr 4 _ rfl
  have hmj : MapAt W1 (mp (2 * k + 1)) (L.sl k).co := Lg.mco H1.out Hk.out
  have HCell : Hid (cellOf (2 * k + 1) = 3 + k * 13 + 4) := by show _ = _; unfold cellOf; have := Hk.out; rw [if_neg (by omega)]; omega
  have Hr : Hid _ := hr
  clear hk hr
  have HNT : Hid (∀ wx, Below W1.heap.size W1 wx → _) := fun wx (hb : Below W1.heap.size W1 wx) => note_calls (w := wx) (p := p) (mp := mp) (L := L) (Lg.below H1.out hb) (j := (2 * k + 1)) (by have := Hk.out; omega) m0 m1 m2 q d hz1 hz2
  rw [HCell.out, vts_co L Hk.out] at HNT
  obtain ⟨o, Ho⟩ : ∃ o, Hid (3 + k * 13 = o) := ⟨_, rfl⟩
  rw [Ho.out] at ho hcj HNT
  obtain ⟨pl, hpl⟩ : ∃ pl, mp (2 * k + 1) = pl := ⟨_, rfl⟩
  rw [hpl] at hcj hmj
  have HHV : Hid _ := HV.out W1 o
  have HC : Hid (∀ wx, Calls Try.prog 43 #[.int .i64 q, .string d] wx fun e w' => e = .returned (.agg #[.int .i64 q, .string d]) ∧ Below wx.heap.size wx w') := fun wx => claimed_calls wx q d hz3
  cases hv : vget (L.sl k).co m0 with
  | some v =>
    rw [hv] at HR
    simp only at HR
    obtain ⟨v0, v1, v2, v3, v4⟩ := v
    have HLK : Hid (∀ wx, MapAt wx pl (L.sl k).co → (Instr.lookup 61 (.map pl) (.int .i64 m0) true).run Try.prog wx = .ok (.tuple #[.agg #[.int .i64 v0, .string v1, .int .i64 v2, .string v3, .string v4], .bool true]) wx) := by
      intro wx hx; rw [run_look Try.underlying61 Try.underlying3 zeroVote hx m0]; unfold vgetZ; rw [hv]; rfl
    have z5 : W1.cell? ⟨W0.heap.size, 5, none⟩ = some (.string d) := XB.cell rfl
    clear hv HNT HC HI Hr
    by_cases g2 : v1 = d
    · rw [HR.out, if_pos g2]
      subst g2
      go_enter Try.func36, Try.ntmps36
      go_wp2_with fail
      refine hh.mono ?_
      rintro e w1 ⟨rfl, rfl⟩
      go_wp2_with fail
      refine ho.mono ?_
      rintro e w1 ⟨rfl, rfl⟩
      go_wp2_with fail
      go_quiet (first | (go_at_call 33; exact Calls.quiet_of_same (HV.out _ o)))
      go_wp2_with fail
      have HSB : Hid (∀ wx, Below w1.heap.size w1 wx → (fun wx => wx.cell? ⟨p, o + 4, none⟩ = some (.map pl) ∧ wx.cell? ⟨w.heap.size, 0, none⟩ = some (.int .i64 m0) ∧ MapAt wx pl (L.sl k).co) wx) := fun wx hb => ⟨(hb.cell (p := ⟨p, o + 4, none⟩) (World.block_lt_of_cell? _ _ hcj)).trans hcj, (hb.cell (p := ⟨w.heap.size, 0, none⟩) (World.block_lt_of_cell? _ _ y0)).trans y0, MapAt.below (o := pl) hmj hb⟩
      refine wp_region_held_drew (S := (fun wx => wx.cell? ⟨p, o + 4, none⟩ = some (.map pl) ∧ wx.cell? ⟨w.heap.size, 0, none⟩ = some (.int .i64 m0) ∧ MapAt wx pl (L.sl k).co)) (by kernel_rfl) (HSB.out _ (below_dN w1 (nq + 1))) (fun hS => ?_)
      refine wpAnyH_take (i := 0) (v := (.pointer (some ⟨p, o + 4, none⟩))) rfl (by kernel_rfl) (by kernel_rfl) (by kernel_rfl) (fun _ _ _ h => h) (Or.inl ⟨by kernel_rfl, fun w hS => by obtain ⟨s0, s1, s2⟩ := hS; go_simp⟩) hS ?_
      refine wpAnyH_take (i := 1) (v := (.pointer (some ⟨p, o + 4, none⟩))) rfl (by kernel_rfl) (by kernel_rfl) (by kernel_rfl) (fun _ _ _ h => h) (Or.inl ⟨by kernel_rfl, fun w hS => by obtain ⟨s0, s1, s2⟩ := hS; go_simp⟩) hS ?_
      refine wpAnyH_take (i := 2) (v := (.map pl)) rfl (by kernel_rfl) (by kernel_rfl) (by kernel_rfl) (fun _ _ _ h => h) (Or.inl ⟨by kernel_rfl, fun w hS => by obtain ⟨s0, s1, s2⟩ := hS; go_simp⟩) hS ?_
      refine wpAnyH_take (i := 3) (v := (.pointer (some ⟨w.heap.size, 0, none⟩))) rfl (by kernel_rfl) (by kernel_rfl) (by kernel_rfl) (fun _ _ _ h => h) (Or.inl ⟨by kernel_rfl, fun w hS => by obtain ⟨s0, s1, s2⟩ := hS; go_simp⟩) hS ?_
      refine wpAnyH_take (i := 4) (v := (.int .i64 m0)) rfl (by kernel_rfl) (by kernel_rfl) (by kernel_rfl) (fun _ _ _ h => h) (Or.inl ⟨by kernel_rfl, fun w hS => by obtain ⟨s0, s1, s2⟩ := hS; go_simp⟩) hS ?_
      refine wpAnyH_take (i := 5) (v := (.tuple #[(.agg #[.int .i64 v0, .string v1, .int .i64 v2, .string v3, .string v4]), .bool true])) rfl (by kernel_rfl) (by kernel_rfl) (by kernel_rfl) (fun _ _ _ h => h) (Or.inl ⟨by kernel_rfl, fun w hS => by obtain ⟨s0, s1, s2⟩ := hS; have ee := HLK.out _ s2; go_simp⟩) hS ?_
      refine wpAnyH_take (i := 6) (v := (.tuple #[(.agg #[.int .i64 v0, .string v1, .int .i64 v2, .string v3, .string v4]), .bool true])) rfl (by kernel_rfl) (by kernel_rfl) (by kernel_rfl) (fun _ _ _ h => h) (Or.inl ⟨by kernel_rfl, fun w hS => by obtain ⟨s0, s1, s2⟩ := hS; go_simp⟩) hS ?_
      refine wpAnyH_take (i := 7) (v := (.agg #[.int .i64 v0, .string v1, .int .i64 v2, .string v3, .string v4])) rfl (by kernel_rfl) (by kernel_rfl) (by kernel_rfl) (fun _ _ _ h => h) (Or.inl ⟨by kernel_rfl, fun w hS => by obtain ⟨s0, s1, s2⟩ := hS; go_simp⟩) hS ?_
      refine wpAnyH_take (i := 8) (v := (.bool true)) rfl (by kernel_rfl) (by kernel_rfl) (by kernel_rfl) (fun _ _ _ h => h) (Or.inl ⟨by kernel_rfl, fun w hS => by obtain ⟨s0, s1, s2⟩ := hS; go_simp⟩) hS ?_
      refine wpAnyH_ready (rs := [9]) (by kernel_rfl) (by simp) ?_
      refine AllReadyH.cons rfl (fun K hK => ?_) AllReadyH.nil
      go_simp
      obtain ⟨WA, hWA, XA, bA⟩ : ∃ WA, ((w1.drewN (nq + 1)).alloc (.cells #[.int .i64 0, .string ⟨#[]⟩, .int .i64 0, .string ⟨#[]⟩, .string ⟨#[]⟩] 82)) = WA ∧ Blk WA w1.heap.size #[.int .i64 0, .string ⟨#[]⟩, .int .i64 0, .string ⟨#[]⟩, .string ⟨#[]⟩] 82 ∧ Below w1.heap.size w1 WA :=
        ⟨_, rfl, blk_new _ _ _ _ rfl, (below_dN w1 (nq + 1)).alloc (Nat.le_refl _) _⟩
      refine hK.out _ _ (HSB.out _ ((below_dN w1 (nq + 1)).alloc (Nat.le_refl _) _)) (fun hS => ?_)
      clear hK
      refine wpAnyH_ready (rs := [10]) (by kernel_rfl) (by simp) ?_
      refine AllReadyH.cons rfl (fun K hK => ?_) AllReadyH.nil
      refine step_ifV rfl ?_
      refine wp_store_midN (ty := 82) (x := .tmp 9) (y := .tmp 47) w1.heap.size 0 #[.int .i64 v0, .string v1, .int .i64 v2, .string v3, .string v4] (by kernel_rfl) (by kernel_rfl) (there_blk (blk_new _ _ #[.int .i64 0, .string ⟨#[]⟩, .int .i64 0, .string ⟨#[]⟩, .string ⟨#[]⟩] 82 rfl) (by simp)) (by kernel_rfl) (by kernel_rfl) ?_
      obtain ⟨W2, hW2, x1, b2⟩ : ∃ W2, WA.setCells w1.heap.size 0 [.int .i64 v0, .string v1, .int .i64 v2, .string v3, .string v4] = W2 ∧ W2.rangeAt w1.heap.size 0 [.int .i64 v0, .string v1, .int .i64 v2, .string v3, .string v4] ∧ Below w1.heap.size w1 W2 :=
        ⟨_, rfl, World.rangeAt_setCells_same WA w1.heap.size 0 [.int .i64 v0, .string v1, .int .i64 v2, .string v3, .string v4] (there_blk XA (by simp)), bA.trans ⟨(rest_setCells _ _ _ _).1, (rest_setCells _ _ _ _).2.1, (rest_setCells _ _ _ _).2.2, by rw [size_setCells]; exact Nat.le_refl _, fun k hk => heap_setCells_other _ _ _ _ _ (by omega)⟩⟩
      refine hK.out _ _ (by have := HSB.out _ b2; rw [← hW2, ← hWA] at this; exact this) (fun hS => ?_)
      clear hK
      rw [show ((w1.drewN (nq + 1)).alloc (.cells #[.int .i64 0, .string ⟨#[]⟩, .int .i64 0, .string ⟨#[]⟩, .string ⟨#[]⟩] 82)).setCells w1.heap.size 0 #[.int .i64 v0, .string v1, .int .i64 v2, .string v3, .string v4].toList = W2 from by rw [hWA]; exact hW2]
      have HX1 : Hid _ := x1
      clear hWA XA bA hW2 x1
      refine wpAnyH_ready (rs := [11]) (by kernel_rfl) (by simp) ?_
      refine AllReadyH.cons rfl (fun K hK => ?_) AllReadyH.nil
      clear hS hmj hcj HLK
      go_simp
      refine hK.out _ _ (HSB.out _ b2) (fun hS => ?_)
      clear hK hS
      refine wpAnyH_done (by kernel_rfl) ?_ _
      have x1 : W2.cell? ⟨w1.heap.size, 1, none⟩ = some (.string v1) := HX1.out 1 _ rfl
      have z5' : W2.cell? ⟨W0.heap.size, 5, none⟩ = some (.string v1) := (b2.cell (p := ⟨W0.heap.size, 5, none⟩) hzb).trans z5
      have HS2 : Hid (Lg W2 p mp L ∧ Stp p mp w mp W2) := ⟨Lg.below H1.out b2, Stp.of_below (b01.trans (b2.mono b01.size))⟩
      clear H1
      go_wp2
      go_ret
      exact ⟨rfl, mp, HS2.out⟩
    · obtain ⟨f1, f2, f3⟩ := bne_text g2
      rw [HR.out, if_neg g2]
      go_enter Try.func36, Try.ntmps36
      go_wp2_with fail
      refine hh.mono ?_
      rintro e w1 ⟨rfl, rfl⟩
      go_wp2_with fail
      refine ho.mono ?_
      rintro e w1 ⟨rfl, rfl⟩
      go_wp2_with fail
      go_quiet (first | (go_at_call 33; exact Calls.quiet_of_same (HV.out _ o)))
      go_wp2_with fail
      have HSB : Hid (∀ wx, Below w1.heap.size w1 wx → (fun wx => wx.cell? ⟨p, o + 4, none⟩ = some (.map pl) ∧ wx.cell? ⟨w.heap.size, 0, none⟩ = some (.int .i64 m0) ∧ MapAt wx pl (L.sl k).co) wx) := fun wx hb => ⟨(hb.cell (p := ⟨p, o + 4, none⟩) (World.block_lt_of_cell? _ _ hcj)).trans hcj, (hb.cell (p := ⟨w.heap.size, 0, none⟩) (World.block_lt_of_cell? _ _ y0)).trans y0, MapAt.below (o := pl) hmj hb⟩
      refine wp_region_held_drew (S := (fun wx => wx.cell? ⟨p, o + 4, none⟩ = some (.map pl) ∧ wx.cell? ⟨w.heap.size, 0, none⟩ = some (.int .i64 m0) ∧ MapAt wx pl (L.sl k).co)) (by kernel_rfl) (HSB.out _ (below_dN w1 (nq + 1))) (fun hS => ?_)
      refine wpAnyH_take (i := 0) (v := (.pointer (some ⟨p, o + 4, none⟩))) rfl (by kernel_rfl) (by kernel_rfl) (by kernel_rfl) (fun _ _ _ h => h) (Or.inl ⟨by kernel_rfl, fun w hS => by obtain ⟨s0, s1, s2⟩ := hS; go_simp⟩) hS ?_
      refine wpAnyH_take (i := 1) (v := (.pointer (some ⟨p, o + 4, none⟩))) rfl (by kernel_rfl) (by kernel_rfl) (by kernel_rfl) (fun _ _ _ h => h) (Or.inl ⟨by kernel_rfl, fun w hS => by obtain ⟨s0, s1, s2⟩ := hS; go_simp⟩) hS ?_
      refine wpAnyH_take (i := 2) (v := (.map pl)) rfl (by kernel_rfl) (by kernel_rfl) (by kernel_rfl) (fun _ _ _ h => h) (Or.inl ⟨by kernel_rfl, fun w hS => by obtain ⟨s0, s1, s2⟩ := hS; go_simp⟩) hS ?_
      refine wpAnyH_take (i := 3) (v := (.pointer (some ⟨w.heap.size, 0, none⟩))) rfl (by kernel_rfl) (by kernel_rfl) (by kernel_rfl) (fun _ _ _ h => h) (Or.inl ⟨by kernel_rfl, fun w hS => by obtain ⟨s0, s1, s2⟩ := hS; go_simp⟩) hS ?_
      refine wpAnyH_take (i := 4) (v := (.int .i64 m0)) rfl (by kernel_rfl) (by kernel_rfl) (by kernel_rfl) (fun _ _ _ h => h) (Or.inl ⟨by kernel_rfl, fun w hS => by obtain ⟨s0, s1, s2⟩ := hS; go_simp⟩) hS ?_
      refine wpAnyH_take (i := 5) (v := (.tuple #[(.agg #[.int .i64 v0, .string v1, .int .i64 v2, .string v3, .string v4]), .bool true])) rfl (by kernel_rfl) (by kernel_rfl) (by kernel_rfl) (fun _ _ _ h => h) (Or.inl ⟨by kernel_rfl, fun w hS => by obtain ⟨s0, s1, s2⟩ := hS; have ee := HLK.out _ s2; go_simp⟩) hS ?_
      refine wpAnyH_take (i := 6) (v := (.tuple #[(.agg #[.int .i64 v0, .string v1, .int .i64 v2, .string v3, .string v4]), .bool true])) rfl (by kernel_rfl) (by kernel_rfl) (by kernel_rfl) (fun _ _ _ h => h) (Or.inl ⟨by kernel_rfl, fun w hS => by obtain ⟨s0, s1, s2⟩ := hS; go_simp⟩) hS ?_
      refine wpAnyH_take (i := 7) (v := (.agg #[.int .i64 v0, .string v1, .int .i64 v2, .string v3, .string v4])) rfl (by kernel_rfl) (by kernel_rfl) (by kernel_rfl) (fun _ _ _ h => h) (Or.inl ⟨by kernel_rfl, fun w hS => by obtain ⟨s0, s1, s2⟩ := hS; go_simp⟩) hS ?_
      refine wpAnyH_take (i := 8) (v := (.bool true)) rfl (by kernel_rfl) (by kernel_rfl) (by kernel_rfl) (fun _ _ _ h => h) (Or.inl ⟨by kernel_rfl, fun w hS => by obtain ⟨s0, s1, s2⟩ := hS; go_simp⟩) hS ?_
      refine wpAnyH_ready (rs := [9]) (by kernel_rfl) (by simp) ?_
      refine AllReadyH.cons rfl (fun K hK => ?_) AllReadyH.nil
      go_simp
      obtain ⟨WA, hWA, XA, bA⟩ : ∃ WA, ((w1.drewN (nq + 1)).alloc (.cells #[.int .i64 0, .string ⟨#[]⟩, .int .i64 0, .string ⟨#[]⟩, .string ⟨#[]⟩] 82)) = WA ∧ Blk WA w1.heap.size #[.int .i64 0, .string ⟨#[]⟩, .int .i64 0, .string ⟨#[]⟩, .string ⟨#[]⟩] 82 ∧ Below w1.heap.size w1 WA :=
        ⟨_, rfl, blk_new _ _ _ _ rfl, (below_dN w1 (nq + 1)).alloc (Nat.le_refl _) _⟩
      refine hK.out _ _ (HSB.out _ ((below_dN w1 (nq + 1)).alloc (Nat.le_refl _) _)) (fun hS => ?_)
      clear hK
      refine wpAnyH_ready (rs := [10]) (by kernel_rfl) (by simp) ?_
      refine AllReadyH.cons rfl (fun K hK => ?_) AllReadyH.nil
      refine step_ifV rfl ?_
      refine wp_store_midN (ty := 82) (x := .tmp 9) (y := .tmp 47) w1.heap.size 0 #[.int .i64 v0, .string v1, .int .i64 v2, .string v3, .string v4] (by kernel_rfl) (by kernel_rfl) (there_blk (blk_new _ _ #[.int .i64 0, .string ⟨#[]⟩, .int .i64 0, .string ⟨#[]⟩, .string ⟨#[]⟩] 82 rfl) (by simp)) (by kernel_rfl) (by kernel_rfl) ?_
      obtain ⟨W2, hW2, x1, b2⟩ : ∃ W2, WA.setCells w1.heap.size 0 [.int .i64 v0, .string v1, .int .i64 v2, .string v3, .string v4] = W2 ∧ W2.rangeAt w1.heap.size 0 [.int .i64 v0, .string v1, .int .i64 v2, .string v3, .string v4] ∧ Below w1.heap.size w1 W2 :=
        ⟨_, rfl, World.rangeAt_setCells_same WA w1.heap.size 0 [.int .i64 v0, .string v1, .int .i64 v2, .string v3, .string v4] (there_blk XA (by simp)), bA.trans ⟨(rest_setCells _ _ _ _).1, (rest_setCells _ _ _ _).2.1, (rest_setCells _ _ _ _).2.2, by rw [size_setCells]; exact Nat.le_refl _, fun k hk => heap_setCells_other _ _ _ _ _ (by omega)⟩⟩
      refine hK.out _ _ (by have := HSB.out _ b2; rw [← hW2, ← hWA] at this; exact this) (fun hS => ?_)
      clear hK
      rw [show ((w1.drewN (nq + 1)).alloc (.cells #[.int .i64 0, .string ⟨#[]⟩, .int .i64 0, .string ⟨#[]⟩, .string ⟨#[]⟩] 82)).setCells w1.heap.size 0 #[.int .i64 v0, .string v1, .int .i64 v2, .string v3, .string v4].toList = W2 from by rw [hWA]; exact hW2]
      have HX1 : Hid _ := x1
      clear hWA XA bA hW2 x1
      refine wpAnyH_ready (rs := [11]) (by kernel_rfl) (by simp) ?_
      refine AllReadyH.cons rfl (fun K hK => ?_) AllReadyH.nil
      clear hS hmj hcj HLK
      go_simp
      refine hK.out _ _ (HSB.out _ b2) (fun hS => ?_)
      clear hK hS
      refine wpAnyH_done (by kernel_rfl) ?_ _
      have x1 : W2.cell? ⟨w1.heap.size, 1, none⟩ = some (.string v1) := HX1.out 1 _ rfl
      have z5' : W2.cell? ⟨W0.heap.size, 5, none⟩ = some (.string d) := (b2.cell (p := ⟨W0.heap.size, 5, none⟩) hzb).trans z5
      have HS2 : Hid (Lg W2 p mp L ∧ Stp p mp w mp W2) := ⟨Lg.below H1.out b2, Stp.of_below (b01.trans (b2.mono b01.size))⟩
      clear H1
      go_wp2
      go_ret
      exact ⟨rfl, mp, HS2.out⟩
  | none =>
    rw [hv] at HR
    simp only at HR
    rw [HR.out]
    have HLK : Hid (∀ wx, MapAt wx pl (L.sl k).co → (Instr.lookup 61 (.map pl) (.int .i64 m0) true).run Try.prog wx = .ok (.tuple #[.agg #[.int .i64 0, .string ⟨#[]⟩, .int .i64 0, .string ⟨#[]⟩, .string ⟨#[]⟩], .bool false]) wx) := by
      intro wx hx; rw [run_look Try.underlying61 Try.underlying3 zeroVote hx m0]; unfold vgetZ; rw [hv]; rfl
    clear hv Hr
    go_enter Try.func36, Try.ntmps36
    go_wp2_with fail
    refine hh.mono ?_
    rintro e w1 ⟨rfl, rfl⟩
    go_wp2_with fail
    refine ho.mono ?_
    rintro e w1 ⟨rfl, rfl⟩
    go_wp2_with fail
    go_quiet (first | (go_at_call 33; exact Calls.quiet_of_same (HV.out _ o)))
    go_wp2_with fail
    have HSB : Hid (∀ wx, Below w1.heap.size w1 wx → (fun wx => wx.cell? ⟨p, o + 4, none⟩ = some (.map pl) ∧ wx.cell? ⟨w.heap.size, 0, none⟩ = some (.int .i64 m0) ∧ MapAt wx pl (L.sl k).co) wx) := fun wx hb => ⟨(hb.cell (p := ⟨p, o + 4, none⟩) (World.block_lt_of_cell? _ _ hcj)).trans hcj, (hb.cell (p := ⟨w.heap.size, 0, none⟩) (World.block_lt_of_cell? _ _ y0)).trans y0, MapAt.below (o := pl) hmj hb⟩
    refine wp_region_held_drew (S := (fun wx => wx.cell? ⟨p, o + 4, none⟩ = some (.map pl) ∧ wx.cell? ⟨w.heap.size, 0, none⟩ = some (.int .i64 m0) ∧ MapAt wx pl (L.sl k).co)) (by kernel_rfl) (HSB.out _ (below_dN w1 (nq + 1))) (fun hS => ?_)
    refine wpAnyH_take (i := 0) (v := (.pointer (some ⟨p, o + 4, none⟩))) rfl (by kernel_rfl) (by kernel_rfl) (by kernel_rfl) (fun _ _ _ h => h) (Or.inl ⟨by kernel_rfl, fun w hS => by obtain ⟨s0, s1, s2⟩ := hS; go_simp⟩) hS ?_
    refine wpAnyH_take (i := 1) (v := (.pointer (some ⟨p, o + 4, none⟩))) rfl (by kernel_rfl) (by kernel_rfl) (by kernel_rfl) (fun _ _ _ h => h) (Or.inl ⟨by kernel_rfl, fun w hS => by obtain ⟨s0, s1, s2⟩ := hS; go_simp⟩) hS ?_
    refine wpAnyH_take (i := 2) (v := (.map pl)) rfl (by kernel_rfl) (by kernel_rfl) (by kernel_rfl) (fun _ _ _ h => h) (Or.inl ⟨by kernel_rfl, fun w hS => by obtain ⟨s0, s1, s2⟩ := hS; go_simp⟩) hS ?_
    refine wpAnyH_take (i := 3) (v := (.pointer (some ⟨w.heap.size, 0, none⟩))) rfl (by kernel_rfl) (by kernel_rfl) (by kernel_rfl) (fun _ _ _ h => h) (Or.inl ⟨by kernel_rfl, fun w hS => by obtain ⟨s0, s1, s2⟩ := hS; go_simp⟩) hS ?_
    refine wpAnyH_take (i := 4) (v := (.int .i64 m0)) rfl (by kernel_rfl) (by kernel_rfl) (by kernel_rfl) (fun _ _ _ h => h) (Or.inl ⟨by kernel_rfl, fun w hS => by obtain ⟨s0, s1, s2⟩ := hS; go_simp⟩) hS ?_
    refine wpAnyH_take (i := 5) (v := (.tuple #[(.agg #[.int .i64 0, .string ⟨#[]⟩, .int .i64 0, .string ⟨#[]⟩, .string ⟨#[]⟩]), .bool false])) rfl (by kernel_rfl) (by kernel_rfl) (by kernel_rfl) (fun _ _ _ h => h) (Or.inl ⟨by kernel_rfl, fun w hS => by obtain ⟨s0, s1, s2⟩ := hS; have ee := HLK.out _ s2; go_simp⟩) hS ?_
    refine wpAnyH_take (i := 6) (v := (.tuple #[(.agg #[.int .i64 0, .string ⟨#[]⟩, .int .i64 0, .string ⟨#[]⟩, .string ⟨#[]⟩]), .bool false])) rfl (by kernel_rfl) (by kernel_rfl) (by kernel_rfl) (fun _ _ _ h => h) (Or.inl ⟨by kernel_rfl, fun w hS => by obtain ⟨s0, s1, s2⟩ := hS; go_simp⟩) hS ?_
    refine wpAnyH_take (i := 7) (v := (.agg #[.int .i64 0, .string ⟨#[]⟩, .int .i64 0, .string ⟨#[]⟩, .string ⟨#[]⟩])) rfl (by kernel_rfl) (by kernel_rfl) (by kernel_rfl) (fun _ _ _ h => h) (Or.inl ⟨by kernel_rfl, fun w hS => by obtain ⟨s0, s1, s2⟩ := hS; go_simp⟩) hS ?_
    refine wpAnyH_take (i := 8) (v := (.bool false)) rfl (by kernel_rfl) (by kernel_rfl) (by kernel_rfl) (fun _ _ _ h => h) (Or.inl ⟨by kernel_rfl, fun w hS => by obtain ⟨s0, s1, s2⟩ := hS; go_simp⟩) hS ?_
    refine wpAnyH_ready (rs := [9]) (by kernel_rfl) (by simp) ?_
    refine AllReadyH.cons rfl (fun K hK => ?_) AllReadyH.nil
    go_simp
    obtain ⟨WA, hWA, XA, bA⟩ : ∃ WA, ((w1.drewN (nq + 1)).alloc (.cells #[.int .i64 0, .string ⟨#[]⟩, .int .i64 0, .string ⟨#[]⟩, .string ⟨#[]⟩] 82)) = WA ∧ Blk WA w1.heap.size #[.int .i64 0, .string ⟨#[]⟩, .int .i64 0, .string ⟨#[]⟩, .string ⟨#[]⟩] 82 ∧ Below w1.heap.size w1 WA :=
      ⟨_, rfl, blk_new _ _ _ _ rfl, (below_dN w1 (nq + 1)).alloc (Nat.le_refl _) _⟩
    refine hK.out _ _ (HSB.out _ ((below_dN w1 (nq + 1)).alloc (Nat.le_refl _) _)) (fun hS => ?_)
    clear hK
    refine wpAnyH_ready (rs := [10]) (by kernel_rfl) (by simp) ?_
    refine AllReadyH.cons rfl (fun K hK => ?_) AllReadyH.nil
    refine step_ifV rfl ?_
    refine wp_store_midN (ty := 82) (x := .tmp 9) (y := .tmp 47) w1.heap.size 0 #[.int .i64 0, .string ⟨#[]⟩, .int .i64 0, .string ⟨#[]⟩, .string ⟨#[]⟩] (by kernel_rfl) (by kernel_rfl) (there_blk (blk_new _ _ #[.int .i64 0, .string ⟨#[]⟩, .int .i64 0, .string ⟨#[]⟩, .string ⟨#[]⟩] 82 rfl) (by simp)) (by kernel_rfl) (by kernel_rfl) ?_
    obtain ⟨W2, hW2, x1, b2⟩ : ∃ W2, WA.setCells w1.heap.size 0 [.int .i64 0, .string ⟨#[]⟩, .int .i64 0, .string ⟨#[]⟩, .string ⟨#[]⟩] = W2 ∧ W2.rangeAt w1.heap.size 0 [.int .i64 0, .string ⟨#[]⟩, .int .i64 0, .string ⟨#[]⟩, .string ⟨#[]⟩] ∧ Below w1.heap.size w1 W2 :=
      ⟨_, rfl, World.rangeAt_setCells_same WA w1.heap.size 0 [.int .i64 0, .string ⟨#[]⟩, .int .i64 0, .string ⟨#[]⟩, .string ⟨#[]⟩] (there_blk XA (by simp)), bA.trans ⟨(rest_setCells _ _ _ _).1, (rest_setCells _ _ _ _).2.1, (rest_setCells _ _ _ _).2.2, by rw [size_setCells]; exact Nat.le_refl _, fun k hk => heap_setCells_other _ _ _ _ _ (by omega)⟩⟩
    refine hK.out _ _ (by have := HSB.out _ b2; rw [← hW2, ← hWA] at this; exact this) (fun hS => ?_)
    clear hK
    rw [show ((w1.drewN (nq + 1)).alloc (.cells #[.int .i64 0, .string ⟨#[]⟩, .int .i64 0, .string ⟨#[]⟩, .string ⟨#[]⟩] 82)).setCells w1.heap.size 0 #[.int .i64 0, .string ⟨#[]⟩, .int .i64 0, .string ⟨#[]⟩, .string ⟨#[]⟩].toList = W2 from by rw [hWA]; exact hW2]
    have HX1 : Hid _ := x1
    clear hWA XA bA hW2 x1
    refine wpAnyH_ready (rs := [11]) (by kernel_rfl) (by simp) ?_
    refine AllReadyH.cons rfl (fun K hK => ?_) AllReadyH.nil
    clear hS hmj hcj HLK
    go_simp
    refine hK.out _ _ (HSB.out _ b2) (fun hS => ?_)
    clear hK hS
    refine wpAnyH_done (by kernel_rfl) ?_ _
    have XM2 := XM1.below b2
    have XB2 := XB.below b2
    go_wp2_with fail
    refine wp_region_held_drew (S := (fun wx => wx.cell? ⟨w.heap.size, 0, none⟩ = some (.int .i64 m0) ∧ wx.cell? ⟨w.heap.size, 1, none⟩ = some (.string m1) ∧ wx.cell? ⟨w.heap.size, 2, none⟩ = some (.string m2) ∧ wx.cell? ⟨W0.heap.size, 2, none⟩ = some (.int .i64 q) ∧ wx.cell? ⟨W0.heap.size, 5, none⟩ = some (.string d))) (by kernel_rfl) ⟨XM2.drew.cell rfl, XM2.drew.cell rfl, XM2.drew.cell rfl, XB2.drew.cell rfl, XB2.drew.cell rfl⟩ (fun hS => ?_)
    refine wpAnyH_take (i := 0) (v := (.pointer (some ⟨p, o + 4, none⟩))) rfl (by kernel_rfl) (by kernel_rfl) (by kernel_rfl) (fun _ _ _ h => h) (Or.inl ⟨by kernel_rfl, fun w hS => by obtain ⟨s0, s1, s2, s3, s4⟩ := hS; go_simp⟩) hS ?_
    refine wpAnyH_take (i := 1) (v := (.agg #[.int .i64 m0, .string m1, .string m2])) rfl (by kernel_rfl) (by kernel_rfl) (by kernel_rfl) (fun _ _ _ h => h) (Or.inl ⟨by kernel_rfl, fun w hS => by obtain ⟨s0, s1, s2, s3, s4⟩ := hS; go_simp⟩) hS ?_
    refine wpAnyH_take (i := 2) (v := (.pointer (some ⟨W0.heap.size, 2, none⟩))) rfl (by kernel_rfl) (by kernel_rfl) (by kernel_rfl) (fun _ _ _ h => h) (Or.inl ⟨by kernel_rfl, fun w hS => by obtain ⟨s0, s1, s2, s3, s4⟩ := hS; go_simp⟩) hS ?_
    refine wpAnyH_take (i := 3) (v := (.int .i64 q)) rfl (by kernel_rfl) (by kernel_rfl) (by kernel_rfl) (fun _ _ _ h => h) (Or.inl ⟨by kernel_rfl, fun w hS => by obtain ⟨s0, s1, s2, s3, s4⟩ := hS; go_simp⟩) hS ?_
    refine wpAnyH_take (i := 4) (v := (.pointer (some ⟨W0.heap.size, 5, none⟩))) rfl (by kernel_rfl) (by kernel_rfl) (by kernel_rfl) (fun _ _ _ h => h) (Or.inl ⟨by kernel_rfl, fun w hS => by obtain ⟨s0, s1, s2, s3, s4⟩ := hS; go_simp⟩) hS ?_
    refine wpAnyH_take (i := 5) (v := (.string d)) rfl (by kernel_rfl) (by kernel_rfl) (by kernel_rfl) (fun _ _ _ h => h) (Or.inl ⟨by kernel_rfl, fun w hS => by obtain ⟨s0, s1, s2, s3, s4⟩ := hS; go_simp⟩) hS ?_
    refine wpAnyH_ready (rs := [6]) (by kernel_rfl) (by simp) ?_
    refine AllReadyH.cons rfl (fun K hK => ?_) AllReadyH.nil
    go_simp
    refine (HC.out _).mono ?_
    rintro e w3 ⟨rfl, hb3⟩
    have b3 : Below W2.heap.size W2 w3 := (Below.refl _ _).drew.trans hb3
    have X3 := XM2.below b3
    have Y3 := XB2.below b3
    refine hK.out _ _ ⟨X3.cell rfl, X3.cell rfl, X3.cell rfl, Y3.cell rfl, Y3.cell rfl⟩ (fun hS => ?_)
    clear hK hb3
    refine wpAnyH_ready (rs := [7]) (by kernel_rfl) (by simp) ?_
    refine AllReadyH.cons rfl (fun K hK => ?_) AllReadyH.nil
    go_simp
    refine (HNT.out w3 (b2.trans (b3.mono b2.size))).mono ?_
    rintro e w4 ⟨rfl, mp', h4, st4⟩
    have hL3 : Lg w3 p mp L := Lg.below H1.out (b2.trans (b3.mono b2.size))
    have X4 := st4.keep hL3 X3 (by have := Lg.lt H1.out; have := HPL.out; omega)
    have Y4 := st4.keep hL3 Y3 (by have := Lg.lt H1.out; have := HPL.out; omega)
    refine hK.out _ _ ⟨X4.cell rfl, X4.cell rfl, X4.cell rfl, Y4.cell rfl, Y4.cell rfl⟩ (fun hS => ?_)
    clear hK hS hL3 X4 Y4
    refine wpAnyH_done (by kernel_rfl) ?_ _
    have s4 : Stp p mp w mp' w4 := (Stp.of_below (b01.trans ((b2.trans (b3.mono b2.size)).mono b01.size))).trans st4
    have HPr : Hid _ := prove_calls h4 (LInv.setv HI.out (by have := Hk.out; omega) (VOk.put (LInv.co HI.out Hk.out) G0.out.1 G0.out.2 rfl)) Hk.out
    rw [setv_co L Hk.out, set_sl, set_set, Ho.out] at HPr
    have HS4 : Hid _ := s4
    clear h4 s4 st4
    go_wp2_with fail
    refine Calls.mono HPr.out ?_
    rintro e w6 ⟨rfl, h6, s6⟩
    have HR6 : Hid _ := And.intro h6 (Stp.trans HS4.out s6)
    clear h6 s6
    go_wp2
    go_ret
    exact ⟨rfl, mp', HR6.out⟩
end Go.Proofs.Ytjpmnmgnbpecjaa
