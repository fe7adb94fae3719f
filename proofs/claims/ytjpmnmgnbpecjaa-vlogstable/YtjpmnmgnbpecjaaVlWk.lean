/- Check. -/
import Derived.Test.YtjpmnmgnbpecjaaVlWc
namespace Go.Proofs.Ytjpmnmgnbpecjaa
open Go.Shelf Go.RowKit Go.Lib Go.Sort
open Go.ChangeMaps (setBlock)
set_option linter.unusedSimpArgs false
set_option linter.unusedVariables false
variable {w : World} {p : Nat} {mp : Nat → Option Nat} {L : Lv}
theorem last_seq (l : Vts) (k : Int) : lastSeq l k = (vgetZ l k).1 ∧ lastDig l k = (vgetZ l k).2.1 := by
  unfold lastSeq lastDig vgetZ
  cases vget l k <;> exact ⟨rfl, rfl⟩
set_option maxHeartbeats 16000000 in
set_option maxRecDepth 100000 in
theorem check_calls (h : Lg w p mp L) (hi : LInv L) (m0 : Int) (m1 m2 : ByteArray) (q : Int) (d : ByteArray) (hz1 : m1.size ≤ 281474976710656) (hz2 : m2.size ≤ 281474976710656) (hz3 : d.size ≤ 281474976710656) :
    Calls Try.prog 39 #[.pointer (some ⟨p, 0, none⟩), .agg #[.int .i64 m0, .string m1, .string m2], .agg #[.int .i64 5, .int .i64 0, .int .i64 q, .int .i64 0, .int .i64 0, .string d, .string ⟨#[]⟩, .slice none 0 0]] w (Done w p mp (L.check (m0, m1, m2) 5 q d)) := by
  obtain ⟨W0, hW0, XM, B0, Z0⟩ : ∃ W0, (w.alloc (.cells #[.int .i64 m0, .string m1, .string m2] 38)) = W0 ∧ Blk W0 w.heap.size #[.int .i64 m0, .string m1, .string m2] 38 ∧ Below w.heap.size w W0 ∧ W0.heap.size = w.heap.size + 1 :=
    ⟨_, rfl, blk_new _ _ _ _ rfl, by go_grown, by simp⟩
  obtain ⟨W1, hW1, XB, B1, Z1⟩ : ∃ W1, (W0.alloc (.cells #[.int .i64 5, .int .i64 0, .int .i64 q, .int .i64 0, .int .i64 0, .string d, .string ⟨#[]⟩, .slice none 0 0] 34)) = W1 ∧ Blk W1 W0.heap.size #[.int .i64 5, .int .i64 0, .int .i64 q, .int .i64 0, .int .i64 0, .string d, .string ⟨#[]⟩, .slice none 0 0] 34 ∧ Below W0.heap.size W0 W1 ∧ W1.heap.size = W0.heap.size + 1 :=
    ⟨_, rfl, blk_new _ _ _ _ rfl, by go_grown, by simp⟩
  have b01 : Below w.heap.size w W1 := B0.trans (B1.mono (by omega))
  have XM1 := XM.below B1
  have hza : w.heap.size < W0.heap.size := by omega
  have hzb : W0.heap.size < W1.heap.size := by omega
  have HZ0 : Hid _ := Z0
  have HZ1 : Hid _ := Z1
  clear Z0 Z1
  have y0 : W1.cell? ⟨w.heap.size, 0, none⟩ = some (.int .i64 m0) := XM1.cell rfl
  have z0 : W1.cell? ⟨W0.heap.size, 0, none⟩ = some (.int .i64 5) := XB.cell rfl
  have z2 : W1.cell? ⟨W0.heap.size, 2, none⟩ = some (.int .i64 q) := XB.cell rfl
  have h1 := h.below b01
  have c2 := h1.c2
  have HPL : Hid (p < w.heap.size) := h.lt
  have hh := has_calls h1 hi m0
  have HS : Hid (Lg W1 p mp L ∧ Stp p mp w mp W1) := ⟨h1, Stp.of_below b01⟩
  by_cases g0 : 0 ≤ m0 ∧ m0 < L.n
  rotate_left
  · have hR : L.check (m0, m1, m2) 5 q d = (L, 1) := by unfold Lv.check; rw [if_pos (Or.inl g0)]
    rw [hR]
    have hb : (decide (0 ≤ m0) && decide (m0 < (L.n : Int))) = false := by
      by_cases e : 0 ≤ m0
      · have : ¬ m0 < (L.n : Int) := fun e2 => g0 ⟨e, e2⟩
        simp [this]
      · simp [e]
    rw [hb] at hh
    clear hR hb g0 h1 h hi
    go_enter Try.func39, Try.ntmps39
    go_wp2_with fail
    refine hh.mono ?_
    rintro e w1 ⟨rfl, hw1⟩
    obtain rfl := hw1.symm
    go_wp2
    go_ret
    exact ⟨rfl, mp, HS.out⟩
  have hb : (decide (0 ≤ m0) && decide (m0 < (L.n : Int))) = true := by simp [g0.1, g0.2]
  rw [hb] at hh
  have hR0 : L.check (m0, m1, m2) 5 q d = if q ≤ L.lo then (L, 100) else if lastSeq L.ck m0 = q ∧ lastDig L.ck m0 ≠ d then (L, 102) else if q ≤ lastSeq L.ck m0 then (L, 101) else ({ L with ck := vput L.ck m0 (q, d, (m0, m1, m2)) }, 0) := by
    unfold Lv.check
    rw [if_neg (by rintro (e | e); · exact e g0
                   · exact absurd rfl e)]
  by_cases g1 : q ≤ L.lo
  · rw [hR0, if_pos g1]
    have d1 : decide (q ≤ L.lo) = true := decide_eq_true g1
    have HSd : Hid (∀ n, Lg (W1.drewN n) p mp L ∧ Stp p mp w mp (W1.drewN n)) := fun n => ⟨h1.below (below_dN W1 n), Stp.of_below (b01.trans ((below_dN W1 n).mono b01.size))⟩
    clear hR0 hb g0 h1 h hi
    go_enter Try.func39, Try.ntmps39
    go_wp2_with fail
    refine hh.mono ?_
    rintro e w1 ⟨rfl, hw1⟩
    obtain rfl := hw1.symm
    go_wp2_with fail
    go_quiet (fail)
    go_wp2
    go_ret
    exact ⟨rfl, mp, HSd.out _⟩
  have d1 : decide (q ≤ L.lo) = false := decide_eq_false g1
  rw [hR0, if_neg g1, (last_seq _ _).1, (last_seq _ _).2]
  have hcj : W1.cell? ⟨p, 107, none⟩ = some (.map (mp 16)) := h1.cl
  have hmj : MapAt W1 (mp 16) L.ck := h1.mck
  have HNT : Hid (∀ wx, Below W1.heap.size W1 wx → _) := fun wx (hb : Below W1.heap.size W1 wx) => note_calls (w := wx) (p := p) (mp := mp) (L := L) (h1.below hb) (j := 16) (by decide) m0 m1 m2 q d hz1 hz2
  have HC : Hid (∀ wx, Calls Try.prog 43 #[.int .i64 q, .string d] wx fun e w' => e = .returned (.agg #[.int .i64 q, .string d]) ∧ Below wx.heap.size wx w') := fun wx => claimed_calls wx q d hz3
  have H1 : Hid (Lg W1 p mp L) := h1
  obtain ⟨pl, hpl⟩ : ∃ pl, mp 16 = pl := ⟨_, rfl⟩
  rw [hpl] at hcj hmj
  have HLK0 : Hid (∀ wx, MapAt wx pl L.ck → (Instr.lookup 61 (.map pl) (.int .i64 m0) false).run Try.prog wx = .ok (.agg (vC (vgetZ L.ck m0)).toArray) wx) := fun wx hx => run_look1 Try.underlying61 Try.underlying3 zeroVote hx m0
  obtain ⟨vv, hvv⟩ : ∃ vv, vgetZ L.ck m0 = vv := ⟨_, rfl⟩
  rw [hvv] at HLK0 ⊢
  obtain ⟨v0, v1, v2, v3, v4⟩ := vv
  have HLK : Hid (∀ wx, MapAt wx pl L.ck → (Instr.lookup 61 (.map pl) (.int .i64 m0) false).run Try.prog wx = .ok (.agg #[.int .i64 v0, .string v1, .int .i64 v2, .string v3, .string v4]) wx) := HLK0.out
  clear HLK0 hvv hR0 hb g0 h1 h hi g1 HS hpl
  simp only
  by_cases g2 : v0 = q
  · by_cases g3 : v1 = d
    · rw [if_neg (fun e => e.2 g3), if_pos (by omega)]
      subst g2 g3
      go_enter Try.func39, Try.ntmps39
      go_wp2_with fail
      refine hh.mono ?_
      rintro e w1 ⟨rfl, hw1⟩
      obtain rfl := hw1.symm
      go_wp2_with fail
      go_quiet (fail)
      go_wp2_with fail
      have HSB : Hid (∀ wx, Below W1.heap.size W1 wx → (fun wx => wx.cell? ⟨p, 107, none⟩ = some (.map pl) ∧ wx.cell? ⟨w.heap.size, 0, none⟩ = some (.int .i64 m0) ∧ MapAt wx pl L.ck) wx) := fun wx hb => ⟨(hb.cell (p := ⟨p, 107, none⟩) (World.block_lt_of_cell? _ _ hcj)).trans hcj, (hb.cell (p := ⟨w.heap.size, 0, none⟩) (World.block_lt_of_cell? _ _ y0)).trans y0, MapAt.below (o := pl) hmj hb⟩
      refine wp_region_held_drew (S := (fun wx => wx.cell? ⟨p, 107, none⟩ = some (.map pl) ∧ wx.cell? ⟨w.heap.size, 0, none⟩ = some (.int .i64 m0) ∧ MapAt wx pl L.ck)) (by kernel_rfl) (HSB.out _ (below_dN W1 (nq + 1))) (fun hS => ?_)
      refine wpAnyH_take (i := 0) (v := (.pointer (some ⟨p, 0, none⟩))) rfl (by kernel_rfl) (by kernel_rfl) (by kernel_rfl) (fun _ _ _ h => h) (Or.inl ⟨by kernel_rfl, fun w hS => by obtain ⟨s0, s1, s2⟩ := hS; go_simp⟩) hS ?_
      refine wpAnyH_take (i := 1) (v := (.pointer (some ⟨p, 0, none⟩))) rfl (by kernel_rfl) (by kernel_rfl) (by kernel_rfl) (fun _ _ _ h => h) (Or.inl ⟨by kernel_rfl, fun w hS => by obtain ⟨s0, s1, s2⟩ := hS; go_simp⟩) hS ?_
      refine wpAnyH_take (i := 2) (v := (.pointer (some ⟨p, 107, none⟩))) rfl (by kernel_rfl) (by kernel_rfl) (by kernel_rfl) (fun _ _ _ h => h) (Or.inl ⟨by kernel_rfl, fun w hS => by obtain ⟨s0, s1, s2⟩ := hS; go_simp⟩) hS ?_
      refine wpAnyH_take (i := 3) (v := (.map pl)) rfl (by kernel_rfl) (by kernel_rfl) (by kernel_rfl) (fun _ _ _ h => h) (Or.inl ⟨by kernel_rfl, fun w hS => by obtain ⟨s0, s1, s2⟩ := hS; go_simp⟩) hS ?_
      refine wpAnyH_take (i := 4) (v := (.pointer (some ⟨w.heap.size, 0, none⟩))) rfl (by kernel_rfl) (by kernel_rfl) (by kernel_rfl) (fun _ _ _ h => h) (Or.inl ⟨by kernel_rfl, fun w hS => by obtain ⟨s0, s1, s2⟩ := hS; go_simp⟩) hS ?_
      refine wpAnyH_take (i := 5) (v := (.int .i64 m0)) rfl (by kernel_rfl) (by kernel_rfl) (by kernel_rfl) (fun _ _ _ h => h) (Or.inl ⟨by kernel_rfl, fun w hS => by obtain ⟨s0, s1, s2⟩ := hS; go_simp⟩) hS ?_
      refine wpAnyH_take (i := 6) (v := (.agg #[.int .i64 v0, .string v1, .int .i64 v2, .string v3, .string v4])) rfl (by kernel_rfl) (by kernel_rfl) (by kernel_rfl) (fun _ _ _ h => h) (Or.inl ⟨by kernel_rfl, fun w hS => by obtain ⟨s0, s1, s2⟩ := hS; have ee := HLK.out _ s2; go_simp⟩) hS ?_
      refine wpAnyH_ready (rs := [7]) (by kernel_rfl) (by simp) ?_
      refine AllReadyH.cons rfl (fun K hK => ?_) AllReadyH.nil
      go_simp
      obtain ⟨WA, hWA, XA, bA⟩ : ∃ WA, ((W1.drewN (nq + 1)).alloc (.cells #[.int .i64 0, .string ⟨#[]⟩, .int .i64 0, .string ⟨#[]⟩, .string ⟨#[]⟩] 82)) = WA ∧ Blk WA W1.heap.size #[.int .i64 0, .string ⟨#[]⟩, .int .i64 0, .string ⟨#[]⟩, .string ⟨#[]⟩] 82 ∧ Below W1.heap.size W1 WA :=
        ⟨_, rfl, blk_new _ _ _ _ rfl, (below_dN W1 (nq + 1)).alloc (Nat.le_refl _) _⟩
      refine hK.out _ _ (HSB.out _ ((below_dN W1 (nq + 1)).alloc (Nat.le_refl _) _)) (fun hS => ?_)
      clear hK
      refine wpAnyH_ready (rs := [8]) (by kernel_rfl) (by simp) ?_
      refine AllReadyH.cons rfl (fun K hK => ?_) AllReadyH.nil
      refine step_ifV rfl ?_
      refine wp_store_midN (ty := 82) (x := .tmp 7) (y := .tmp 32) W1.heap.size 0 #[.int .i64 v0, .string v1, .int .i64 v2, .string v3, .string v4] (by kernel_rfl) (by kernel_rfl) (there_blk (blk_new _ _ #[.int .i64 0, .string ⟨#[]⟩, .int .i64 0, .string ⟨#[]⟩, .string ⟨#[]⟩] 82 rfl) (by simp)) (by kernel_rfl) (by kernel_rfl) ?_
      obtain ⟨W2, hW2, x1, b2⟩ : ∃ W2, WA.setCells W1.heap.size 0 [.int .i64 v0, .string v1, .int .i64 v2, .string v3, .string v4] = W2 ∧ W2.rangeAt W1.heap.size 0 [.int .i64 v0, .string v1, .int .i64 v2, .string v3, .string v4] ∧ Below W1.heap.size W1 W2 :=
        ⟨_, rfl, World.rangeAt_setCells_same WA W1.heap.size 0 [.int .i64 v0, .string v1, .int .i64 v2, .string v3, .string v4] (there_blk XA (by simp)), bA.trans ⟨(rest_setCells _ _ _ _).1, (rest_setCells _ _ _ _).2.1, (rest_setCells _ _ _ _).2.2, by rw [size_setCells]; exact Nat.le_refl _, fun k hk => heap_setCells_other _ _ _ _ _ (by omega)⟩⟩
      refine hK.out _ _ (by have := HSB.out _ b2; rw [← hW2, ← hWA] at this; exact this) (fun hS => ?_)
      clear hK hS hmj hcj HLK HSB
      refine wpAnyH_done (by kernel_rfl) ?_ _
      rw [show ((W1.drewN (nq + 1)).alloc (.cells #[.int .i64 0, .string ⟨#[]⟩, .int .i64 0, .string ⟨#[]⟩, .string ⟨#[]⟩] 82)).setCells W1.heap.size 0 #[.int .i64 v0, .string v1, .int .i64 v2, .string v3, .string v4].toList = W2 from by rw [hWA]; exact hW2]
      have u0 : W2.cell? ⟨W1.heap.size, 0, none⟩ = some (.int .i64 v0) := x1 0 _ rfl
      have u1 : W2.cell? ⟨W1.heap.size, 1, none⟩ = some (.string v1) := x1 1 _ rfl
      have XB2 := XB.below b2
      have XM2 := XM1.below b2
      have t2 : W2.cell? ⟨W0.heap.size, 2, none⟩ = some (.int .i64 v0) := XB2.cell rfl
      have t5 : W2.cell? ⟨W0.heap.size, 5, none⟩ = some (.string v1) := XB2.cell rfl
      have HS2 : Hid (Lg W2 p mp L ∧ Stp p mp w mp W2) := ⟨Lg.below H1.out b2, Stp.of_below (b01.trans (b2.mono b01.size))⟩
      have HXB2 : Hid _ := XB2
      have HXM2 : Hid _ := XM2
      clear hWA XA bA hW2 x1 XB2 XM2
      go_simp
      go_wp2
      go_ret
      exact ⟨rfl, mp, HS2.out⟩
    · rw [if_pos ⟨g2, g3⟩]
      obtain ⟨f1, f2, f3⟩ := bne_text g3
      subst g2
      go_enter Try.func39, Try.ntmps39
      go_wp2_with fail
      refine hh.mono ?_
      rintro e w1 ⟨rfl, hw1⟩
      obtain rfl := hw1.symm
      go_wp2_with fail
      go_quiet (fail)
      go_wp2_with fail
      have HSB : Hid (∀ wx, Below W1.heap.size W1 wx → (fun wx => wx.cell? ⟨p, 107, none⟩ = some (.map pl) ∧ wx.cell? ⟨w.heap.size, 0, none⟩ = some (.int .i64 m0) ∧ MapAt wx pl L.ck) wx) := fun wx hb => ⟨(hb.cell (p := ⟨p, 107, none⟩) (World.block_lt_of_cell? _ _ hcj)).trans hcj, (hb.cell (p := ⟨w.heap.size, 0, none⟩) (World.block_lt_of_cell? _ _ y0)).trans y0, MapAt.below (o := pl) hmj hb⟩
      refine wp_region_held_drew (S := (fun wx => wx.cell? ⟨p, 107, none⟩ = some (.map pl) ∧ wx.cell? ⟨w.heap.size, 0, none⟩ = some (.int .i64 m0) ∧ MapAt wx pl L.ck)) (by kernel_rfl) (HSB.out _ (below_dN W1 (nq + 1))) (fun hS => ?_)
      refine wpAnyH_take (i := 0) (v := (.pointer (some ⟨p, 0, none⟩))) rfl (by kernel_rfl) (by kernel_rfl) (by kernel_rfl) (fun _ _ _ h => h) (Or.inl ⟨by kernel_rfl, fun w hS => by obtain ⟨s0, s1, s2⟩ := hS; go_simp⟩) hS ?_
      refine wpAnyH_take (i := 1) (v := (.pointer (some ⟨p, 0, none⟩))) rfl (by kernel_rfl) (by kernel_rfl) (by kernel_rfl) (fun _ _ _ h => h) (Or.inl ⟨by kernel_rfl, fun w hS => by obtain ⟨s0, s1, s2⟩ := hS; go_simp⟩) hS ?_
      refine wpAnyH_take (i := 2) (v := (.pointer (some ⟨p, 107, none⟩))) rfl (by kernel_rfl) (by kernel_rfl) (by kernel_rfl) (fun _ _ _ h => h) (Or.inl ⟨by kernel_rfl, fun w hS => by obtain ⟨s0, s1, s2⟩ := hS; go_simp⟩) hS ?_
      refine wpAnyH_take (i := 3) (v := (.map pl)) rfl (by kernel_rfl) (by kernel_rfl) (by kernel_rfl) (fun _ _ _ h => h) (Or.inl ⟨by kernel_rfl, fun w hS => by obtain ⟨s0, s1, s2⟩ := hS; go_simp⟩) hS ?_
      refine wpAnyH_take (i := 4) (v := (.pointer (some ⟨w.heap.size, 0, none⟩))) rfl (by kernel_rfl) (by kernel_rfl) (by kernel_rfl) (fun _ _ _ h => h) (Or.inl ⟨by kernel_rfl, fun w hS => by obtain ⟨s0, s1, s2⟩ := hS; go_simp⟩) hS ?_
      refine wpAnyH_take (i := 5) (v := (.int .i64 m0)) rfl (by kernel_rfl) (by kernel_rfl) (by kernel_rfl) (fun _ _ _ h => h) (Or.inl ⟨by kernel_rfl, fun w hS => by obtain ⟨s0, s1, s2⟩ := hS; go_simp⟩) hS ?_
      refine wpAnyH_take (i := 6) (v := (.agg #[.int .i64 v0, .string v1, .int .i64 v2, .string v3, .string v4])) rfl (by kernel_rfl) (by kernel_rfl) (by kernel_rfl) (fun _ _ _ h => h) (Or.inl ⟨by kernel_rfl, fun w hS => by obtain ⟨s0, s1, s2⟩ := hS; have ee := HLK.out _ s2; go_simp⟩) hS ?_
      refine wpAnyH_ready (rs := [7]) (by kernel_rfl) (by simp) ?_
      refine AllReadyH.cons rfl (fun K hK => ?_) AllReadyH.nil
      go_simp
      obtain ⟨WA, hWA, XA, bA⟩ : ∃ WA, ((W1.drewN (nq + 1)).alloc (.cells #[.int .i64 0, .string ⟨#[]⟩, .int .i64 0, .string ⟨#[]⟩, .string ⟨#[]⟩] 82)) = WA ∧ Blk WA W1.heap.size #[.int .i64 0, .string ⟨#[]⟩, .int .i64 0, .string ⟨#[]⟩, .string ⟨#[]⟩] 82 ∧ Below W1.heap.size W1 WA :=
        ⟨_, rfl, blk_new _ _ _ _ rfl, (below_dN W1 (nq + 1)).alloc (Nat.le_refl _) _⟩
      refine hK.out _ _ (HSB.out _ ((below_dN W1 (nq + 1)).alloc (Nat.le_refl _) _)) (fun hS => ?_)
      clear hK
      refine wpAnyH_ready (rs := [8]) (by kernel_rfl) (by simp) ?_
      refine AllReadyH.cons rfl (fun K hK => ?_) AllReadyH.nil
      refine step_ifV rfl ?_
      refine wp_store_midN (ty := 82) (x := .tmp 7) (y := .tmp 32) W1.heap.size 0 #[.int .i64 v0, .string v1, .int .i64 v2, .string v3, .string v4] (by kernel_rfl) (by kernel_rfl) (there_blk (blk_new _ _ #[.int .i64 0, .string ⟨#[]⟩, .int .i64 0, .string ⟨#[]⟩, .string ⟨#[]⟩] 82 rfl) (by simp)) (by kernel_rfl) (by kernel_rfl) ?_
      obtain ⟨W2, hW2, x1, b2⟩ : ∃ W2, WA.setCells W1.heap.size 0 [.int .i64 v0, .string v1, .int .i64 v2, .string v3, .string v4] = W2 ∧ W2.rangeAt W1.heap.size 0 [.int .i64 v0, .string v1, .int .i64 v2, .string v3, .string v4] ∧ Below W1.heap.size W1 W2 :=
        ⟨_, rfl, World.rangeAt_setCells_same WA W1.heap.size 0 [.int .i64 v0, .string v1, .int .i64 v2, .string v3, .string v4] (there_blk XA (by simp)), bA.trans ⟨(rest_setCells _ _ _ _).1, (rest_setCells _ _ _ _).2.1, (rest_setCells _ _ _ _).2.2, by rw [size_setCells]; exact Nat.le_refl _, fun k hk => heap_setCells_other _ _ _ _ _ (by omega)⟩⟩
      refine hK.out _ _ (by have := HSB.out _ b2; rw [← hW2, ← hWA] at this; exact this) (fun hS => ?_)
      clear hK hS hmj hcj HLK HSB
      refine wpAnyH_done (by kernel_rfl) ?_ _
      rw [show ((W1.drewN (nq + 1)).alloc (.cells #[.int .i64 0, .string ⟨#[]⟩, .int .i64 0, .string ⟨#[]⟩, .string ⟨#[]⟩] 82)).setCells W1.heap.size 0 #[.int .i64 v0, .string v1, .int .i64 v2, .string v3, .string v4].toList = W2 from by rw [hWA]; exact hW2]
      have u0 : W2.cell? ⟨W1.heap.size, 0, none⟩ = some (.int .i64 v0) := x1 0 _ rfl
      have u1 : W2.cell? ⟨W1.heap.size, 1, none⟩ = some (.string v1) := x1 1 _ rfl
      have XB2 := XB.below b2
      have XM2 := XM1.below b2
      have t2 : W2.cell? ⟨W0.heap.size, 2, none⟩ = some (.int .i64 v0) := XB2.cell rfl
      have t5 : W2.cell? ⟨W0.heap.size, 5, none⟩ = some (.string d) := XB2.cell rfl
      have HS2 : Hid (Lg W2 p mp L ∧ Stp p mp w mp W2) := ⟨Lg.below H1.out b2, Stp.of_below (b01.trans (b2.mono b01.size))⟩
      have HXB2 : Hid _ := XB2
      have HXM2 : Hid _ := XM2
      clear hWA XA bA hW2 x1 XB2 XM2
      go_simp
      go_wp2
      go_ret
      exact ⟨rfl, mp, HS2.out⟩
  · rw [if_neg (fun e => g2 e.1)]
    have e1 : (v0 == q) = false := by simp [g2]
    have e2 : decide (v0 = q) = false := decide_eq_false g2
    by_cases g4 : q ≤ v0
    · rw [if_pos g4]
      have e3 : decide (q ≤ v0) = true := decide_eq_true g4
      go_enter Try.func39, Try.ntmps39
      go_wp2_with fail
      refine hh.mono ?_
      rintro e w1 ⟨rfl, hw1⟩
      obtain rfl := hw1.symm
      go_wp2_with fail
      go_quiet (fail)
      go_wp2_with fail
      have HSB : Hid (∀ wx, Below W1.heap.size W1 wx → (fun wx => wx.cell? ⟨p, 107, none⟩ = some (.map pl) ∧ wx.cell? ⟨w.heap.size, 0, none⟩ = some (.int .i64 m0) ∧ MapAt wx pl L.ck) wx) := fun wx hb => ⟨(hb.cell (p := ⟨p, 107, none⟩) (World.block_lt_of_cell? _ _ hcj)).trans hcj, (hb.cell (p := ⟨w.heap.size, 0, none⟩) (World.block_lt_of_cell? _ _ y0)).trans y0, MapAt.below (o := pl) hmj hb⟩
      refine wp_region_held_drew (S := (fun wx => wx.cell? ⟨p, 107, none⟩ = some (.map pl) ∧ wx.cell? ⟨w.heap.size, 0, none⟩ = some (.int .i64 m0) ∧ MapAt wx pl L.ck)) (by kernel_rfl) (HSB.out _ (below_dN W1 (nq + 1))) (fun hS => ?_)
      refine wpAnyH_take (i := 0) (v := (.pointer (some ⟨p, 0, none⟩))) rfl (by kernel_rfl) (by kernel_rfl) (by kernel_rfl) (fun _ _ _ h => h) (Or.inl ⟨by kernel_rfl, fun w hS => by obtain ⟨s0, s1, s2⟩ := hS; go_simp⟩) hS ?_
      refine wpAnyH_take (i := 1) (v := (.pointer (some ⟨p, 0, none⟩))) rfl (by kernel_rfl) (by kernel_rfl) (by kernel_rfl) (fun _ _ _ h => h) (Or.inl ⟨by kernel_rfl, fun w hS => by obtain ⟨s0, s1, s2⟩ := hS; go_simp⟩) hS ?_
      refine wpAnyH_take (i := 2) (v := (.pointer (some ⟨p, 107, none⟩))) rfl (by kernel_rfl) (by kernel_rfl) (by kernel_rfl) (fun _ _ _ h => h) (Or.inl ⟨by kernel_rfl, fun w hS => by obtain ⟨s0, s1, s2⟩ := hS; go_simp⟩) hS ?_
      refine wpAnyH_take (i := 3) (v := (.map pl)) rfl (by kernel_rfl) (by kernel_rfl) (by kernel_rfl) (fun _ _ _ h => h) (Or.inl ⟨by kernel_rfl, fun w hS => by obtain ⟨s0, s1, s2⟩ := hS; go_simp⟩) hS ?_
      refine wpAnyH_take (i := 4) (v := (.pointer (some ⟨w.heap.size, 0, none⟩))) rfl (by kernel_rfl) (by kernel_rfl) (by kernel_rfl) (fun _ _ _ h => h) (Or.inl ⟨by kernel_rfl, fun w hS => by obtain ⟨s0, s1, s2⟩ := hS; go_simp⟩) hS ?_
      refine wpAnyH_take (i := 5) (v := (.int .i64 m0)) rfl (by kernel_rfl) (by kernel_rfl) (by kernel_rfl) (fun _ _ _ h => h) (Or.inl ⟨by kernel_rfl, fun w hS => by obtain ⟨s0, s1, s2⟩ := hS; go_simp⟩) hS ?_
      refine wpAnyH_take (i := 6) (v := (.agg #[.int .i64 v0, .string v1, .int .i64 v2, .string v3, .string v4])) rfl (by kernel_rfl) (by kernel_rfl) (by kernel_rfl) (fun _ _ _ h => h) (Or.inl ⟨by kernel_rfl, fun w hS => by obtain ⟨s0, s1, s2⟩ := hS; have ee := HLK.out _ s2; go_simp⟩) hS ?_
      refine wpAnyH_ready (rs := [7]) (by kernel_rfl) (by simp) ?_
      refine AllReadyH.cons rfl (fun K hK => ?_) AllReadyH.nil
      go_simp
      obtain ⟨WA, hWA, XA, bA⟩ : ∃ WA, ((W1.drewN (nq + 1)).alloc (.cells #[.int .i64 0, .string ⟨#[]⟩, .int .i64 0, .string ⟨#[]⟩, .string ⟨#[]⟩] 82)) = WA ∧ Blk WA W1.heap.size #[.int .i64 0, .string ⟨#[]⟩, .int .i64 0, .string ⟨#[]⟩, .string ⟨#[]⟩] 82 ∧ Below W1.heap.size W1 WA :=
        ⟨_, rfl, blk_new _ _ _ _ rfl, (below_dN W1 (nq + 1)).alloc (Nat.le_refl _) _⟩
      refine hK.out _ _ (HSB.out _ ((below_dN W1 (nq + 1)).alloc (Nat.le_refl _) _)) (fun hS => ?_)
      clear hK
      refine wpAnyH_ready (rs := [8]) (by kernel_rfl) (by simp) ?_
      refine AllReadyH.cons rfl (fun K hK => ?_) AllReadyH.nil
      refine step_ifV rfl ?_
      refine wp_store_midN (ty := 82) (x := .tmp 7) (y := .tmp 32) W1.heap.size 0 #[.int .i64 v0, .string v1, .int .i64 v2, .string v3, .string v4] (by kernel_rfl) (by kernel_rfl) (there_blk (blk_new _ _ #[.int .i64 0, .string ⟨#[]⟩, .int .i64 0, .string ⟨#[]⟩, .string ⟨#[]⟩] 82 rfl) (by simp)) (by kernel_rfl) (by kernel_rfl) ?_
      obtain ⟨W2, hW2, x1, b2⟩ : ∃ W2, WA.setCells W1.heap.size 0 [.int .i64 v0, .string v1, .int .i64 v2, .string v3, .string v4] = W2 ∧ W2.rangeAt W1.heap.size 0 [.int .i64 v0, .string v1, .int .i64 v2, .string v3, .string v4] ∧ Below W1.heap.size W1 W2 :=
        ⟨_, rfl, World.rangeAt_setCells_same WA W1.heap.size 0 [.int .i64 v0, .string v1, .int .i64 v2, .string v3, .string v4] (there_blk XA (by simp)), bA.trans ⟨(rest_setCells _ _ _ _).1, (rest_setCells _ _ _ _).2.1, (rest_setCells _ _ _ _).2.2, by rw [size_setCells]; exact Nat.le_refl _, fun k hk => heap_setCells_other _ _ _ _ _ (by omega)⟩⟩
      refine hK.out _ _ (by have := HSB.out _ b2; rw [← hW2, ← hWA] at this; exact this) (fun hS => ?_)
      clear hK hS hmj hcj HLK HSB
      refine wpAnyH_done (by kernel_rfl) ?_ _
      rw [show ((W1.drewN (nq + 1)).alloc (.cells #[.int .i64 0, .string ⟨#[]⟩, .int .i64 0, .string ⟨#[]⟩, .string ⟨#[]⟩] 82)).setCells W1.heap.size 0 #[.int .i64 v0, .string v1, .int .i64 v2, .string v3, .string v4].toList = W2 from by rw [hWA]; exact hW2]
      have u0 : W2.cell? ⟨W1.heap.size, 0, none⟩ = some (.int .i64 v0) := x1 0 _ rfl
      have u1 : W2.cell? ⟨W1.heap.size, 1, none⟩ = some (.string v1) := x1 1 _ rfl
      have XB2 := XB.below b2
      have XM2 := XM1.below b2
      have t2 : W2.cell? ⟨W0.heap.size, 2, none⟩ = some (.int .i64 q) := XB2.cell rfl
      have t5 : W2.cell? ⟨W0.heap.size, 5, none⟩ = some (.string d) := XB2.cell rfl
      have HS2 : Hid (Lg W2 p mp L ∧ Stp p mp w mp W2) := ⟨Lg.below H1.out b2, Stp.of_below (b01.trans (b2.mono b01.size))⟩
      have HXB2 : Hid _ := XB2
      have HXM2 : Hid _ := XM2
      clear hWA XA bA hW2 x1 XB2 XM2
      go_simp
      go_wp2
      go_ret
      exact ⟨rfl, mp, HS2.out⟩
    · rw [if_neg g4]
      have e3 : decide (q ≤ v0) = false := decide_eq_false g4
      go_enter Try.func39, Try.ntmps39
      go_wp2_with fail
      refine hh.mono ?_
      rintro e w1 ⟨rfl, hw1⟩
      obtain rfl := hw1.symm
      go_wp2_with fail
      go_quiet (fail)
      go_wp2_with fail
      have HSB : Hid (∀ wx, Below W1.heap.size W1 wx → (fun wx => wx.cell? ⟨p, 107, none⟩ = some (.map pl) ∧ wx.cell? ⟨w.heap.size, 0, none⟩ = some (.int .i64 m0) ∧ MapAt wx pl L.ck) wx) := fun wx hb => ⟨(hb.cell (p := ⟨p, 107, none⟩) (World.block_lt_of_cell? _ _ hcj)).trans hcj, (hb.cell (p := ⟨w.heap.size, 0, none⟩) (World.block_lt_of_cell? _ _ y0)).trans y0, MapAt.below (o := pl) hmj hb⟩
      refine wp_region_held_drew (S := (fun wx => wx.cell? ⟨p, 107, none⟩ = some (.map pl) ∧ wx.cell? ⟨w.heap.size, 0, none⟩ = some (.int .i64 m0) ∧ MapAt wx pl L.ck)) (by kernel_rfl) (HSB.out _ (below_dN W1 (nq + 1))) (fun hS => ?_)
      refine wpAnyH_take (i := 0) (v := (.pointer (some ⟨p, 0, none⟩))) rfl (by kernel_rfl) (by kernel_rfl) (by kernel_rfl) (fun _ _ _ h => h) (Or.inl ⟨by kernel_rfl, fun w hS => by obtain ⟨s0, s1, s2⟩ := hS; go_simp⟩) hS ?_
      refine wpAnyH_take (i := 1) (v := (.pointer (some ⟨p, 0, none⟩))) rfl (by kernel_rfl) (by kernel_rfl) (by kernel_rfl) (fun _ _ _ h => h) (Or.inl ⟨by kernel_rfl, fun w hS => by obtain ⟨s0, s1, s2⟩ := hS; go_simp⟩) hS ?_
      refine wpAnyH_take (i := 2) (v := (.pointer (some ⟨p, 107, none⟩))) rfl (by kernel_rfl) (by kernel_rfl) (by kernel_rfl) (fun _ _ _ h => h) (Or.inl ⟨by kernel_rfl, fun w hS => by obtain ⟨s0, s1, s2⟩ := hS; go_simp⟩) hS ?_
      refine wpAnyH_take (i := 3) (v := (.map pl)) rfl (by kernel_rfl) (by kernel_rfl) (by kernel_rfl) (fun _ _ _ h => h) (Or.inl ⟨by kernel_rfl, fun w hS => by obtain ⟨s0, s1, s2⟩ := hS; go_simp⟩) hS ?_
      refine wpAnyH_take (i := 4) (v := (.pointer (some ⟨w.heap.size, 0, none⟩))) rfl (by kernel_rfl) (by kernel_rfl) (by kernel_rfl) (fun _ _ _ h => h) (Or.inl ⟨by kernel_rfl, fun w hS => by obtain ⟨s0, s1, s2⟩ := hS; go_simp⟩) hS ?_
      refine wpAnyH_take (i := 5) (v := (.int .i64 m0)) rfl (by kernel_rfl) (by kernel_rfl) (by kernel_rfl) (fun _ _ _ h => h) (Or.inl ⟨by kernel_rfl, fun w hS => by obtain ⟨s0, s1, s2⟩ := hS; go_simp⟩) hS ?_
      refine wpAnyH_take (i := 6) (v := (.agg #[.int .i64 v0, .string v1, .int .i64 v2, .string v3, .string v4])) rfl (by kernel_rfl) (by kernel_rfl) (by kernel_rfl) (fun _ _ _ h => h) (Or.inl ⟨by kernel_rfl, fun w hS => by obtain ⟨s0, s1, s2⟩ := hS; have ee := HLK.out _ s2; go_simp⟩) hS ?_
      refine wpAnyH_ready (rs := [7]) (by kernel_rfl) (by simp) ?_
      refine AllReadyH.cons rfl (fun K hK => ?_) AllReadyH.nil
      go_simp
      obtain ⟨WA, hWA, XA, bA⟩ : ∃ WA, ((W1.drewN (nq + 1)).alloc (.cells #[.int .i64 0, .string ⟨#[]⟩, .int .i64 0, .string ⟨#[]⟩, .string ⟨#[]⟩] 82)) = WA ∧ Blk WA W1.heap.size #[.int .i64 0, .string ⟨#[]⟩, .int .i64 0, .string ⟨#[]⟩, .string ⟨#[]⟩] 82 ∧ Below W1.heap.size W1 WA :=
        ⟨_, rfl, blk_new _ _ _ _ rfl, (below_dN W1 (nq + 1)).alloc (Nat.le_refl _) _⟩
      refine hK.out _ _ (HSB.out _ ((below_dN W1 (nq + 1)).alloc (Nat.le_refl _) _)) (fun hS => ?_)
      clear hK
      refine wpAnyH_ready (rs := [8]) (by kernel_rfl) (by simp) ?_
      refine AllReadyH.cons rfl (fun K hK => ?_) AllReadyH.nil
      refine step_ifV rfl ?_
      refine wp_store_midN (ty := 82) (x := .tmp 7) (y := .tmp 32) W1.heap.size 0 #[.int .i64 v0, .string v1, .int .i64 v2, .string v3, .string v4] (by kernel_rfl) (by kernel_rfl) (there_blk (blk_new _ _ #[.int .i64 0, .string ⟨#[]⟩, .int .i64 0, .string ⟨#[]⟩, .string ⟨#[]⟩] 82 rfl) (by simp)) (by kernel_rfl) (by kernel_rfl) ?_
      obtain ⟨W2, hW2, x1, b2⟩ : ∃ W2, WA.setCells W1.heap.size 0 [.int .i64 v0, .string v1, .int .i64 v2, .string v3, .string v4] = W2 ∧ W2.rangeAt W1.heap.size 0 [.int .i64 v0, .string v1, .int .i64 v2, .string v3, .string v4] ∧ Below W1.heap.size W1 W2 :=
        ⟨_, rfl, World.rangeAt_setCells_same WA W1.heap.size 0 [.int .i64 v0, .string v1, .int .i64 v2, .string v3, .string v4] (there_blk XA (by simp)), bA.trans ⟨(rest_setCells _ _ _ _).1, (rest_setCells _ _ _ _).2.1, (rest_setCells _ _ _ _).2.2, by rw [size_setCells]; exact Nat.le_refl _, fun k hk => heap_setCells_other _ _ _ _ _ (by omega)⟩⟩
      refine hK.out _ _ (by have := HSB.out _ b2; rw [← hW2, ← hWA] at this; exact this) (fun hS => ?_)
      clear hK hS hmj hcj HLK HSB
      refine wpAnyH_done (by kernel_rfl) ?_ _
      rw [show ((W1.drewN (nq + 1)).alloc (.cells #[.int .i64 0, .string ⟨#[]⟩, .int .i64 0, .string ⟨#[]⟩, .string ⟨#[]⟩] 82)).setCells W1.heap.size 0 #[.int .i64 v0, .string v1, .int .i64 v2, .string v3, .string v4].toList = W2 from by rw [hWA]; exact hW2]
      have u0 : W2.cell? ⟨W1.heap.size, 0, none⟩ = some (.int .i64 v0) := x1 0 _ rfl
      have u1 : W2.cell? ⟨W1.heap.size, 1, none⟩ = some (.string v1) := x1 1 _ rfl
      have XB2 := XB.below b2
      have XM2 := XM1.below b2
      have t2 : W2.cell? ⟨W0.heap.size, 2, none⟩ = some (.int .i64 q) := XB2.cell rfl
      have t5 : W2.cell? ⟨W0.heap.size, 5, none⟩ = some (.string d) := XB2.cell rfl
      have HS2 : Hid (Lg W2 p mp L ∧ Stp p mp w mp W2) := ⟨Lg.below H1.out b2, Stp.of_below (b01.trans (b2.mono b01.size))⟩
      have HXB2 : Hid _ := XB2
      have HXM2 : Hid _ := XM2
      clear hWA XA bA hW2 x1 XB2 XM2
      go_simp
      clear HS2
      go_wp2_with fail
      have XM2 : Blk W2 w.heap.size #[.int .i64 m0, .string m1, .string m2] 38 := HXM2.out
      have XB2 : Blk W2 W0.heap.size #[.int .i64 5, .int .i64 0, .int .i64 q, .int .i64 0, .int .i64 0, .string d, .string ⟨#[]⟩, .slice none 0 0] 34 := HXB2.out
      refine wp_region_held_drew (S := (fun wx => wx.cell? ⟨w.heap.size, 0, none⟩ = some (.int .i64 m0) ∧ wx.cell? ⟨w.heap.size, 1, none⟩ = some (.string m1) ∧ wx.cell? ⟨w.heap.size, 2, none⟩ = some (.string m2) ∧ wx.cell? ⟨W0.heap.size, 2, none⟩ = some (.int .i64 q) ∧ wx.cell? ⟨W0.heap.size, 5, none⟩ = some (.string d))) (by kernel_rfl) ⟨XM2.drew.cell rfl, XM2.drew.cell rfl, XM2.drew.cell rfl, XB2.drew.cell rfl, XB2.drew.cell rfl⟩ (fun hS => ?_)
      refine wpAnyH_take (i := 0) (v := (.pointer (some ⟨p, 0, none⟩))) rfl (by kernel_rfl) (by kernel_rfl) (by kernel_rfl) (fun _ _ _ h => h) (Or.inl ⟨by kernel_rfl, fun w hS => by obtain ⟨s0, s1, s2, s3, s4⟩ := hS; go_simp⟩) hS ?_
      refine wpAnyH_take (i := 1) (v := (.pointer (some ⟨p, 0, none⟩))) rfl (by kernel_rfl) (by kernel_rfl) (by kernel_rfl) (fun _ _ _ h => h) (Or.inl ⟨by kernel_rfl, fun w hS => by obtain ⟨s0, s1, s2, s3, s4⟩ := hS; go_simp⟩) hS ?_
      refine wpAnyH_take (i := 2) (v := (.pointer (some ⟨p, 107, none⟩))) rfl (by kernel_rfl) (by kernel_rfl) (by kernel_rfl) (fun _ _ _ h => h) (Or.inl ⟨by kernel_rfl, fun w hS => by obtain ⟨s0, s1, s2, s3, s4⟩ := hS; go_simp⟩) hS ?_
      refine wpAnyH_take (i := 3) (v := (.agg #[.int .i64 m0, .string m1, .string m2])) rfl (by kernel_rfl) (by kernel_rfl) (by kernel_rfl) (fun _ _ _ h => h) (Or.inl ⟨by kernel_rfl, fun w hS => by obtain ⟨s0, s1, s2, s3, s4⟩ := hS; go_simp⟩) hS ?_
      refine wpAnyH_take (i := 4) (v := (.pointer (some ⟨W0.heap.size, 2, none⟩))) rfl (by kernel_rfl) (by kernel_rfl) (by kernel_rfl) (fun _ _ _ h => h) (Or.inl ⟨by kernel_rfl, fun w hS => by obtain ⟨s0, s1, s2, s3, s4⟩ := hS; go_simp⟩) hS ?_
      refine wpAnyH_take (i := 5) (v := (.int .i64 q)) rfl (by kernel_rfl) (by kernel_rfl) (by kernel_rfl) (fun _ _ _ h => h) (Or.inl ⟨by kernel_rfl, fun w hS => by obtain ⟨s0, s1, s2, s3, s4⟩ := hS; go_simp⟩) hS ?_
      refine wpAnyH_take (i := 6) (v := (.pointer (some ⟨W0.heap.size, 5, none⟩))) rfl (by kernel_rfl) (by kernel_rfl) (by kernel_rfl) (fun _ _ _ h => h) (Or.inl ⟨by kernel_rfl, fun w hS => by obtain ⟨s0, s1, s2, s3, s4⟩ := hS; go_simp⟩) hS ?_
      refine wpAnyH_take (i := 7) (v := (.string d)) rfl (by kernel_rfl) (by kernel_rfl) (by kernel_rfl) (fun _ _ _ h => h) (Or.inl ⟨by kernel_rfl, fun w hS => by obtain ⟨s0, s1, s2, s3, s4⟩ := hS; go_simp⟩) hS ?_
      refine wpAnyH_ready (rs := [8]) (by kernel_rfl) (by simp) ?_
      refine AllReadyH.cons rfl (fun K hK => ?_) AllReadyH.nil
      go_simp
      refine (HC.out _).mono ?_
      rintro e w3 ⟨rfl, hb3⟩
      have b3 : Below W2.heap.size W2 w3 := (Below.refl _ _).drew.trans hb3
      have X3 := XM2.below b3
      have Y3 := XB2.below b3
      refine hK.out _ _ ⟨X3.cell rfl, X3.cell rfl, X3.cell rfl, Y3.cell rfl, Y3.cell rfl⟩ (fun hS => ?_)
      clear hK hb3
      refine wpAnyH_ready (rs := [9]) (by kernel_rfl) (by simp) ?_
      refine AllReadyH.cons rfl (fun K hK => ?_) AllReadyH.nil
      go_simp
      refine (HNT.out w3 (b2.trans (b3.mono b2.size))).mono ?_
      rintro e w4 ⟨rfl, mp', h4, st4⟩
      have hL3 : Lg w3 p mp L := Lg.below H1.out (b2.trans (b3.mono b2.size))
      have X4 := st4.keep hL3 X3 (by have := HPL.out; omega)
      have Y4 := st4.keep hL3 Y3 (by have := HPL.out; omega)
      refine hK.out _ _ ⟨X4.cell rfl, X4.cell rfl, X4.cell rfl, Y4.cell rfl, Y4.cell rfl⟩ (fun hS => ?_)
      have HR4 : Hid (Lg w4 p mp' { L with ck := vput L.ck m0 (q, d, (m0, m1, m2)) } ∧ Stp p mp w mp' w4) := ⟨h4, (Stp.of_below (b01.trans ((b2.trans (b3.mono b2.size)).mono b01.size))).trans st4⟩
      clear hK hS hL3 X4 Y4 h4 st4
      refine wpAnyH_done (by kernel_rfl) ?_ _
      go_wp2
      go_ret
      exact ⟨rfl, mp', HR4.out⟩
end Go.Proofs.Ytjpmnmgnbpecjaa
