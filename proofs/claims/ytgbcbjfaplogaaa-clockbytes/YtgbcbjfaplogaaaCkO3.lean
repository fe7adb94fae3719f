/- Of: an auction out of numbers that fit. -/
import Derived.Test.YtgbcbjfaplogaaaCkO2

import Derived.Deep.RegionHeldLaw
import Derived.Deep.RegionHeld3
namespace Go.Proofs.Ytgbcbjfaplogaaa
open Go.RowKit
set_option linter.unusedSimpArgs false
set_option linter.unusedVariables false
variable {p b : Nat} {a : Au}

set_option maxRecDepth 100000 in
set_option maxHeartbeats 4000000 in
theorem of_fit (s : ByteArray) (ms : List Int) (w : World) (hs : s.size ≤ 140737488351232) (hn : nm s = some ms) (h6 : 6 ≤ ms.length) (hle : (ms.length : Int) = 6 + 2 * gAt ms 5) (hf : Au.fits (gAt ms 0) (gAt ms 1) (gAt ms 2) (gAt ms 5)) :
    Calls Try.prog 6 #[.string s] w fun e w' => Below w.heap.size w w' ∧ ((¬ Inv (auOf ms) ∧ e = .returned (.tuple #[.pointer none, .int .i64 92])) ∨ ∃ p b, Inv (auOf ms) ∧ e = .returned (.tuple #[.pointer (some ⟨p, 0, none⟩), .int .i64 0]) ∧ Lm w' p b (auOf ms) ∧ w.heap.size ≤ p ∧ w.heap.size ≤ b) := by
  have HN : Hid _ := numbersOf_calls s w hs
  have HM : Hid _ := hn
  have hcan := nmF_canon 38 _ ms hn
  have h38 := hcan.2.1
  have HBN : Hid (∀ i, 0 ≤ gAt ms i ∧ gAt ms i ≤ 9007199254740992) := fun i => by
    by_cases hi : i < ms.length
    · rw [gAt_eq hi]; exact hcan.2.2 _ (List.getElem_mem _)
    · rw [gAt_none (by omega)]; omega
  have hb5 := HBN.out 5
  clear hcan hn
  go_enter Try.func6, Try.ntmps6
  go_wp2_with fail
  refine Calls.mono HN.out ?_
  rintro e w1 ⟨b1, q⟩
  clear HN
  rcases q with ⟨hn, rfl⟩ | ⟨ms', v, hn, rfl, R1⟩
  · exact absurd (hn.symm.trans HM.out) (by simp)
  obtain rfl : ms' = ms := Option.some.inj (hn.symm.trans HM.out)
  clear hn HM
  obtain ⟨g, cap, cur, rfl, hg, X1, hc⟩ := R1.block (by omega)
  have d6 : decide ((ms'.length : Int) < 6) = false := decide_eq_false (by omega)
  have c0 : w1.cell? ⟨g, 0, none⟩ = some (.int .i64 (gAt ms' 0)) := X1.cell (hc 0 (by omega))
  have c1 : w1.cell? ⟨g, 1, none⟩ = some (.int .i64 (gAt ms' 1)) := X1.cell (hc 1 (by omega))
  have c2 : w1.cell? ⟨g, 2, none⟩ = some (.int .i64 (gAt ms' 2)) := X1.cell (hc 2 (by omega))
  have c5 : w1.cell? ⟨g, 5, none⟩ = some (.int .i64 (gAt ms' 5)) := X1.cell (hc 5 (by omega))
  have l0 : (0 : Int) < ms'.length := by omega
  have l1 : (1 : Int) < ms'.length := by omega
  have l2 : (2 : Int) < ms'.length := by omega
  have l3 : (3 : Int) < ms'.length := by omega
  have l4 : (4 : Int) < ms'.length := by omega
  have l5 : (5 : Int) < ms'.length := by omega
  have HC : Hid _ := hc
  clear hc R1
  rename List Int => ms
  have HLE : Hid ((ms.length : Int) = 6 + 2 * gAt ms 5) := hle
  have hde : ((ms.length : Int) == 6 + 2 * gAt ms 5) = true := by simpa using hle
  clear hle
  generalize ms.length = n at *
  have HNB : Hid _ := fun wx => new_ok (gAt ms 0) (gAt ms 1) (gAt ms 2) (gAt ms 5) wx hf
  have HFit : Hid _ := hf
  have B1 := b1.drew
  have X1d : Blk w1.drew g cur 3 := X1.drew
  have zb1 := b1.size
  clear hf
  go_wp2_with fail
  clear hde
  refine wp_region_held_drew (S := (fun wx => wx.cell? ⟨g, 0, none⟩ = some (.int .i64 (gAt ms 0)) ∧ wx.cell? ⟨g, 1, none⟩ = some (.int .i64 (gAt ms 1)) ∧ wx.cell? ⟨g, 2, none⟩ = some (.int .i64 (gAt ms 2)) ∧ wx.cell? ⟨g, 5, none⟩ = some (.int .i64 (gAt ms 5)))) (by kernel_rfl) ⟨c0, c1, c2, c5⟩ (fun hS => ?_)
  refine wpAnyH_take (i := 0) (v := (.slice (some ⟨g, 0, none⟩) n cap)) rfl (by kernel_rfl) (by kernel_rfl) (by kernel_rfl) (fun _ _ _ h => h) (Or.inl ⟨by rfl, fun w hS => by obtain ⟨s0, s1, s2, s3⟩ := hS; go_simp⟩) hS ?_
  refine wpAnyH_take (i := 1) (v := (.pointer (some ⟨g, 0, none⟩))) rfl (by kernel_rfl) (by kernel_rfl) (by kernel_rfl) (fun _ _ _ h => h) (Or.inl ⟨by rfl, fun w hS => by obtain ⟨s0, s1, s2, s3⟩ := hS; go_simp; intro h; omega⟩) hS ?_
  refine wpAnyH_take (i := 2) (v := (.int .i64 (gAt ms 0))) rfl (by kernel_rfl) (by kernel_rfl) (by kernel_rfl) (fun _ _ _ h => h) (Or.inl ⟨by rfl, fun w hS => by obtain ⟨s0, s1, s2, s3⟩ := hS; go_simp⟩) hS ?_
  refine wpAnyH_take (i := 3) (v := (.slice (some ⟨g, 0, none⟩) n cap)) rfl (by kernel_rfl) (by kernel_rfl) (by kernel_rfl) (fun _ _ _ h => h) (Or.inl ⟨by rfl, fun w hS => by obtain ⟨s0, s1, s2, s3⟩ := hS; go_simp⟩) hS ?_
  refine wpAnyH_take (i := 4) (v := (.pointer (some ⟨g, 1, none⟩))) rfl (by kernel_rfl) (by kernel_rfl) (by kernel_rfl) (fun _ _ _ h => h) (Or.inl ⟨by rfl, fun w hS => by obtain ⟨s0, s1, s2, s3⟩ := hS; go_simp⟩) hS ?_
  refine wpAnyH_take (i := 5) (v := (.int .i64 (gAt ms 1))) rfl (by kernel_rfl) (by kernel_rfl) (by kernel_rfl) (fun _ _ _ h => h) (Or.inl ⟨by rfl, fun w hS => by obtain ⟨s0, s1, s2, s3⟩ := hS; go_simp⟩) hS ?_
  refine wpAnyH_take (i := 6) (v := (.slice (some ⟨g, 0, none⟩) n cap)) rfl (by kernel_rfl) (by kernel_rfl) (by kernel_rfl) (fun _ _ _ h => h) (Or.inl ⟨by rfl, fun w hS => by obtain ⟨s0, s1, s2, s3⟩ := hS; go_simp⟩) hS ?_
  refine wpAnyH_take (i := 7) (v := (.pointer (some ⟨g, 2, none⟩))) rfl (by kernel_rfl) (by kernel_rfl) (by kernel_rfl) (fun _ _ _ h => h) (Or.inl ⟨by rfl, fun w hS => by obtain ⟨s0, s1, s2, s3⟩ := hS; go_simp⟩) hS ?_
  refine wpAnyH_take (i := 8) (v := (.int .i64 (gAt ms 2))) rfl (by kernel_rfl) (by kernel_rfl) (by kernel_rfl) (fun _ _ _ h => h) (Or.inl ⟨by rfl, fun w hS => by obtain ⟨s0, s1, s2, s3⟩ := hS; go_simp⟩) hS ?_
  refine wpAnyH_take (i := 9) (v := (.slice (some ⟨g, 0, none⟩) n cap)) rfl (by kernel_rfl) (by kernel_rfl) (by kernel_rfl) (fun _ _ _ h => h) (Or.inl ⟨by rfl, fun w hS => by obtain ⟨s0, s1, s2, s3⟩ := hS; go_simp⟩) hS ?_
  refine wpAnyH_take (i := 10) (v := (.pointer (some ⟨g, 5, none⟩))) rfl (by kernel_rfl) (by kernel_rfl) (by kernel_rfl) (fun _ _ _ h => h) (Or.inl ⟨by rfl, fun w hS => by obtain ⟨s0, s1, s2, s3⟩ := hS; go_simp⟩) hS ?_
  refine wpAnyH_take (i := 11) (v := (.int .i64 (gAt ms 5))) rfl (by kernel_rfl) (by kernel_rfl) (by kernel_rfl) (fun _ _ _ h => h) (Or.inl ⟨by rfl, fun w hS => by obtain ⟨s0, s1, s2, s3⟩ := hS; go_simp⟩) hS ?_
  refine wpAnyH_ready (rs := [12]) (by kernel_rfl) (by simp) ?_
  refine AllReadyH.cons rfl (fun K hK => ?_) AllReadyH.nil
  go_simp
  refine Calls.mono (HNB.out _) ?_
  rintro e w2 ⟨p, b, rfl, L2, b2, hp, hb⟩
  have X2 := X1d.below b2
  have hS2 : w2.cell? ⟨g, 0, none⟩ = some (.int .i64 (gAt ms 0)) ∧ w2.cell? ⟨g, 1, none⟩ = some (.int .i64 (gAt ms 1)) ∧ w2.cell? ⟨g, 2, none⟩ = some (.int .i64 (gAt ms 2)) ∧ w2.cell? ⟨g, 5, none⟩ = some (.int .i64 (gAt ms 5)) := ⟨X2.cell (HC.out 0 (by omega)), X2.cell (HC.out 1 (by omega)), X2.cell (HC.out 2 (by omega)), X2.cell (HC.out 5 (by omega))⟩
  refine hK.out _ _ hS2 (fun hS => ?_)
  clear hK
  refine wpAnyH_take (i := 13) (v := (.tuple #[.pointer (some ⟨p, 0, none⟩), .int .i64 0])) rfl (by kernel_rfl) (by kernel_rfl) (by kernel_rfl) (fun _ _ _ h => h) (Or.inl ⟨by rfl, fun w hS => by obtain ⟨s0, s1, s2, s3⟩ := hS; go_simp⟩) hS ?_
  refine wpAnyH_take (i := 14) (v := (.pointer (some ⟨p, 0, none⟩))) rfl (by kernel_rfl) (by kernel_rfl) (by kernel_rfl) (fun _ _ _ h => h) (Or.inl ⟨by rfl, fun w hS => by obtain ⟨s0, s1, s2, s3⟩ := hS; go_simp⟩) hS ?_
  refine wpAnyH_take (i := 15) (v := (.int .i64 0)) rfl (by kernel_rfl) (by kernel_rfl) (by kernel_rfl) (fun _ _ _ h => h) (Or.inl ⟨by rfl, fun w hS => by obtain ⟨s0, s1, s2, s3⟩ := hS; go_simp⟩) hS ?_
  refine wpAnyH_take (i := 16) (v := (.pointer (some ⟨p, 0, none⟩))) rfl (by kernel_rfl) (by kernel_rfl) (by kernel_rfl) (fun _ _ _ h => h) (Or.inl ⟨by rfl, fun w hS => by obtain ⟨s0, s1, s2, s3⟩ := hS; go_simp⟩) hS ?_
  refine wpAnyH_take (i := 17) (v := (.int .i64 0)) rfl (by kernel_rfl) (by kernel_rfl) (by kernel_rfl) (fun _ _ _ h => h) (Or.inl ⟨by rfl, fun w hS => by obtain ⟨s0, s1, s2, s3⟩ := hS; go_simp⟩) hS ?_
  refine wpAnyH_done (by kernel_rfl) ?_ _
  have B2 : Below w.heap.size w w2 := B1.trans (b2.mono zb1)
  have hgl : g < w1.drew.heap.size := X1d.lt
  have hgp : g ≠ p := by omega
  have hgb : g ≠ b := by omega
  have hpw : w.heap.size ≤ p := Nat.le_trans zb1 hp
  have hbw : w.heap.size ≤ b := Nat.le_trans zb1 hb
  have c3 : w2.cell? ⟨g, 3, none⟩ = some (.int .i64 (gAt ms 3)) := X2.cell (HC.out 3 (by omega))
  have c4 : w2.cell? ⟨g, 4, none⟩ = some (.int .i64 (gAt ms 4)) := X2.cell (HC.out 4 (by omega))
  have p3 : w2.cell? ⟨p, 3, none⟩ = some (.int .i64 1) := L2.blk.cell rfl
  have p4 : w2.cell? ⟨p, 4, none⟩ = some (.int .i64 0) := L2.blk.cell rfl
  have f3 : w2.frozen? ⟨p, 3, none⟩ = false := L2.blk.frozen
  have f4 : w2.frozen? ⟨p, 4, none⟩ = false := L2.blk.frozen
  clear hS b2 X1d B1 X1 c0 c1 c2 c5
  go_wp2
  go_region
  obtain ⟨nn, hnn⟩ : ∃ nn : Nat, gAt ms 5 = nn := Int.eq_ofNat_of_zero_le (by omega)
  obtain ⟨W3, hW3, P3, R3, G3, B3⟩ : ∃ W3, ((w2.setCell ⟨p, 3, none⟩ (.int .i64 (gAt ms 3))).setCell ⟨p, 4, none⟩ (.int .i64 (gAt ms 4))).drew = W3 ∧ Blk W3 p #[.int .i64 (gAt ms 0), .int .i64 (gAt ms 1), .int .i64 (gAt ms 2), .int .i64 (gAt ms 3), .int .i64 (gAt ms 4), .slice (some ⟨b, 0, none⟩) nn nn] 47 ∧ Blk W3 b (dC (putK ms nn 0)) 49 ∧ Blk W3 g cur 3 ∧ Below w.heap.size w W3 := by
    refine ⟨_, rfl, ?_, ?_, ?_, ?_⟩
    · have := (L2.blk.set 3 (.int .i64 (gAt ms 3))).set 4 (.int .i64 (gAt ms 4))
      simp only [Au.new, List.length_replicate, hnn, Int.toNat_natCast] at this
      exact this
    · have := (L2.row.setOther (p := ⟨p, 3, none⟩) L2.ne.symm (.int .i64 (gAt ms 3))).setOther (p := ⟨p, 4, none⟩) L2.ne.symm (.int .i64 (gAt ms 4))
      simp only [Au.new, hnn, Int.toNat_natCast] at this
      exact this
    · exact (X2.setOther (p := ⟨p, 3, none⟩) hgp _).setOther (p := ⟨p, 4, none⟩) hgp _
    · exact ((B2.setCell (p := ⟨p, 3, none⟩) hpw _).setCell (p := ⟨p, 4, none⟩) hpw _).drew
  have hne : p ≠ b := L2.ne
  have p5 : W3.cell? ⟨p, 5, none⟩ = some (.slice (some ⟨b, 0, none⟩) nn nn) := P3.cell rfl
  have hnn16 : nn ≤ 16 := by have := HFit.out.2.2.2; omega
  have HNL : Hid (n = 6 + 2 * nn) := by show _ = _; have := HLE.out; omega
  have hnl : (n : Int) ≤ 38 := by omega
  have HNN : Hid _ := hnn
  clear hnn L2 B2 X2 p3 p4 f3 f4 hS2 c3 c4
  rw [hW3]
  go_wp2
  go_loopw [66] (fun i wr => ∃ k : Nat, k ≤ nn ∧ i = .int .i64 k ∧ Blk wr p #[.int .i64 (gAt ms 0), .int .i64 (gAt ms 1), .int .i64 (gAt ms 2), .int .i64 (gAt ms 3), .int .i64 (gAt ms 4), .slice (some ⟨b, 0, none⟩) nn nn] 47 ∧ Blk wr b (dC (putK ms nn k)) 49 ∧ Blk wr g cur 3 ∧ Below w.heap.size w wr) (fun i _ => nn - (intOf i).toNat)
  case atStart => exact ⟨0, Nat.zero_le _, rfl, P3, R3, G3, B3⟩
  case round =>
    clear P3 R3 G3 B3
    obtain ⟨k, hk, rfl, Pr, Rr, Gr, br⟩ := hrel
    by_cases hlt : k < nn
    · have hd : decide ((k : Int) < nn) = true := by simp only [decide_eq_true_eq]; omega
      have hki : (k : Int) < nn := by omega
      have hpl := putK_len ms nn k
      have g5 : wr.cell? ⟨p, 5, none⟩ = some (.slice (some ⟨b, 0, none⟩) nn nn) := Pr.cell rfl
      have g6 : wr.cell? ⟨g, 6 + 2 * k, none⟩ = some (.int .i64 (gAt ms (6 + 2 * k))) := Gr.cell (HC.out _ (by have := HNL.out; omega))
      have g7 : wr.cell? ⟨g, 6 + 2 * k + 1, none⟩ = some (.int .i64 (gAt ms (6 + 2 * k + 1))) := Gr.cell (HC.out _ (by have := HNL.out; omega))
      have k1 : IntKind.i64.wrap (2 * (k : Int)) = 2 * (k : Int) := by rw [IntKind.wrap_i64]; omega
      have k2 : IntKind.i64.wrap (6 + 2 * (k : Int)) = 6 + 2 * (k : Int) := by rw [IntKind.wrap_i64]; omega
      have k3 : IntKind.i64.wrap (6 + 2 * (k : Int) + 1) = 6 + 2 * (k : Int) + 1 := by rw [IntKind.wrap_i64]; omega
      have k4 : (6 + 2 * (k : Int)).toNat = 6 + 2 * k := by omega
      have k5 : (6 + 2 * (k : Int) + 1).toNat = 6 + 2 * k + 1 := by omega
      have k6 : 6 + 2 * (k : Int) < n := by have := HNL.out; omega
      have k7 : 6 + 2 * (k : Int) + 1 < n := by have := HNL.out; omega
      have k8 : 0 ≤ 6 + 2 * (k : Int) := by omega
      have k9 : 0 ≤ 6 + 2 * (k : Int) + 1 := by omega
      have r0 : wr.drew.cell? ⟨b, k * 2, none⟩ = some (.int .i64 0) := (Blk.drew Rr).cell (dC_get 0 (by rw [hpl]; exact hlt) (by rw [putK_at ms nn k k hlt (by omega), if_neg (by omega)]; rfl))
      have r1 : wr.drew.cell? ⟨b, k * 2 + 1, none⟩ = some (.int .i64 0) := (Blk.drew Rr).cell (dC_get 1 (by rw [hpl]; exact hlt) (by rw [putK_at ms nn k k hlt (by omega), if_neg (by omega)]; rfl))
      have f0 : wr.drew.frozen? ⟨b, k * 2, none⟩ = false := (Blk.drew Rr).frozen
      have f1 : wr.drew.frozen? ⟨b, k * 2 + 1, none⟩ = false := (Blk.drew Rr).frozen
      generalize hx : gAt ms (6 + 2 * k) = x at *
      generalize hy : gAt ms (6 + 2 * k + 1) = y at *
      have r2 : (wr.setCell ⟨b, k * 2, none⟩ (.int .i64 x)).cell? ⟨b, k * 2 + 1, none⟩ = some (.int .i64 0) := (Rr.set (k * 2) (.int .i64 x)).cell (by
        rw [Array.getElem?_setIfInBounds_ne (by omega)]
        exact dC_get 1 (by rw [hpl]; exact hlt) (by rw [putK_at ms nn k k hlt (by omega), if_neg (by omega)]; rfl))
      have f2 : (wr.setCell ⟨b, k * 2, none⟩ (.int .i64 x)).frozen? ⟨b, k * 2 + 1, none⟩ = false := (Rr.set (k * 2) (.int .i64 x)).frozen
      have R2 := (Rr.set (k * 2) (.int .i64 x)).set (k * 2 + 1) (.int .i64 y)
      have e2 := dC_two (l := putK ms nn k) (i := k) ⟨x, y⟩ (by rw [hpl]; exact hlt)
      rw [e2] at R2
      have HR2 : Hid (Blk ((wr.setCell ⟨b, k * 2, none⟩ (.int .i64 x)).setCell ⟨b, k * 2 + 1, none⟩ (.int .i64 y)) b (dC (putK ms nn (k + 1))) 49) := by
        show Blk _ _ _ _
        rw [putK, hx, hy]; exact R2
      have HP2 : Hid _ := (Pr.setOther (p := ⟨b, k * 2, none⟩) hne (.int .i64 x)).setOther (p := ⟨b, k * 2 + 1, none⟩) hne (.int .i64 y)
      have HG2 : Hid _ := (Gr.setOther (p := ⟨b, k * 2, none⟩) hgb (.int .i64 x)).setOther (p := ⟨b, k * 2 + 1, none⟩) hgb (.int .i64 y)
      have HB2 : Hid (Below w.heap.size w ((wr.setCell ⟨b, k * 2, none⟩ (.int .i64 x)).setCell ⟨b, k * 2 + 1, none⟩ (.int .i64 y))) := (br.setCell (p := ⟨b, k * 2, none⟩) hbw _).setCell (p := ⟨b, k * 2 + 1, none⟩) hbw _
      have HG6 : Hid (cur[6 + 2 * k]? = some (.int .i64 x) ∧ cur[6 + 2 * k + 1]? = some (.int .i64 y)) := ⟨by rw [← hx]; exact HC.out _ (by have := HNL.out; omega), by rw [← hy]; exact HC.out _ (by have := HNL.out; omega)⟩
      clear R2 e2
      have HX : Hid _ := hx
      have HY : Hid _ := hy
      clear hx hy hpl
      go_wp2_with fail
      refine wp_region_held_drew (S := (fun wx => wx.cell? ⟨p, 5, none⟩ = some (.slice (some ⟨b, 0, none⟩) nn nn) ∧ wx.cell? ⟨g, 6 + 2 * k, none⟩ = some (.int .i64 x) ∧ wx.cell? ⟨g, 6 + 2 * k + 1, none⟩ = some (.int .i64 y))) (by kernel_rfl) ⟨g5, g6, g7⟩ (fun hS => ?_)
      refine wpAnyH_take (i := 0) (v := (.pointer (some ⟨p, 0, none⟩))) rfl (by kernel_rfl) (by kernel_rfl) (by kernel_rfl) (fun _ _ _ h => h) (Or.inl ⟨by rfl, fun w hS => by obtain ⟨s0, s1, s2⟩ := hS; go_simp⟩) hS ?_
      refine wpAnyH_take (i := 1) (v := (.pointer (some ⟨p, 0, none⟩))) rfl (by kernel_rfl) (by kernel_rfl) (by kernel_rfl) (fun _ _ _ h => h) (Or.inl ⟨by rfl, fun w hS => by obtain ⟨s0, s1, s2⟩ := hS; go_simp⟩) hS ?_
      refine wpAnyH_take (i := 2) (v := (.pointer (some ⟨p, 5, none⟩))) rfl (by kernel_rfl) (by kernel_rfl) (by kernel_rfl) (fun _ _ _ h => h) (Or.inl ⟨by rfl, fun w hS => by obtain ⟨s0, s1, s2⟩ := hS; go_simp⟩) hS ?_
      refine wpAnyH_take (i := 3) (v := (.slice (some ⟨b, 0, none⟩) nn nn)) rfl (by kernel_rfl) (by kernel_rfl) (by kernel_rfl) (fun _ _ _ h => h) (Or.inl ⟨by rfl, fun w hS => by obtain ⟨s0, s1, s2⟩ := hS; go_simp⟩) hS ?_
      refine wpAnyH_take (i := 4) (v := (.int .i64 (k : Int))) rfl (by kernel_rfl) (by kernel_rfl) (by kernel_rfl) (fun _ _ _ h => h) (Or.inl ⟨by rfl, fun w hS => by obtain ⟨s0, s1, s2⟩ := hS; go_simp⟩) hS ?_
      refine wpAnyH_take (i := 5) (v := (.slice (some ⟨g, 0, none⟩) n cap)) rfl (by kernel_rfl) (by kernel_rfl) (by kernel_rfl) (fun _ _ _ h => h) (Or.inl ⟨by rfl, fun w hS => by obtain ⟨s0, s1, s2⟩ := hS; go_simp⟩) hS ?_
      refine wpAnyH_take (i := 6) (v := (.int .i64 (k : Int))) rfl (by kernel_rfl) (by kernel_rfl) (by kernel_rfl) (fun _ _ _ h => h) (Or.inl ⟨by rfl, fun w hS => by obtain ⟨s0, s1, s2⟩ := hS; go_simp⟩) hS ?_
      refine wpAnyH_take (i := 7) (v := (.int .i64 (2 * (k : Int)))) rfl (by kernel_rfl) (by kernel_rfl) (by kernel_rfl) (fun _ _ _ h => h) (Or.inl ⟨by rfl, fun w hS => by obtain ⟨s0, s1, s2⟩ := hS; go_simp⟩) hS ?_
      refine wpAnyH_take (i := 8) (v := (.int .i64 (6 + 2 * (k : Int)))) rfl (by kernel_rfl) (by kernel_rfl) (by kernel_rfl) (fun _ _ _ h => h) (Or.inl ⟨by rfl, fun w hS => by obtain ⟨s0, s1, s2⟩ := hS; go_simp⟩) hS ?_
      refine wpAnyH_take (i := 9) (v := (.pointer (some ⟨g, 6 + 2 * k, none⟩))) rfl (by kernel_rfl) (by kernel_rfl) (by kernel_rfl) (fun _ _ _ h => h) (Or.inl ⟨by rfl, fun w hS => by obtain ⟨s0, s1, s2⟩ := hS; go_simp⟩) hS ?_
      refine wpAnyH_take (i := 10) (v := (.int .i64 x)) rfl (by kernel_rfl) (by kernel_rfl) (by kernel_rfl) (fun _ _ _ h => h) (Or.inl ⟨by rfl, fun w hS => by obtain ⟨s0, s1, s2⟩ := hS; go_simp⟩) hS ?_
      refine wpAnyH_take (i := 11) (v := (.slice (some ⟨g, 0, none⟩) n cap)) rfl (by kernel_rfl) (by kernel_rfl) (by kernel_rfl) (fun _ _ _ h => h) (Or.inl ⟨by rfl, fun w hS => by obtain ⟨s0, s1, s2⟩ := hS; go_simp⟩) hS ?_
      refine wpAnyH_take (i := 12) (v := (.int .i64 (k : Int))) rfl (by kernel_rfl) (by kernel_rfl) (by kernel_rfl) (fun _ _ _ h => h) (Or.inl ⟨by rfl, fun w hS => by obtain ⟨s0, s1, s2⟩ := hS; go_simp⟩) hS ?_
      refine wpAnyH_take (i := 13) (v := (.int .i64 (2 * (k : Int)))) rfl (by kernel_rfl) (by kernel_rfl) (by kernel_rfl) (fun _ _ _ h => h) (Or.inl ⟨by rfl, fun w hS => by obtain ⟨s0, s1, s2⟩ := hS; go_simp⟩) hS ?_
      refine wpAnyH_take (i := 14) (v := (.int .i64 (6 + 2 * (k : Int)))) rfl (by kernel_rfl) (by kernel_rfl) (by kernel_rfl) (fun _ _ _ h => h) (Or.inl ⟨by rfl, fun w hS => by obtain ⟨s0, s1, s2⟩ := hS; go_simp⟩) hS ?_
      refine wpAnyH_take (i := 15) (v := (.int .i64 (6 + 2 * (k : Int) + 1))) rfl (by kernel_rfl) (by kernel_rfl) (by kernel_rfl) (fun _ _ _ h => h) (Or.inl ⟨by rfl, fun w hS => by obtain ⟨s0, s1, s2⟩ := hS; go_simp⟩) hS ?_
      refine wpAnyH_take (i := 16) (v := (.pointer (some ⟨g, 6 + 2 * k + 1, none⟩))) rfl (by kernel_rfl) (by kernel_rfl) (by kernel_rfl) (fun _ _ _ h => h) (Or.inl ⟨by rfl, fun w hS => by obtain ⟨s0, s1, s2⟩ := hS; go_simp⟩) hS ?_
      refine wpAnyH_take (i := 17) (v := (.int .i64 y)) rfl (by kernel_rfl) (by kernel_rfl) (by kernel_rfl) (fun _ _ _ h => h) (Or.inl ⟨by rfl, fun w hS => by obtain ⟨s0, s1, s2⟩ := hS; go_simp⟩) hS ?_
      refine wpAnyH_take (i := 18) (v := (.agg #[.int .i64 x, .int .i64 y])) rfl (by kernel_rfl) (by kernel_rfl) (by kernel_rfl) (fun _ _ _ h => h) (Or.inl ⟨by rfl, fun w hS => by obtain ⟨s0, s1, s2⟩ := hS; go_simp⟩) hS ?_
      refine wpAnyH_take (i := 19) (v := (.pointer (some ⟨b, k * 2, none⟩))) rfl (by kernel_rfl) (by kernel_rfl) (by kernel_rfl) (fun _ _ _ h => h) (Or.inl ⟨by rfl, fun w hS => by obtain ⟨s0, s1, s2⟩ := hS; go_simp⟩) hS ?_
      refine wpAnyH_ready (rs := [20]) (by kernel_rfl) (by simp) ?_
      refine AllReadyH.cons rfl (fun K hK => ?_) AllReadyH.nil
      go_simp
      refine hK.out _ _ ⟨Blk.cell HP2.out rfl, Blk.cell HG2.out HG6.out.1, Blk.cell HG2.out HG6.out.2⟩ (fun hS => ?_)
      clear hK
      refine wpAnyH_done (by kernel_rfl) ?_ _
      go_wp2
      refine ⟨⟨k + 1, by omega, by norm_cast, Blk.drew HP2.out, Blk.drew HR2.out, Blk.drew HG2.out, HB2.out.drew⟩, ?_⟩
      simp [intOf]; omega
    · have hd : decide ((k : Int) < nn) = false := by simp only [decide_eq_false_iff_not]; omega
      have hkk : k = nn := by omega
      subst hkk
      have hdl : (dsOf ms k).length = k := dsOf_len ms k
      have hau : auOf ms = ⟨gAt ms 0, gAt ms 1, gAt ms 2, gAt ms 3, gAt ms 4, dsOf ms k⟩ := by unfold auOf; rw [HNN.out, Int.toNat_natCast]
      rw [putK_all] at Rr
      have Lr : Lm wr p b (auOf ms) := by
        rw [hau]
        refine ⟨?_, Rr, hne⟩
        simp only [hdl]
        exact Pr
      have HF2 : Hid (Au.fits (auOf ms).supply (auOf ms).start (auOf ms).step (auOf ms).ds.length) := by
        show Au.fits _ _ _ _
        rw [hau]
        have := HFit.out
        rw [HNN.out] at this
        simp only [hdl]
        exact this
      have HNN2 : Hid (∀ i, i < (auOf ms).ds.length → 0 ≤ wasOf (auOf ms).ds i ∧ 0 ≤ nowOf (auOf ms).ds i) := fun i hi => by
        have hi' : i < k := by rw [hau] at hi; simpa [hdl] using hi
        have e : dAt (auOf ms).ds i = ⟨gAt ms (6 + 2 * i), gAt ms (6 + 2 * i + 1)⟩ := by rw [hau]; exact dsOf_at ms hi'
        unfold wasOf nowOf
        rw [e]
        exact ⟨(HBN.out _).1, (HBN.out _).1⟩
      have HIV : Hid _ := inv_of HF2.out HNN2.out
      have HI0 : Hid _ := fun q1 q2 => inv0_of HF2.out HNN2.out q1 q2
      have hfs := HF2.out
      clear hau Pr Rr Gr
      obtain ⟨tr, htr⟩ : ∃ tr : Bool, RMay (auOf ms) ↔ tr = true := by
        rcases Classical.em (RMay (auOf ms)) with q | q
        · exact ⟨true, by simp [q]⟩
        · exact ⟨false, by simp [q]⟩
      obtain ⟨td, htd⟩ : ∃ td : Bool, DMay (auOf ms) ↔ td = true := by
        rcases Classical.em (DMay (auOf ms)) with q | q
        · exact ⟨true, by simp [q]⟩
        · exact ⟨false, by simp [q]⟩
      obtain ⟨ts, hts⟩ : ∃ ts : Bool, SMay (auOf ms) ↔ ts = true := by
        rcases Classical.em (SMay (auOf ms)) with q | q
        · exact ⟨true, by simp [q]⟩
        · exact ⟨false, by simp [q]⟩
      have HQ1 : Hid _ := roundMayBe_calls wr Lr hfs.2.1 hfs.2.2.1.1 tr htr
      have HQ2 : Hid _ := fun wx (hx : Lm wx p b (auOf ms)) => demandsMayBe_calls wx hx (by have := hfs.2.2.2; omega) (fun i hi => (HNN2.out i hi).1) td htd
      have HQ3 : Hid _ := fun wx (hx : Lm wx p b (auOf ms)) (H : Inv0 (auOf ms)) => stateMayBe_calls wx hx H ts hts
      have HR : Hid _ := htr
      have HD : Hid _ := htd
      have HS : Hid _ := hts
      clear htr htd hts
      cases tr
      · go_wp2_with fail
        refine Calls.mono HQ1.out ?_
        rintro e w5 ⟨rfl, b5⟩
        go_wp2
        go_ret2
        exact ⟨br.trans (b5.mono br.size), Or.inl ⟨fun q => (by have := HR.out.1 (HIV.out.1 q).1; cases this), rfl⟩⟩
      · go_wp2_with fail
        refine Calls.mono HQ1.out ?_
        rintro e w5 ⟨rfl, b5⟩
        have L5 := Lr.below b5
        have B5 := br.trans (b5.mono br.size)
        cases td
        · go_wp2_with fail
          refine Calls.mono (HQ2.out w5 L5) ?_
          rintro e w6 ⟨rfl, b6⟩
          go_wp2
          go_ret2
          exact ⟨B5.trans (b6.mono B5.size), Or.inl ⟨fun q => (by have := HD.out.1 (HIV.out.1 q).2.1; cases this), rfl⟩⟩
        · go_wp2_with fail
          refine Calls.mono (HQ2.out w5 L5) ?_
          rintro e w6 ⟨rfl, b6⟩
          have L6 := L5.below b6
          have B6 := B5.trans (b6.mono B5.size)
          have H3 := HQ3.out w6 L6 (HI0.out (HR.out.2 (by first | rfl | trivial)) (HD.out.2 (by first | rfl | trivial)))
          cases ts
          · go_wp2_with fail
            refine H3.mono ?_
            rintro e w7 ⟨rfl, b7⟩
            go_wp2
            go_ret2
            exact ⟨B6.trans (b7.mono B6.size), Or.inl ⟨fun q => (by have := HS.out.1 (HIV.out.1 q).2.2; cases this), rfl⟩⟩
          · go_wp2_with fail
            refine H3.mono ?_
            rintro e w7 ⟨rfl, b7⟩
            go_wp2
            go_ret2
            exact ⟨B6.trans (b7.mono B6.size), Or.inr ⟨p, b, HIV.out.2 ⟨HR.out.2 (by first | rfl | trivial), HD.out.2 (by first | rfl | trivial), HS.out.2 (by first | rfl | trivial)⟩, rfl, L6.below b7, hpw, hbw⟩⟩

/-- Of any text: an auction just if it can be one's bytes. -/
theorem of_good (s : ByteArray) (ms : List Int) (w : World) (hs : s.size ≤ 140737488351232) (hn : nm s = some ms) (hg : Good ms) :
    Calls Try.prog 6 #[.string s] w fun e w' => ∃ p b, e = .returned (.tuple #[.pointer (some ⟨p, 0, none⟩), .int .i64 0]) ∧ Lc w' p b (auOf ms) ∧ Below w.heap.size w w' ∧ w.heap.size ≤ p ∧ w.heap.size ≤ b := by
  obtain ⟨h6, hle, H⟩ := hg
  have hf : Au.fits (gAt ms 0) (gAt ms 1) (gAt ms 2) (gAt ms 5) := by
    have := fits_of H
    have e : ((auOf ms).ds.length : Int) = gAt ms 5 := by
      have : (auOf ms).ds.length = (gAt ms 5).toNat := dsOf_len _ _
      rw [this]; omega
    rw [e] at this
    exact this
  refine (of_fit s ms w hs hn h6 hle hf).mono ?_
  rintro e w' ⟨hb, q⟩
  rcases q with ⟨q, _⟩ | ⟨p, b, _, rfl, L, hp, hb2⟩
  · exact absurd H q
  · exact ⟨p, b, rfl, ⟨L.blk, L.row, L.ne, H⟩, hb, hp, hb2⟩
theorem of_bad (s : ByteArray) (w : World) (hs : s.size ≤ 140737488351232) (hn : ∀ ms, nm s = some ms → ¬ Good ms) :
    Calls Try.prog 6 #[.string s] w fun e w' => e = .returned (.tuple #[.pointer none, .int .i64 92]) ∧ Below w.heap.size w w' := by
  cases hq : nm s with
  | none => exact of_short s w hs (Or.inl hq)
  | some ms =>
    have hb := hn ms hq
    by_cases h6 : ms.length < 6
    · exact of_short s w hs (Or.inr ⟨ms, hq, Or.inl h6⟩)
    · by_cases hle : (ms.length : Int) = 6 + 2 * gAt ms 5
      · rcases Classical.em (Au.fits (gAt ms 0) (gAt ms 1) (gAt ms 2) (gAt ms 5)) with hf | hf
        · refine (of_fit s ms w hs hq (by omega) hle hf).mono ?_
          rintro e w' ⟨hb2, q⟩
          rcases q with ⟨q, rfl⟩ | ⟨p, b, H, _⟩
          · exact ⟨rfl, hb2⟩
          · exact absurd ⟨by omega, hle, H⟩ hb
        · exact of_unfit s ms w hs hq (by omega) hle hf
      · exact of_short s w hs (Or.inr ⟨ms, hq, Or.inr hle⟩)
end Go.Proofs.Ytgbcbjfaplogaaa
