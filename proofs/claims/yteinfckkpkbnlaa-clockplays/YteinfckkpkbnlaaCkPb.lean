/- The law's step. -/
import Derived.Test.YteinfckkpkbnlaaCkPa
import Derived.Test.YteinfckkpkbnlaaRowH
import Derived.Test.YteinfckkpkbnlaaCkRs
import Derived.Laws.Tables
namespace Go.Proofs.Yteinfckkpkbnlaa
open Go.RowKit
set_option linter.unusedSimpArgs false
set_option linter.unusedVariables false
variable {p b : Nat} {a : Au} {R g cap : Nat} {rs : Nat → Value}
/-- The three boxes of the step. -/
theorem step_box (w : World) (a : Au) (R g cap : Nat) (k who n : Int) : ∃ W, ((w.alloc (.cells #[.int .i64 a.supply, .int .i64 a.start, .int .i64 a.step, .int .i64 a.state, .slice (some ⟨g, 0, none⟩) R cap] 30)).alloc (.cells #[.int .i64 k, .int .i64 who, .int .i64 n] 36)).alloc (.cells #[.int .i64 0, .int .i64 0, .int .i64 0, .int .i64 0, .slice none 0 0] 30) = W ∧ Blk W w.heap.size (rfA a R g cap) 30 ∧ Blk W (w.heap.size + 1) #[.int .i64 k, .int .i64 who, .int .i64 n] 36 ∧ Blk W (w.heap.size + 2) #[.int .i64 0, .int .i64 0, .int .i64 0, .int .i64 0, .slice none 0 0] 30 ∧ Below w.heap.size w W ∧ W.heap.size = w.heap.size + 3 := by
  refine ⟨_, rfl, ?_, ?_, ?_, by go_grown, by simp⟩
  · exact ((blk_new _ _ _ _ rfl).alloc _).alloc _
  · exact (blk_new _ _ _ _ (by simp)).alloc _
  · exact blk_new _ _ _ _ (by simp)
set_option maxRecDepth 100000 in
set_option maxHeartbeats 2000000 in
theorem step_next (w : World) (hp : Lc w p b a) (h : Rf w a R g cap rs) (k who n : Int) (hk : arn k 3 = 2) : Calls Try.prog 7 #[.pointer (some ⟨p, 0, none⟩), rfV a R g cap, .agg #[.int .i64 k, .int .i64 who, .int .i64 n]] w fun e w' => ∃ R' g' cap' rs', e = .returned (.tuple #[rfV a.next.2.2 R' g' cap', .bool true]) ∧ Rf w' a.next.2.2 R' g' cap' rs' ∧ Lc w' p b a.next.2.2 ∧ Ofc p b w w' := by
  obtain ⟨W0, hW0, X0, Y0, Z0, B0, hs0⟩ := step_box w a R g cap k who n
  have HS0 : Hid _ := hs0
  have hpl : p < w.heap.size := hp.blk.lt
  have hbl : b < w.heap.size := hp.row.lt
  rw [show rfA a R g cap = #[.int .i64 a.supply, .int .i64 a.start, .int .i64 a.step, .int .i64 a.state, .slice (some ⟨g, 0, none⟩) R cap] from rfl] at X0
  have c0 : W0.cell? ⟨w.heap.size, 0, none⟩ = some (.int .i64 a.supply) := X0.cell rfl
  have c1 : W0.cell? ⟨w.heap.size, 1, none⟩ = some (.int .i64 a.start) := X0.cell rfl
  have c2 : W0.cell? ⟨w.heap.size, 2, none⟩ = some (.int .i64 a.step) := X0.cell rfl
  have c3 : W0.cell? ⟨w.heap.size, 3, none⟩ = some (.int .i64 a.state) := X0.cell rfl
  have c4 : W0.cell? ⟨w.heap.size, 4, none⟩ = some (.slice (some ⟨g, 0, none⟩) R cap) := X0.cell rfl
  have d0 : W0.cell? ⟨w.heap.size + 1, 0, none⟩ = some (.int .i64 k) := Y0.cell rfl
  have HN : Hid _ := refNext_calls W0 (h.below B0)
  have HO : Hid _ := next_over a
  have HL : Hid _ := hp.below B0
  generalize hr : a.next = r at *
  obtain ⟨r0, r1, r2⟩ := r
  have HR : Hid _ := hr
  have HB0 : Hid _ := B0
  clear hs0 hr hp h B0
  unfold rfV rfA at *
  go_enter Try.func7, Try.ntmps7
  go_wp2_with fail
  refine (around_calls k 3 _ (by decide) (by decide)).mono ?_
  rintro e wa ⟨rfl, hwa⟩
  obtain rfl := hwa.symm
  rw [hk]
  go_wp2_with fail
  refine Calls.mono HN.out ?_
  rintro e w1 ⟨R', g', cap', rs', rfl, hf1, b1⟩
  obtain ⟨W1, hW1, N1, B1⟩ := rf_box w1 r2 R' g' cap'
  have HF1 : Hid _ := Rf.below hf1 B1
  have HL1 : Hid _ := Lc.below (Lc.below HL.out b1) B1
  have X1 := (X0.below b1).below B1
  have Y1 := (Y0.below b1).below B1
  have Z1 := (Z0.below b1).below B1
  have z1 := b1.size
  have zw : w1.heap.size < W1.heap.size := N1.lt
  have HNx : Hid (Calls Try.prog 11 #[.pointer (some ⟨p, 0, none⟩)] W1 fun e w' => e = .returned (.tuple #[.bool r0, .int .i64 r1]) ∧ Lc w' p b r2 ∧ Ofc p b W1 w') := next_calls W1 HL1.out _ HR.out
  have HB1 : Hid (Below w.heap.size w W1) := HB0.out.trans ((b1.mono (by have := HS0.out; omega)).trans (B1.mono (by have := HS0.out; omega)))
  clear hf1 X0 Y0 Z0 c0 c1 c2 c3 c4 d0 b1 B1 HN HL
  go_wp2_with fail
  refine Calls.mono HNx.out ?_
  rintro e w2 ⟨rfl, hl2, o2⟩
  have hz := HS0.out
  have N2 : Blk w2 w1.heap.size (rfA r2 R' g' cap') 30 := N1.ofc o2 (by omega) (by omega)
  have Z2 := Z1.ofc o2 (by omega) (by omega)
  have HF2 : Hid _ := Rf.ofc HF1.out HL1.out o2
  have HL2 : Hid _ := hl2
  have HO2 : Hid (Ofc p b w w2) := (Ofc.of_below HB1.out).trans o2
  have HN2 : Hid (Blk w2 w1.heap.size (rfA r2 R' g' cap') 30) := N2
  have HZ2 : Hid (Blk w2 (w.heap.size + 2) #[.int .i64 0, .int .i64 0, .int .i64 0, .int .i64 0, .slice none 0 0] 30) := Z2
  clear hl2 o2 N1 Z1 X1 Y1 HNx hW1 hW0 hz N2 Z2
  go_wp2_with fail
  by_cases e1 : r1 = 0
  · have HE : Hid _ := e1
    subst e1
    clear HE
    by_cases e2 : r2.state = 0
    · have k2 : decide (r2.state = 0) = true := decide_eq_true e2
      have k3 : r0 = false := by have := HO.out; rw [k2] at this; simpa using this
      have k4 : (r2.state != 0) = false := by simp [e2]
      subst k3
      clear e2
      refine wp_region_held_drew (S := (fun wx => wx.cell? ⟨w1.heap.size, 0, none⟩ = some (.int .i64 r2.supply) ∧ wx.cell? ⟨w1.heap.size, 1, none⟩ = some (.int .i64 r2.start) ∧ wx.cell? ⟨w1.heap.size, 2, none⟩ = some (.int .i64 r2.step) ∧ wx.cell? ⟨w1.heap.size, 3, none⟩ = some (.int .i64 r2.state) ∧ wx.cell? ⟨w1.heap.size, 4, none⟩ = some (.slice (some ⟨g', 0, none⟩) R' cap'))) (by kernel_rfl) ⟨Blk.cell (HN2.out.drew) rfl, Blk.cell (HN2.out.drew) rfl, Blk.cell (HN2.out.drew) rfl, Blk.cell (HN2.out.drew) rfl, Blk.cell (HN2.out.drew) rfl⟩ (fun hS => ?_)
      refine wpAnyH_take (i := 0) (v := (.agg #[.int .i64 r2.supply, .int .i64 r2.start, .int .i64 r2.step, .int .i64 r2.state, .slice (some ⟨g', 0, none⟩) R' cap'])) rfl (by kernel_rfl) (by kernel_rfl) (by kernel_rfl) (fun _ _ _ h => h) (Or.inl ⟨by kernel_rfl, fun w hS => by obtain ⟨s0, s1, s2, s3, s4⟩ := hS; go_simp⟩) hS ?_
      refine wpAnyH_take (i := 1) (v := (.int .i64 0)) rfl (by kernel_rfl) (by kernel_rfl) (by kernel_rfl) (fun _ _ _ h => h) (Or.inl ⟨by kernel_rfl, fun w hS => by obtain ⟨s0, s1, s2, s3, s4⟩ := hS; go_simp⟩) hS ?_
      refine wpAnyH_take (i := 2) (v := (.int .i64 0)) rfl (by kernel_rfl) (by kernel_rfl) (by kernel_rfl) (fun _ _ _ h => h) (Or.inl ⟨by kernel_rfl, fun w hS => by obtain ⟨s0, s1, s2, s3, s4⟩ := hS; go_simp⟩) hS ?_
      refine wpAnyH_take (i := 3) (v := (.bool true)) rfl (by kernel_rfl) (by kernel_rfl) (by kernel_rfl) (fun _ _ _ h => h) (Or.inl ⟨by kernel_rfl, fun w hS => by obtain ⟨s0, s1, s2, s3, s4⟩ := hS; go_simp⟩) hS ?_
      refine wpAnyH_take (i := 4) (v := (.bool true)) rfl (by kernel_rfl) (by kernel_rfl) (by kernel_rfl) (fun _ _ _ h => h) (Or.inl ⟨by kernel_rfl, fun w hS => by obtain ⟨s0, s1, s2, s3, s4⟩ := hS; go_simp⟩) hS ?_
      refine wpAnyH_take (i := 5) (v := (.bool false)) rfl (by kernel_rfl) (by kernel_rfl) (by kernel_rfl) (fun _ _ _ h => h) (Or.inl ⟨by kernel_rfl, fun w hS => by obtain ⟨s0, s1, s2, s3, s4⟩ := hS; go_simp⟩) hS ?_
      refine wpAnyH_take (i := 6) (v := (.int .i64 0)) rfl (by kernel_rfl) (by kernel_rfl) (by kernel_rfl) (fun _ _ _ h => h) (Or.inl ⟨by kernel_rfl, fun w hS => by obtain ⟨s0, s1, s2, s3, s4⟩ := hS; go_simp⟩) hS ?_
      refine wpAnyH_take (i := 7) (v := (.bool true)) rfl (by kernel_rfl) (by kernel_rfl) (by kernel_rfl) (fun _ _ _ h => h) (Or.inl ⟨by kernel_rfl, fun w hS => by obtain ⟨s0, s1, s2, s3, s4⟩ := hS; go_simp⟩) hS ?_
      refine wpAnyH_take (i := 8) (v := (.bool true)) rfl (by kernel_rfl) (by kernel_rfl) (by kernel_rfl) (fun _ _ _ h => h) (Or.inl ⟨by kernel_rfl, fun w hS => by obtain ⟨s0, s1, s2, s3, s4⟩ := hS; go_simp⟩) hS ?_
      refine wpAnyH_take (i := 9) (v := (.pointer (some ⟨w1.heap.size, 3, none⟩))) rfl (by kernel_rfl) (by kernel_rfl) (by kernel_rfl) (fun _ _ _ h => h) (Or.inl ⟨by kernel_rfl, fun w hS => by obtain ⟨s0, s1, s2, s3, s4⟩ := hS; go_simp⟩) hS ?_
      refine wpAnyH_take (i := 10) (v := (.int .i64 r2.state)) rfl (by kernel_rfl) (by kernel_rfl) (by kernel_rfl) (fun _ _ _ h => h) (Or.inl ⟨by kernel_rfl, fun w hS => by obtain ⟨s0, s1, s2, s3, s4⟩ := hS; go_simp⟩) hS ?_
      refine wpAnyH_take (i := 11) (v := (.bool false)) rfl (by kernel_rfl) (by kernel_rfl) (by kernel_rfl) (fun _ _ _ h => h) (Or.inl ⟨by kernel_rfl, fun w hS => by obtain ⟨s0, s1, s2, s3, s4⟩ := hS; go_simp⟩) hS ?_
      refine wpAnyH_take (i := 12) (v := (.bool false)) rfl (by kernel_rfl) (by kernel_rfl) (by kernel_rfl) (fun _ _ _ h => h) (Or.inl ⟨by kernel_rfl, fun w hS => by obtain ⟨s0, s1, s2, s3, s4⟩ := hS; go_simp⟩) hS ?_
      refine wpAnyH_take (i := 13) (v := (.bool true)) rfl (by kernel_rfl) (by kernel_rfl) (by kernel_rfl) (fun _ _ _ h => h) (Or.inl ⟨by kernel_rfl, fun w hS => by obtain ⟨s0, s1, s2, s3, s4⟩ := hS; go_simp⟩) hS ?_
      refine wpAnyH_take (i := 14) (v := (.bool true)) rfl (by kernel_rfl) (by kernel_rfl) (by kernel_rfl) (fun _ _ _ h => h) (Or.inl ⟨by kernel_rfl, fun w hS => by obtain ⟨s0, s1, s2, s3, s4⟩ := hS; go_simp⟩) hS ?_
      refine wpAnyH_ready (rs := [15]) (by kernel_rfl) (by simp) ?_
      refine readyH_rowC 15 rfl rfl rfl rfl (w.heap.size + 2) (rfA r2 R' g' cap') (by kernel_rfl) (by kernel_rfl) 30 #[.int .i64 0, .int .i64 0, .int .i64 0, .int .i64 0, .slice none 0 0] HZ2.out.drew (rf_info _ _ _ _) rfl (rf_one _ _ _ _) ⟨Blk.cell (HN2.out.drew.setRowOther _ (by have := HS0.out; omega)) rfl, Blk.cell (HN2.out.drew.setRowOther _ (by have := HS0.out; omega)) rfl, Blk.cell (HN2.out.drew.setRowOther _ (by have := HS0.out; omega)) rfl, Blk.cell (HN2.out.drew.setRowOther _ (by have := HS0.out; omega)) rfl, Blk.cell (HN2.out.drew.setRowOther _ (by have := HS0.out; omega)) rfl⟩ (fun hS => ?_)
      refine wpAnyH_take (i := 16) (v := (.bool true)) rfl (by kernel_rfl) (by kernel_rfl) (by kernel_rfl) (fun _ _ _ h => h) (Or.inl ⟨by kernel_rfl, fun w hS => by obtain ⟨s0, s1, s2, s3, s4⟩ := hS; go_simp⟩) hS ?_
      refine wpAnyH_done (by kernel_rfl) ?_ _
      obtain ⟨W3, hW3, Z3, W3b, W3s, W3o, W3t, W3u⟩ := setRow_named (w := w2.drew) HZ2.out.drew (rfA r2 R' g' cap')
      rw [hW3]
      have HO3 : Hid (Ofc p b w W3) := ⟨W3o.trans HO2.out.os, W3t.trans HO2.out.tape, W3u.trans HO2.out.output, by rw [W3s]; exact HO2.out.size, fun j hj h1 h2 => (W3b j (by omega)).trans (HO2.out.block j hj h1 h2)⟩
      have HB3 : Hid _ := both_row (HF2.out.below (Below.refl _ _).drew) HL2.out.drew HZ2.out.drew (z := 0) (Blk.cell HZ2.out.drew rfl) hW3
      have s0 : W3.cell? ⟨w.heap.size + 2, 0, none⟩ = some (.int .i64 r2.supply) := Z3.cell rfl
      have s1 : W3.cell? ⟨w.heap.size + 2, 1, none⟩ = some (.int .i64 r2.start) := Z3.cell rfl
      have s2 : W3.cell? ⟨w.heap.size + 2, 2, none⟩ = some (.int .i64 r2.step) := Z3.cell rfl
      have s3 : W3.cell? ⟨w.heap.size + 2, 3, none⟩ = some (.int .i64 r2.state) := Z3.cell rfl
      have s4 : W3.cell? ⟨w.heap.size + 2, 4, none⟩ = some (.slice (some ⟨g', 0, none⟩) R' cap') := Z3.cell rfl
      clear hS Z3 W3b W3s W3o W3t W3u hW3
      go_simp
      go_wp2
      try simp only [Exit.inBlock, Exit.then]
      refine bodyPost_ret (by simp [results, Try.results7, go_sem, s0, s1, s2, s3, s4]; rfl) rfl ?_
      first | exact ⟨R', g', cap', rfl, ⟨rs', HB3.out.1⟩, HB3.out.2, HO3.out⟩ | exact ⟨R', g', cap', rs', rfl, HB3.out.1, HB3.out.2, HO3.out⟩
    · have k2 : decide (r2.state = 0) = false := decide_eq_false e2
      have k3 : r0 = true := by have := HO.out; rw [k2] at this; simpa using this
      have k4 : (r2.state != 0) = true := by simp [e2]
      subst k3
      clear e2
      refine wp_region_held_drew (S := (fun wx => wx.cell? ⟨w1.heap.size, 0, none⟩ = some (.int .i64 r2.supply) ∧ wx.cell? ⟨w1.heap.size, 1, none⟩ = some (.int .i64 r2.start) ∧ wx.cell? ⟨w1.heap.size, 2, none⟩ = some (.int .i64 r2.step) ∧ wx.cell? ⟨w1.heap.size, 3, none⟩ = some (.int .i64 r2.state) ∧ wx.cell? ⟨w1.heap.size, 4, none⟩ = some (.slice (some ⟨g', 0, none⟩) R' cap'))) (by kernel_rfl) ⟨Blk.cell (HN2.out.drew) rfl, Blk.cell (HN2.out.drew) rfl, Blk.cell (HN2.out.drew) rfl, Blk.cell (HN2.out.drew) rfl, Blk.cell (HN2.out.drew) rfl⟩ (fun hS => ?_)
      refine wpAnyH_take (i := 0) (v := (.agg #[.int .i64 r2.supply, .int .i64 r2.start, .int .i64 r2.step, .int .i64 r2.state, .slice (some ⟨g', 0, none⟩) R' cap'])) rfl (by kernel_rfl) (by kernel_rfl) (by kernel_rfl) (fun _ _ _ h => h) (Or.inl ⟨by kernel_rfl, fun w hS => by obtain ⟨s0, s1, s2, s3, s4⟩ := hS; go_simp⟩) hS ?_
      refine wpAnyH_take (i := 1) (v := (.int .i64 0)) rfl (by kernel_rfl) (by kernel_rfl) (by kernel_rfl) (fun _ _ _ h => h) (Or.inl ⟨by kernel_rfl, fun w hS => by obtain ⟨s0, s1, s2, s3, s4⟩ := hS; go_simp⟩) hS ?_
      refine wpAnyH_take (i := 2) (v := (.int .i64 0)) rfl (by kernel_rfl) (by kernel_rfl) (by kernel_rfl) (fun _ _ _ h => h) (Or.inl ⟨by kernel_rfl, fun w hS => by obtain ⟨s0, s1, s2, s3, s4⟩ := hS; go_simp⟩) hS ?_
      refine wpAnyH_take (i := 3) (v := (.bool true)) rfl (by kernel_rfl) (by kernel_rfl) (by kernel_rfl) (fun _ _ _ h => h) (Or.inl ⟨by kernel_rfl, fun w hS => by obtain ⟨s0, s1, s2, s3, s4⟩ := hS; go_simp⟩) hS ?_
      refine wpAnyH_take (i := 4) (v := (.bool true)) rfl (by kernel_rfl) (by kernel_rfl) (by kernel_rfl) (fun _ _ _ h => h) (Or.inl ⟨by kernel_rfl, fun w hS => by obtain ⟨s0, s1, s2, s3, s4⟩ := hS; go_simp⟩) hS ?_
      refine wpAnyH_take (i := 5) (v := (.bool true)) rfl (by kernel_rfl) (by kernel_rfl) (by kernel_rfl) (fun _ _ _ h => h) (Or.inl ⟨by kernel_rfl, fun w hS => by obtain ⟨s0, s1, s2, s3, s4⟩ := hS; go_simp⟩) hS ?_
      refine wpAnyH_take (i := 6) (v := (.int .i64 0)) rfl (by kernel_rfl) (by kernel_rfl) (by kernel_rfl) (fun _ _ _ h => h) (Or.inl ⟨by kernel_rfl, fun w hS => by obtain ⟨s0, s1, s2, s3, s4⟩ := hS; go_simp⟩) hS ?_
      refine wpAnyH_take (i := 7) (v := (.bool true)) rfl (by kernel_rfl) (by kernel_rfl) (by kernel_rfl) (fun _ _ _ h => h) (Or.inl ⟨by kernel_rfl, fun w hS => by obtain ⟨s0, s1, s2, s3, s4⟩ := hS; go_simp⟩) hS ?_
      refine wpAnyH_take (i := 8) (v := (.bool true)) rfl (by kernel_rfl) (by kernel_rfl) (by kernel_rfl) (fun _ _ _ h => h) (Or.inl ⟨by kernel_rfl, fun w hS => by obtain ⟨s0, s1, s2, s3, s4⟩ := hS; go_simp⟩) hS ?_
      refine wpAnyH_take (i := 9) (v := (.pointer (some ⟨w1.heap.size, 3, none⟩))) rfl (by kernel_rfl) (by kernel_rfl) (by kernel_rfl) (fun _ _ _ h => h) (Or.inl ⟨by kernel_rfl, fun w hS => by obtain ⟨s0, s1, s2, s3, s4⟩ := hS; go_simp⟩) hS ?_
      refine wpAnyH_take (i := 10) (v := (.int .i64 r2.state)) rfl (by kernel_rfl) (by kernel_rfl) (by kernel_rfl) (fun _ _ _ h => h) (Or.inl ⟨by kernel_rfl, fun w hS => by obtain ⟨s0, s1, s2, s3, s4⟩ := hS; go_simp⟩) hS ?_
      refine wpAnyH_take (i := 11) (v := (.bool true)) rfl (by kernel_rfl) (by kernel_rfl) (by kernel_rfl) (fun _ _ _ h => h) (Or.inl ⟨by kernel_rfl, fun w hS => by obtain ⟨s0, s1, s2, s3, s4⟩ := hS; go_simp⟩) hS ?_
      refine wpAnyH_take (i := 12) (v := (.bool true)) rfl (by kernel_rfl) (by kernel_rfl) (by kernel_rfl) (fun _ _ _ h => h) (Or.inl ⟨by kernel_rfl, fun w hS => by obtain ⟨s0, s1, s2, s3, s4⟩ := hS; go_simp⟩) hS ?_
      refine wpAnyH_take (i := 13) (v := (.bool true)) rfl (by kernel_rfl) (by kernel_rfl) (by kernel_rfl) (fun _ _ _ h => h) (Or.inl ⟨by kernel_rfl, fun w hS => by obtain ⟨s0, s1, s2, s3, s4⟩ := hS; go_simp⟩) hS ?_
      refine wpAnyH_take (i := 14) (v := (.bool true)) rfl (by kernel_rfl) (by kernel_rfl) (by kernel_rfl) (fun _ _ _ h => h) (Or.inl ⟨by kernel_rfl, fun w hS => by obtain ⟨s0, s1, s2, s3, s4⟩ := hS; go_simp⟩) hS ?_
      refine wpAnyH_ready (rs := [15]) (by kernel_rfl) (by simp) ?_
      refine readyH_rowC 15 rfl rfl rfl rfl (w.heap.size + 2) (rfA r2 R' g' cap') (by kernel_rfl) (by kernel_rfl) 30 #[.int .i64 0, .int .i64 0, .int .i64 0, .int .i64 0, .slice none 0 0] HZ2.out.drew (rf_info _ _ _ _) rfl (rf_one _ _ _ _) ⟨Blk.cell (HN2.out.drew.setRowOther _ (by have := HS0.out; omega)) rfl, Blk.cell (HN2.out.drew.setRowOther _ (by have := HS0.out; omega)) rfl, Blk.cell (HN2.out.drew.setRowOther _ (by have := HS0.out; omega)) rfl, Blk.cell (HN2.out.drew.setRowOther _ (by have := HS0.out; omega)) rfl, Blk.cell (HN2.out.drew.setRowOther _ (by have := HS0.out; omega)) rfl⟩ (fun hS => ?_)
      refine wpAnyH_take (i := 16) (v := (.bool true)) rfl (by kernel_rfl) (by kernel_rfl) (by kernel_rfl) (fun _ _ _ h => h) (Or.inl ⟨by kernel_rfl, fun w hS => by obtain ⟨s0, s1, s2, s3, s4⟩ := hS; go_simp⟩) hS ?_
      refine wpAnyH_done (by kernel_rfl) ?_ _
      obtain ⟨W3, hW3, Z3, W3b, W3s, W3o, W3t, W3u⟩ := setRow_named (w := w2.drew) HZ2.out.drew (rfA r2 R' g' cap')
      rw [hW3]
      have HO3 : Hid (Ofc p b w W3) := ⟨W3o.trans HO2.out.os, W3t.trans HO2.out.tape, W3u.trans HO2.out.output, by rw [W3s]; exact HO2.out.size, fun j hj h1 h2 => (W3b j (by omega)).trans (HO2.out.block j hj h1 h2)⟩
      have HB3 : Hid _ := both_row (HF2.out.below (Below.refl _ _).drew) HL2.out.drew HZ2.out.drew (z := 0) (Blk.cell HZ2.out.drew rfl) hW3
      have s0 : W3.cell? ⟨w.heap.size + 2, 0, none⟩ = some (.int .i64 r2.supply) := Z3.cell rfl
      have s1 : W3.cell? ⟨w.heap.size + 2, 1, none⟩ = some (.int .i64 r2.start) := Z3.cell rfl
      have s2 : W3.cell? ⟨w.heap.size + 2, 2, none⟩ = some (.int .i64 r2.step) := Z3.cell rfl
      have s3 : W3.cell? ⟨w.heap.size + 2, 3, none⟩ = some (.int .i64 r2.state) := Z3.cell rfl
      have s4 : W3.cell? ⟨w.heap.size + 2, 4, none⟩ = some (.slice (some ⟨g', 0, none⟩) R' cap') := Z3.cell rfl
      clear hS Z3 W3b W3s W3o W3t W3u hW3
      go_simp
      go_wp2
      try simp only [Exit.inBlock, Exit.then]
      refine bodyPost_ret (by simp [results, Try.results7, go_sem, s0, s1, s2, s3, s4]; rfl) rfl ?_
      first | exact ⟨R', g', cap', rfl, ⟨rs', HB3.out.1⟩, HB3.out.2, HO3.out⟩ | exact ⟨R', g', cap', rs', rfl, HB3.out.1, HB3.out.2, HO3.out⟩
  · have k1 : decide (r1 = 0) = false := decide_eq_false e1
    have k2 : (r1 == 0) = false := k1
    have k3 : r0 = false := by have := HO.out; rw [k1, Bool.false_and] at this; exact this
    subst k3
    clear e1
    refine wp_region_held_drew (S := (fun wx => wx.cell? ⟨w1.heap.size, 0, none⟩ = some (.int .i64 r2.supply) ∧ wx.cell? ⟨w1.heap.size, 1, none⟩ = some (.int .i64 r2.start) ∧ wx.cell? ⟨w1.heap.size, 2, none⟩ = some (.int .i64 r2.step) ∧ wx.cell? ⟨w1.heap.size, 3, none⟩ = some (.int .i64 r2.state) ∧ wx.cell? ⟨w1.heap.size, 4, none⟩ = some (.slice (some ⟨g', 0, none⟩) R' cap'))) (by kernel_rfl) ⟨Blk.cell (HN2.out.drew) rfl, Blk.cell (HN2.out.drew) rfl, Blk.cell (HN2.out.drew) rfl, Blk.cell (HN2.out.drew) rfl, Blk.cell (HN2.out.drew) rfl⟩ (fun hS => ?_)
    refine wpAnyH_take (i := 0) (v := (.agg #[.int .i64 r2.supply, .int .i64 r2.start, .int .i64 r2.step, .int .i64 r2.state, .slice (some ⟨g', 0, none⟩) R' cap'])) rfl (by kernel_rfl) (by kernel_rfl) (by kernel_rfl) (fun _ _ _ h => h) (Or.inl ⟨by kernel_rfl, fun w hS => by obtain ⟨s0, s1, s2, s3, s4⟩ := hS; go_simp⟩) hS ?_
    refine wpAnyH_take (i := 1) (v := (.int .i64 r1)) rfl (by kernel_rfl) (by kernel_rfl) (by kernel_rfl) (fun _ _ _ h => h) (Or.inl ⟨by kernel_rfl, fun w hS => by obtain ⟨s0, s1, s2, s3, s4⟩ := hS; go_simp⟩) hS ?_
    refine wpAnyH_take (i := 2) (v := (.int .i64 r1)) rfl (by kernel_rfl) (by kernel_rfl) (by kernel_rfl) (fun _ _ _ h => h) (Or.inl ⟨by kernel_rfl, fun w hS => by obtain ⟨s0, s1, s2, s3, s4⟩ := hS; go_simp⟩) hS ?_
    refine wpAnyH_take (i := 3) (v := (.bool true)) rfl (by kernel_rfl) (by kernel_rfl) (by kernel_rfl) (fun _ _ _ h => h) (Or.inl ⟨by kernel_rfl, fun w hS => by obtain ⟨s0, s1, s2, s3, s4⟩ := hS; go_simp⟩) hS ?_
    refine wpAnyH_take (i := 4) (v := (.bool true)) rfl (by kernel_rfl) (by kernel_rfl) (by kernel_rfl) (fun _ _ _ h => h) (Or.inl ⟨by kernel_rfl, fun w hS => by obtain ⟨s0, s1, s2, s3, s4⟩ := hS; go_simp⟩) hS ?_
    refine wpAnyH_take (i := 5) (v := (.bool false)) rfl (by kernel_rfl) (by kernel_rfl) (by kernel_rfl) (fun _ _ _ h => h) (Or.inl ⟨by kernel_rfl, fun w hS => by obtain ⟨s0, s1, s2, s3, s4⟩ := hS; go_simp⟩) hS ?_
    refine wpAnyH_take (i := 6) (v := (.int .i64 r1)) rfl (by kernel_rfl) (by kernel_rfl) (by kernel_rfl) (fun _ _ _ h => h) (Or.inl ⟨by kernel_rfl, fun w hS => by obtain ⟨s0, s1, s2, s3, s4⟩ := hS; go_simp⟩) hS ?_
    refine wpAnyH_take (i := 7) (v := (.bool false)) rfl (by kernel_rfl) (by kernel_rfl) (by kernel_rfl) (fun _ _ _ h => h) (Or.inl ⟨by kernel_rfl, fun w hS => by obtain ⟨s0, s1, s2, s3, s4⟩ := hS; go_simp⟩) hS ?_
    refine wpAnyH_take (i := 8) (v := (.bool false)) rfl (by kernel_rfl) (by kernel_rfl) (by kernel_rfl) (fun _ _ _ h => h) (Or.inl ⟨by kernel_rfl, fun w hS => by obtain ⟨s0, s1, s2, s3, s4⟩ := hS; go_simp⟩) hS ?_
    refine wpAnyH_take (i := 9) (v := undef) rfl (by kernel_rfl) (by kernel_rfl) (by kernel_rfl) (fun _ _ _ h => h) (Or.inr ⟨by kernel_rfl, rfl⟩) hS ?_
    refine wpAnyH_take (i := 10) (v := undef) rfl (by kernel_rfl) (by kernel_rfl) (by kernel_rfl) (fun _ _ _ h => h) (Or.inr ⟨by kernel_rfl, rfl⟩) hS ?_
    refine wpAnyH_take (i := 11) (v := undef) rfl (by kernel_rfl) (by kernel_rfl) (by kernel_rfl) (fun _ _ _ h => h) (Or.inr ⟨by kernel_rfl, rfl⟩) hS ?_
    refine wpAnyH_take (i := 12) (v := (.bool false)) rfl (by kernel_rfl) (by kernel_rfl) (by kernel_rfl) (fun _ _ _ h => h) (Or.inl ⟨by kernel_rfl, fun w hS => by obtain ⟨s0, s1, s2, s3, s4⟩ := hS; go_simp⟩) hS ?_
    refine wpAnyH_take (i := 13) (v := (.bool true)) rfl (by kernel_rfl) (by kernel_rfl) (by kernel_rfl) (fun _ _ _ h => h) (Or.inl ⟨by kernel_rfl, fun w hS => by obtain ⟨s0, s1, s2, s3, s4⟩ := hS; go_simp⟩) hS ?_
    refine wpAnyH_take (i := 14) (v := (.bool true)) rfl (by kernel_rfl) (by kernel_rfl) (by kernel_rfl) (fun _ _ _ h => h) (Or.inl ⟨by kernel_rfl, fun w hS => by obtain ⟨s0, s1, s2, s3, s4⟩ := hS; go_simp⟩) hS ?_
    refine wpAnyH_ready (rs := [15]) (by kernel_rfl) (by simp) ?_
    refine readyH_rowC 15 rfl rfl rfl rfl (w.heap.size + 2) (rfA r2 R' g' cap') (by kernel_rfl) (by kernel_rfl) 30 #[.int .i64 0, .int .i64 0, .int .i64 0, .int .i64 0, .slice none 0 0] HZ2.out.drew (rf_info _ _ _ _) rfl (rf_one _ _ _ _) ⟨Blk.cell (HN2.out.drew.setRowOther _ (by have := HS0.out; omega)) rfl, Blk.cell (HN2.out.drew.setRowOther _ (by have := HS0.out; omega)) rfl, Blk.cell (HN2.out.drew.setRowOther _ (by have := HS0.out; omega)) rfl, Blk.cell (HN2.out.drew.setRowOther _ (by have := HS0.out; omega)) rfl, Blk.cell (HN2.out.drew.setRowOther _ (by have := HS0.out; omega)) rfl⟩ (fun hS => ?_)
    refine wpAnyH_take (i := 16) (v := (.bool true)) rfl (by kernel_rfl) (by kernel_rfl) (by kernel_rfl) (fun _ _ _ h => h) (Or.inl ⟨by kernel_rfl, fun w hS => by obtain ⟨s0, s1, s2, s3, s4⟩ := hS; go_simp⟩) hS ?_
    refine wpAnyH_done (by kernel_rfl) ?_ _
    obtain ⟨W3, hW3, Z3, W3b, W3s, W3o, W3t, W3u⟩ := setRow_named (w := w2.drew) HZ2.out.drew (rfA r2 R' g' cap')
    rw [hW3]
    have HO3 : Hid (Ofc p b w W3) := ⟨W3o.trans HO2.out.os, W3t.trans HO2.out.tape, W3u.trans HO2.out.output, by rw [W3s]; exact HO2.out.size, fun j hj h1 h2 => (W3b j (by omega)).trans (HO2.out.block j hj h1 h2)⟩
    have HB3 : Hid _ := both_row (HF2.out.below (Below.refl _ _).drew) HL2.out.drew HZ2.out.drew (z := 0) (Blk.cell HZ2.out.drew rfl) hW3
    have s0 : W3.cell? ⟨w.heap.size + 2, 0, none⟩ = some (.int .i64 r2.supply) := Z3.cell rfl
    have s1 : W3.cell? ⟨w.heap.size + 2, 1, none⟩ = some (.int .i64 r2.start) := Z3.cell rfl
    have s2 : W3.cell? ⟨w.heap.size + 2, 2, none⟩ = some (.int .i64 r2.step) := Z3.cell rfl
    have s3 : W3.cell? ⟨w.heap.size + 2, 3, none⟩ = some (.int .i64 r2.state) := Z3.cell rfl
    have s4 : W3.cell? ⟨w.heap.size + 2, 4, none⟩ = some (.slice (some ⟨g', 0, none⟩) R' cap') := Z3.cell rfl
    clear hS Z3 W3b W3s W3o W3t W3u hW3
    go_simp
    go_wp2
    try simp only [Exit.inBlock, Exit.then]
    refine bodyPost_ret (by simp [results, Try.results7, go_sem, s0, s1, s2, s3, s4]; rfl) rfl ?_
    first | exact ⟨R', g', cap', rfl, ⟨rs', HB3.out.1⟩, HB3.out.2, HO3.out⟩ | exact ⟨R', g', cap', rs', rfl, HB3.out.1, HB3.out.2, HO3.out⟩
set_option maxRecDepth 100000 in
set_option maxHeartbeats 2000000 in
theorem step_bid (w : World) (hp : Lc w p b a) (h : Rf w a R g cap rs) (k who n : Int) (hk : ¬ arn k 3 = 2) : Calls Try.prog 7 #[.pointer (some ⟨p, 0, none⟩), rfV a R g cap, .agg #[.int .i64 k, .int .i64 who, .int .i64 n]] w fun e w' => ∃ R' g' cap' rs', e = .returned (.tuple #[rfV (a.bid who n).2 R' g' cap', .bool true]) ∧ Rf w' (a.bid who n).2 R' g' cap' rs' ∧ Lc w' p b (a.bid who n).2 ∧ Ofc p b w w' := by
  obtain ⟨W0, hW0, X0, Y0, Z0, B0, hs0⟩ := step_box w a R g cap k who n
  have HS0 : Hid _ := hs0
  have hpl : p < w.heap.size := hp.blk.lt
  have hbl : b < w.heap.size := hp.row.lt
  rw [show rfA a R g cap = #[.int .i64 a.supply, .int .i64 a.start, .int .i64 a.step, .int .i64 a.state, .slice (some ⟨g, 0, none⟩) R cap] from rfl] at X0
  have c0 : W0.cell? ⟨w.heap.size, 0, none⟩ = some (.int .i64 a.supply) := X0.cell rfl
  have c1 : W0.cell? ⟨w.heap.size, 1, none⟩ = some (.int .i64 a.start) := X0.cell rfl
  have c2 : W0.cell? ⟨w.heap.size, 2, none⟩ = some (.int .i64 a.step) := X0.cell rfl
  have c3 : W0.cell? ⟨w.heap.size, 3, none⟩ = some (.int .i64 a.state) := X0.cell rfl
  have c4 : W0.cell? ⟨w.heap.size, 4, none⟩ = some (.slice (some ⟨g, 0, none⟩) R cap) := X0.cell rfl
  have d0 : W0.cell? ⟨w.heap.size + 1, 0, none⟩ = some (.int .i64 k) := Y0.cell rfl
  have d1 : W0.cell? ⟨w.heap.size + 1, 1, none⟩ = some (.int .i64 who) := Y0.cell rfl
  have d2 : W0.cell? ⟨w.heap.size + 1, 2, none⟩ = some (.int .i64 n) := Y0.cell rfl
  have hd : (arn k 3 == 2) = false := by simpa using hk
  have HN : Hid _ := refBid_calls W0 (h.below B0) who n
  have HL : Hid _ := hp.below B0
  generalize hr : a.bid who n = r at *
  obtain ⟨r1, r2⟩ := r
  have HR : Hid _ := hr
  have HB0 : Hid _ := B0
  have HA : Hid _ := fun wx => around_calls k 3 wx (by decide) (by decide)
  generalize arn k 3 = kk at *
  clear hs0 hr hp h B0 hk
  unfold rfV rfA at *
  go_enter Try.func7, Try.ntmps7
  go_wp2_with fail
  refine Calls.mono (HA.out _) ?_
  rintro e wa ⟨rfl, hwa⟩
  obtain rfl := hwa.symm
  go_wp2_with fail
  refine Calls.mono HN.out ?_
  rintro e w1 ⟨R', g', cap', rs', rfl, hf1, b1⟩
  obtain ⟨W1, hW1, N1, B1⟩ := rf_box w1 r2 R' g' cap'
  have HF1 : Hid _ := Rf.below hf1 B1
  have HL1 : Hid _ := Lc.below (Lc.below HL.out b1) B1
  have Y1 := (Y0.below b1).below B1
  have Z1 := (Z0.below b1).below B1
  have z1 := b1.size
  have zw : w1.heap.size < W1.heap.size := N1.lt
  have HNx : Hid (∀ wx, Below W1.heap.size W1 wx → Calls Try.prog 10 #[.pointer (some ⟨p, 0, none⟩), .int .i64 who, .int .i64 n] wx fun e w' => e = .returned (.int .i64 r1) ∧ Lc w' p b r2 ∧ Ofc p b wx w') := fun wx hb => bid_calls wx (HL1.out.below hb) _ _ _ HR.out
  have HB1 : Hid (Below w.heap.size w W1) := HB0.out.trans ((b1.mono (by have := HS0.out; omega)).trans (B1.mono (by have := HS0.out; omega)))
  have HN1 : Hid (Blk W1 w1.heap.size (rfA r2 R' g' cap') 30) := N1
  have HY1 : Hid (Blk W1 (w.heap.size + 1) #[.int .i64 k, .int .i64 who, .int .i64 n] 36) := Y1
  have HZ1 : Hid (Blk W1 (w.heap.size + 2) #[.int .i64 0, .int .i64 0, .int .i64 0, .int .i64 0, .slice none 0 0] 30) := Z1
  clear hf1 X0 Y0 Z0 c0 c1 c2 c3 c4 d0 d1 d2 b1 B1 HN HL N1 Y1 Z1 HA
  go_wp2_with fail
  refine wp_region_held_drew (S := (fun wx => wx.cell? ⟨w1.heap.size, 0, none⟩ = some (.int .i64 r2.supply) ∧ wx.cell? ⟨w1.heap.size, 1, none⟩ = some (.int .i64 r2.start) ∧ wx.cell? ⟨w1.heap.size, 2, none⟩ = some (.int .i64 r2.step) ∧ wx.cell? ⟨w1.heap.size, 3, none⟩ = some (.int .i64 r2.state) ∧ wx.cell? ⟨w1.heap.size, 4, none⟩ = some (.slice (some ⟨g', 0, none⟩) R' cap') ∧ wx.cell? ⟨w.heap.size + 1, 1, none⟩ = some (.int .i64 who) ∧ wx.cell? ⟨w.heap.size + 1, 2, none⟩ = some (.int .i64 n))) (by kernel_rfl) ⟨Blk.cell (HN1.out.drew) rfl, Blk.cell (HN1.out.drew) rfl, Blk.cell (HN1.out.drew) rfl, Blk.cell (HN1.out.drew) rfl, Blk.cell (HN1.out.drew) rfl, Blk.cell (HY1.out.drew) rfl, Blk.cell (HY1.out.drew) rfl⟩ (fun hS => ?_)
  refine wpAnyH_take (i := 0) (v := (.agg #[.int .i64 r2.supply, .int .i64 r2.start, .int .i64 r2.step, .int .i64 r2.state, .slice (some ⟨g', 0, none⟩) R' cap'])) rfl (by kernel_rfl) (by kernel_rfl) (by kernel_rfl) (fun _ _ _ h => h) (Or.inl ⟨by kernel_rfl, fun w hS => by obtain ⟨s0, s1, s2, s3, s4, s5, s6⟩ := hS; go_simp⟩) hS ?_
  refine wpAnyH_take (i := 1) (v := (.pointer (some ⟨p, 0, none⟩))) rfl (by kernel_rfl) (by kernel_rfl) (by kernel_rfl) (fun _ _ _ h => h) (Or.inl ⟨by kernel_rfl, fun w hS => by obtain ⟨s0, s1, s2, s3, s4, s5, s6⟩ := hS; go_simp⟩) hS ?_
  refine wpAnyH_take (i := 2) (v := (.pointer (some ⟨w.heap.size + 1, 1, none⟩))) rfl (by kernel_rfl) (by kernel_rfl) (by kernel_rfl) (fun _ _ _ h => h) (Or.inl ⟨by kernel_rfl, fun w hS => by obtain ⟨s0, s1, s2, s3, s4, s5, s6⟩ := hS; go_simp⟩) hS ?_
  refine wpAnyH_take (i := 3) (v := (.int .i64 who)) rfl (by kernel_rfl) (by kernel_rfl) (by kernel_rfl) (fun _ _ _ h => h) (Or.inl ⟨by kernel_rfl, fun w hS => by obtain ⟨s0, s1, s2, s3, s4, s5, s6⟩ := hS; go_simp⟩) hS ?_
  refine wpAnyH_take (i := 4) (v := (.pointer (some ⟨w.heap.size + 1, 2, none⟩))) rfl (by kernel_rfl) (by kernel_rfl) (by kernel_rfl) (fun _ _ _ h => h) (Or.inl ⟨by kernel_rfl, fun w hS => by obtain ⟨s0, s1, s2, s3, s4, s5, s6⟩ := hS; go_simp⟩) hS ?_
  refine wpAnyH_take (i := 5) (v := (.int .i64 n)) rfl (by kernel_rfl) (by kernel_rfl) (by kernel_rfl) (fun _ _ _ h => h) (Or.inl ⟨by kernel_rfl, fun w hS => by obtain ⟨s0, s1, s2, s3, s4, s5, s6⟩ := hS; go_simp⟩) hS ?_
  refine wpAnyH_take (i := 7) (v := (.int .i64 r1)) rfl (by kernel_rfl) (by kernel_rfl) (by kernel_rfl) (fun _ _ _ h => h) (Or.inl ⟨by kernel_rfl, fun w hS => by obtain ⟨s0, s1, s2, s3, s4, s5, s6⟩ := hS; go_simp⟩) hS ?_
  refine wpAnyH_ready (rs := [6]) (by kernel_rfl) (by simp) ?_
  refine AllReadyH.cons rfl (fun K hK => ?_) AllReadyH.nil
  go_simp
  refine Calls.mono (HNx.out _ (Below.refl _ _).drew) ?_
  rintro e w2 ⟨rfl, hl2, o2⟩
  have HL2 : Hid _ := hl2
  have HN2 : Hid (Blk w2 w1.heap.size (rfA r2 R' g' cap') 30) := Blk.ofc HN1.out.drew o2 (by have := HS0.out; omega) (by have := HS0.out; omega)
  have HY2 : Hid (Blk w2 (w.heap.size + 1) #[.int .i64 k, .int .i64 who, .int .i64 n] 36) := Blk.ofc HY1.out.drew o2 (by omega) (by omega)
  have HZ2 : Hid (Blk w2 (w.heap.size + 2) #[.int .i64 0, .int .i64 0, .int .i64 0, .int .i64 0, .slice none 0 0] 30) := Blk.ofc HZ1.out.drew o2 (by omega) (by omega)
  have HF2 : Hid _ := Rf.ofc (HF1.out.below (Below.refl _ _).drew) HL1.out.drew o2
  have HO2 : Hid (Ofc p b w w2) := (Ofc.of_below HB1.out).drew.trans o2
  clear hl2 o2
  refine hK.out _ _ ⟨Blk.cell (HN2.out) rfl, Blk.cell (HN2.out) rfl, Blk.cell (HN2.out) rfl, Blk.cell (HN2.out) rfl, Blk.cell (HN2.out) rfl, Blk.cell (HY2.out) rfl, Blk.cell (HY2.out) rfl⟩ (fun hS => ?_)
  clear hK
  refine wpAnyH_take (i := 8) (v := (.bool true)) rfl (by kernel_rfl) (by kernel_rfl) (by kernel_rfl) (fun _ _ _ h => h) (Or.inl ⟨by kernel_rfl, fun w hS => by obtain ⟨s0, s1, s2, s3, s4, s5, s6⟩ := hS; go_simp⟩) hS ?_
  refine wpAnyH_ready (rs := [9]) (by kernel_rfl) (by simp) ?_
  refine readyH_rowC 9 rfl rfl rfl rfl (w.heap.size + 2) (rfA r2 R' g' cap') (by kernel_rfl) (by kernel_rfl) 30 #[.int .i64 0, .int .i64 0, .int .i64 0, .int .i64 0, .slice none 0 0] HZ2.out (rf_info _ _ _ _) rfl (rf_one _ _ _ _) ⟨Blk.cell (HN2.out.setRowOther _ (by have := HS0.out; omega)) rfl, Blk.cell (HN2.out.setRowOther _ (by have := HS0.out; omega)) rfl, Blk.cell (HN2.out.setRowOther _ (by have := HS0.out; omega)) rfl, Blk.cell (HN2.out.setRowOther _ (by have := HS0.out; omega)) rfl, Blk.cell (HN2.out.setRowOther _ (by have := HS0.out; omega)) rfl, Blk.cell (HY2.out.setRowOther _ (by omega)) rfl, Blk.cell (HY2.out.setRowOther _ (by omega)) rfl⟩ (fun hS => ?_)
  refine wpAnyH_take (i := 10) (v := (.bool true)) rfl (by kernel_rfl) (by kernel_rfl) (by kernel_rfl) (fun _ _ _ h => h) (Or.inl ⟨by kernel_rfl, fun w hS => by obtain ⟨s0, s1, s2, s3, s4, s5, s6⟩ := hS; go_simp⟩) hS ?_
  refine wpAnyH_done (by kernel_rfl) ?_ _
  obtain ⟨W3, hW3, Z3, W3b, W3s, W3o, W3t, W3u⟩ := setRow_named (w := w2) HZ2.out (rfA r2 R' g' cap')
  rw [hW3]
  have HO3 : Hid (Ofc p b w W3) := ⟨W3o.trans HO2.out.os, W3t.trans HO2.out.tape, W3u.trans HO2.out.output, by rw [W3s]; exact HO2.out.size, fun j hj h1 h2 => (W3b j (by omega)).trans (HO2.out.block j hj h1 h2)⟩
  have HB3 : Hid _ := both_row HF2.out HL2.out HZ2.out (z := 0) (Blk.cell HZ2.out rfl) hW3
  have s0 : W3.cell? ⟨w.heap.size + 2, 0, none⟩ = some (.int .i64 r2.supply) := Z3.cell rfl
  have s1 : W3.cell? ⟨w.heap.size + 2, 1, none⟩ = some (.int .i64 r2.start) := Z3.cell rfl
  have s2 : W3.cell? ⟨w.heap.size + 2, 2, none⟩ = some (.int .i64 r2.step) := Z3.cell rfl
  have s3 : W3.cell? ⟨w.heap.size + 2, 3, none⟩ = some (.int .i64 r2.state) := Z3.cell rfl
  have s4 : W3.cell? ⟨w.heap.size + 2, 4, none⟩ = some (.slice (some ⟨g', 0, none⟩) R' cap') := Z3.cell rfl
  clear hS Z3 W3b W3s W3o W3t W3u hW3
  go_simp
  go_wp2
  try simp only [Exit.inBlock, Exit.then]
  refine bodyPost_ret (by simp [results, Try.results7, go_sem, s0, s1, s2, s3, s4]; rfl) rfl ?_
  first | exact ⟨R', g', cap', rfl, ⟨rs', HB3.out.1⟩, HB3.out.2, HO3.out⟩ | exact ⟨R', g', cap', rs', rfl, HB3.out.1, HB3.out.2, HO3.out⟩
theorem step_calls (w : World) (hp : Lc w p b a) (h : Rf w a R g cap rs) (x : Ac) : Calls Try.prog 7 #[.pointer (some ⟨p, 0, none⟩), rfV a R g cap, .agg #[.int .i64 x.kind, .int .i64 x.who, .int .i64 x.n]] w fun e w' => ∃ R' g' cap' rs', e = .returned (.tuple #[rfV (a.act x) R' g' cap', .bool true]) ∧ Rf w' (a.act x) R' g' cap' rs' ∧ Lc w' p b (a.act x) ∧ Ofc p b w w' := by
  unfold Au.act
  by_cases hk : arn x.kind 3 = 2
  · rw [if_pos hk]; exact step_next w hp h x.kind x.who x.n hk
  · rw [if_neg hk]; exact step_bid w hp h x.kind x.who x.n hk
end Go.Proofs.Yteinfckkpkbnlaa
