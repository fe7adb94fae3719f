/- What the document makes of a call is what the program makes of it. -/
import Derived.Test.YtmcafgmjfgfaeaaDoorLw31
import Derived.Deep.RegionHeld
namespace Go.Proofs.YtmcafgmjfgfaeaaDoor
open Go.RowKit
set_option linter.unusedSimpArgs false
set_option linter.unusedVariables false
variable {g base : Nat} {m l : List Kt}

set_option maxRecDepth 100000 in
set_option maxHeartbeats 2000000 in
theorem told_9 (w : World) (v : Value) (a : Ac) (h : Rm w base v m) (S : Sim m l) (H : Inv g l) (hbase : base ≤ w.heap.size) (hk : rest a.kind 11 = 9) :
    Calls Tryd.prog 7 #[.agg #[.int .i64 g, v], a.val] w (Told (act g l a) g base w) := by
  have hg4 := H.g4
  obtain ⟨q, cap, rfl, hbq, hq, hcap, _⟩ := h.at (by rw [S.len]; exact H.pos)
  obtain ⟨W1, hW1, X1, A1, Y1, B1, Z1⟩ : ∃ W1, (((w.alloc (.cells #[.int .i64 g, .slice (some ⟨q, 0, none⟩) m.length cap] 29)).alloc (.cells #[.int .i64 a.kind, .int .i64 a.who, .int .i64 a.dst, .int .i64 a.good, .int .i64 a.n, .string a.text] 24)).alloc (.cells #[.int .i64 0, .slice none 0 0] 29)) = W1 ∧ Blk W1 w.heap.size (rlA g (.slice (some ⟨q, 0, none⟩) m.length cap)) 29 ∧ Blk W1 (w.heap.size + 1) (actA a) 24 ∧ Blk W1 (w.heap.size + 2) (rlA 0 (.slice none 0 0)) 29 ∧ Below w.heap.size w W1 ∧ W1.heap.size = w.heap.size + 3 :=
    ⟨_, rfl, ((blk_new _ _ _ _ rfl).alloc _).alloc _, (blk_new _ _ _ _ (by simp)).alloc _, blk_new _ _ _ _ (by simp), by go_grown, by simp⟩
  have har := around_calls a.kind 11 W1 (by omega) (by omega)
  rw [show ((rest a.kind (11 : Int).toNat : Nat) : Int) = 9 by rw [show (11 : Int).toNat = 11 from rfl, hk]; rfl] at har
  have e0 : W1.cell? ⟨w.heap.size + 1, 0, none⟩ = some (.int .i64 a.kind) := A1.cell rfl
  have e1 : W1.cell? ⟨w.heap.size + 1, 1, none⟩ = some (.int .i64 a.who) := A1.cell rfl
  have e2 : W1.cell? ⟨w.heap.size + 1, 2, none⟩ = some (.int .i64 a.dst) := A1.cell rfl
  have e3 : W1.cell? ⟨w.heap.size + 1, 3, none⟩ = some (.int .i64 a.good) := A1.cell rfl
  have e4 : W1.cell? ⟨w.heap.size + 1, 4, none⟩ = some (.int .i64 a.n) := A1.cell rfl
  have e5 : W1.cell? ⟨w.heap.size + 1, 5, none⟩ = some (.string a.text) := A1.cell rfl
  have c0 : W1.cell? ⟨w.heap.size, 0, none⟩ = some (.int .i64 g) := X1.cell rfl
  have c1 : W1.cell? ⟨w.heap.size, 1, none⟩ = some (.slice (some ⟨q, 0, none⟩) m.length cap) := X1.cell rfl
  have R1 := h.below B1
  have hr : gate (refPt g l.length (ptOf a.good) a.n [a.who, a.dst]) l (overR l a.who.toNat a.dst.toNat (apf (ptOf a.good).toNat) (hpf (ptOf a.good).toNat) a.n) = act g l a := by
    rw [refPt_good _ _ _ _ _ hg4, act_eq9 hk]
    exact gate_congr (fun h0 => by
      obtain ⟨u1, u2⟩ := ptOf_ok hg4 h0
      simp only [u1, u2])
  have HF : Hid _ := fun (wx : World) (hB : Below W1.heap.size W1 wx) => over_ref (base := base) wx _ a.who a.dst (ptOf a.good) a.n (R1.below hB) S H (by have := hB.size; omega) _ hr
  have HP : Hid _ := fun (wx : World) => part_calls a.good wx
  have HX1 : Hid _ := X1
  have HA1 : Hid _ := A1
  clear hk hr X1 A1
  generalize act g l a = r at *
  generalize ptOf a.good = pg at *
  unfold Ac.val
  go_enter Tryd.func7, Tryd.ntmps7
  go_wp2_with fail
  refine har.mono ?_
  rintro e w1 ⟨rfl, rfl⟩
  go_wp2_with fail
  have HZ1 : Hid _ := Z1
  have hz3 : w.heap.size + 3 ≤ w1.heap.size := by omega
  clear e0 e1 e2 e3 e4 e5 c0 c1 hW1 Z1 har
  refine wp_region_held_drew (S := (fun wx => Blk wx w.heap.size (rlA g (.slice (some ⟨q, 0, none⟩) m.length cap)) 29 ∧ Blk wx (w.heap.size + 1) (actA a) 24)) (by kernel_rfl) ⟨Blk.drew HX1.out, Blk.drew HA1.out⟩ (fun hS => ?_)
  refine wpAnyH_take (i := 0) (v := .agg #[.int .i64 g, .slice (some ⟨q, 0, none⟩) m.length cap]) rfl (by kernel_rfl) (by kernel_rfl) (by kernel_rfl) (fun _ _ _ h => h) (Or.inl ⟨by rfl, fun w3 hS => by obtain ⟨s0, s1⟩ := hS; have c0 := s0.cell (o := 0) (v := .int .i64 g) rfl; have c1 := s0.cell (o := 1) (v := .slice (some ⟨q, 0, none⟩) m.length cap) rfl; go_simp⟩) hS ?_
  refine wpAnyH_take (i := 1) (v := .pointer (some ⟨w.heap.size + 1, 1, none⟩)) rfl (by kernel_rfl) (by kernel_rfl) (by kernel_rfl) (fun _ _ _ h => h) (Or.inl ⟨by rfl, fun w3 hS => by obtain ⟨s0, s1⟩ := hS; go_simp⟩) hS ?_
  refine wpAnyH_take (i := 2) (v := .int .i64 a.who) rfl (by kernel_rfl) (by kernel_rfl) (by kernel_rfl) (fun _ _ _ h => h) (Or.inl ⟨by rfl, fun w3 hS => by obtain ⟨s0, s1⟩ := hS; have c0 := s1.cell (o := 1) (v := .int .i64 a.who) rfl; go_simp⟩) hS ?_
  refine wpAnyH_take (i := 3) (v := .pointer (some ⟨w.heap.size + 1, 2, none⟩)) rfl (by kernel_rfl) (by kernel_rfl) (by kernel_rfl) (fun _ _ _ h => h) (Or.inl ⟨by rfl, fun w3 hS => by obtain ⟨s0, s1⟩ := hS; go_simp⟩) hS ?_
  refine wpAnyH_take (i := 4) (v := .int .i64 a.dst) rfl (by kernel_rfl) (by kernel_rfl) (by kernel_rfl) (fun _ _ _ h => h) (Or.inl ⟨by rfl, fun w3 hS => by obtain ⟨s0, s1⟩ := hS; have c0 := s1.cell (o := 2) (v := .int .i64 a.dst) rfl; go_simp⟩) hS ?_
  refine wpAnyH_take (i := 5) (v := .pointer (some ⟨w.heap.size + 1, 3, none⟩)) rfl (by kernel_rfl) (by kernel_rfl) (by kernel_rfl) (fun _ _ _ h => h) (Or.inl ⟨by rfl, fun w3 hS => by obtain ⟨s0, s1⟩ := hS; go_simp⟩) hS ?_
  refine wpAnyH_take (i := 6) (v := .int .i64 a.good) rfl (by kernel_rfl) (by kernel_rfl) (by kernel_rfl) (fun _ _ _ h => h) (Or.inl ⟨by rfl, fun w3 hS => by obtain ⟨s0, s1⟩ := hS; have c0 := s1.cell (o := 3) (v := .int .i64 a.good) rfl; go_simp⟩) hS ?_
  refine wpAnyH_take (i := 8) (v := .pointer (some ⟨w.heap.size + 1, 4, none⟩)) rfl (by kernel_rfl) (by kernel_rfl) (by kernel_rfl) (fun _ _ _ h => h) (Or.inl ⟨by rfl, fun w3 hS => by obtain ⟨s0, s1⟩ := hS; go_simp⟩) hS ?_
  refine wpAnyH_take (i := 9) (v := .int .i64 a.n) rfl (by kernel_rfl) (by kernel_rfl) (by kernel_rfl) (fun _ _ _ h => h) (Or.inl ⟨by rfl, fun w3 hS => by obtain ⟨s0, s1⟩ := hS; have c0 := s1.cell (o := 4) (v := .int .i64 a.n) rfl; go_simp⟩) hS ?_
  refine wpAnyH_ready (rs := [7]) (by kernel_rfl) (by simp) ?_
  refine AllReadyH.cons rfl (fun K hK => ?_) AllReadyH.nil
  go_simp
  refine (HP.out _).mono ?_
  rintro e w5 ⟨rfl, rfl⟩
  refine hK.out _ _ hS (fun hS => ?_)
  clear hK
  refine wpAnyH_ready (rs := [10]) (by kernel_rfl) (by simp) ?_
  refine AllReadyH.cons rfl (fun K hK => ?_) AllReadyH.nil
  go_simp
  refine (HF.out _ ((Below.refl _ _).drew)).mono ?_
  rintro e w2 ⟨q2, cap2, m2, rfl, R2, S2, b2⟩
  refine hK.out _ _ ⟨hS.1.below b2, hS.2.below b2⟩ (fun hS => ?_)
  clear hK
  refine wpAnyH_take (i := 11) (v := .agg #[.int .i64 g, .slice (some ⟨q2, 0, none⟩) m2.length cap2]) rfl (by kernel_rfl) (by kernel_rfl) (by kernel_rfl) (fun _ _ _ h => h) (Or.inl ⟨by rfl, fun w3 hS => by obtain ⟨s0, s1⟩ := hS; go_simp⟩) hS ?_
  refine wpAnyH_take (i := 12) (v := .int .i64 r.1) rfl (by kernel_rfl) (by kernel_rfl) (by kernel_rfl) (fun _ _ _ h => h) (Or.inl ⟨by rfl, fun w3 hS => by obtain ⟨s0, s1⟩ := hS; go_simp⟩) hS ?_
  have z2 : w1.heap.size ≤ w2.heap.size := b2.size
  have Y2 := Blk.below (show Blk w1.drew _ _ _ from Y1) b2
  obtain ⟨W9, hW9, Y9, R9, B9⟩ : ∃ W9, w2.setRow (w.heap.size + 2) (rlA g (.slice (some ⟨q2, 0, none⟩) m2.length cap2)) = W9 ∧ Blk W9 (w.heap.size + 2) (rlA g (.slice (some ⟨q2, 0, none⟩) m2.length cap2)) 29 ∧ Rm W9 base (.slice (some ⟨q2, 0, none⟩) m2.length cap2) m2 ∧ Below w.heap.size w W9 := ⟨_, rfl, Blk.setRow Y2 _, Rm.row R2 Y2 _, below_setRow (B1.drew.trans (b2.mono (by show w.heap.size ≤ w1.drew.heap.size; simp; omega))) _ _ (by omega)⟩
  have s0 : W9.cell? ⟨w.heap.size + 2, 0, none⟩ = some (.int .i64 g) := Y9.cell rfl
  have s1 : W9.cell? ⟨w.heap.size + 2, 1, none⟩ = some (.slice (some ⟨q2, 0, none⟩) m2.length cap2) := Y9.cell rfl
  refine wpAnyH_ready (rs := [13]) (by kernel_rfl) (by simp) ?_
  refine AllReadyH.cons rfl (fun K hK => ?_) AllReadyH.nil
  refine step_ifR rfl ?_
  refine wp_store_row 29 (.tmp 4) _ rfl (w.heap.size + 2) (rlA g (.slice (some ⟨q2, 0, none⟩) m2.length cap2)) rfl rfl 29 _ Y2 (rlA_info _ _) rfl (rlA_one _ _ _ _) ?_
  rw [hW9]
  refine hK.out _ _ ⟨?_, ?_⟩ (fun hS => ?_)
  · rw [← hW9]; exact hS.1.setRowOther _ (by omega)
  · rw [← hW9]; exact hS.2.setRowOther _ (by omega)
  clear hK
  refine wpAnyH_take (i := 14) (v := .int .i64 r.1) rfl (by kernel_rfl) (by kernel_rfl) (by kernel_rfl) (fun _ _ _ h => h) (Or.inl ⟨by rfl, fun w3 hS => by go_simp⟩) hS ?_
  refine wpAnyH_done (by kernel_rfl) ?_ _
  go_wp2
  try simp only [Exit.inBlock, Exit.then]
  refine bodyPost_ret (by simp [results, Tryd.results7, go_sem, s0, s1]; rfl) rfl ?_
  exact ⟨q2, cap2, m2, rfl, R9, S2, B9⟩
end Go.Proofs.YtmcafgmjfgfaeaaDoor
