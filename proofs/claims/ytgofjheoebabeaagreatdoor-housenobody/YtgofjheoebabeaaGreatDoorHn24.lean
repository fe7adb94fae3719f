/- The order in which orders are filled; what each gets. -/
import Derived.Test.YtgofjheoebabeaaGreatDoorHn23
import Derived.Deep.RegionHeldLaw
import Derived.Deep.RegionHeld3
namespace Go.Proofs.YtgofjheoebabeaaGreatDoor.Cal
open Go.Shelf Go.RowKit Go.Lib Go.Sort
set_option linter.unusedSimpArgs false
set_option linter.unusedVariables false

set_option maxRecDepth 100000 in
theorem isNaN_calls (x : Int) (w : World) : Calls Tryz.prog 174 #[.int .i64 x] w fun e w' => e = .returned (.bool false) ∧ w' = w := by
  have h : (x != x) = false := by simp
  go_enter Tryz.func174, Tryz.ntmps174
  go_wp2
  go_ret
  exact ⟨rfl, rfl⟩
set_option maxRecDepth 100000 in
theorem compare_calls (x y : Int) (w : World) : Calls Tryz.prog 158 #[.int .i64 x, .int .i64 y] w fun e w' => e = .returned (.int .i64 (cmI x y)) ∧ w' = w := by
  have hA : cmI x y = if x < y then -1 else if y < x then 1 else 0 := rfl
  generalize cmI x y = A at *
  have HA : Hid _ := hA
  clear hA
  by_cases h1 : x < y
  · have d1 : decide (x < y) = true := decide_eq_true h1
    rw [if_pos h1] at HA
    go_enter Tryz.func158, Tryz.ntmps158
    go_wp2_with fail
    refine (isNaN_calls x _).mono ?_
    rintro e w1 ⟨rfl, rfl⟩
    go_wp2_with fail
    refine (isNaN_calls y _).mono ?_
    rintro e w1 ⟨rfl, rfl⟩
    go_wp2
    go_ret
    exact ⟨by rw [HA.out]; rfl, rfl⟩
  · have d1 : decide (x < y) = false := decide_eq_false h1
    rw [if_neg h1] at HA
    by_cases h2 : y < x
    · have d2 : decide (y < x) = true := decide_eq_true h2
      rw [if_pos h2] at HA
      go_enter Tryz.func158, Tryz.ntmps158
      go_wp2_with fail
      refine (isNaN_calls x _).mono ?_
      rintro e w1 ⟨rfl, rfl⟩
      go_wp2_with fail
      refine (isNaN_calls y _).mono ?_
      rintro e w1 ⟨rfl, rfl⟩
      go_wp2
      go_ret
      exact ⟨by rw [HA.out]; rfl, rfl⟩
    · have d2 : decide (y < x) = false := decide_eq_false h2
      rw [if_neg h2] at HA
      go_enter Tryz.func158, Tryz.ntmps158
      go_wp2_with fail
      refine (isNaN_calls x _).mono ?_
      rintro e w1 ⟨rfl, rfl⟩
      go_wp2_with fail
      refine (isNaN_calls y _).mono ?_
      rintro e w1 ⟨rfl, rfl⟩
      go_wp2
      go_ret
      exact ⟨by rw [HA.out]; rfl, rfl⟩

set_option maxRecDepth 100000 in
set_option maxHeartbeats 1000000 in
theorem or_calls (x y : Int) (b : Nat) (w : World) (c0 : w.cell? ⟨b, 0, none⟩ = some (.int .i64 x)) (c1 : w.cell? ⟨b, 1, none⟩ = some (.int .i64 y)) : Calls Tryz.prog 172 #[.slice (some ⟨b, 0, none⟩) 2 2] w fun e w' => e = .returned (.int .i64 (cOr x y)) ∧ w' = w := by
  have hA : cOr x y = if x = 0 then y else x := rfl
  generalize cOr x y = A at *
  have HA : Hid _ := hA
  clear hA
  by_cases h : x = 0
  · subst h
    rw [if_pos rfl] at HA
    by_cases h2 : y = 0
    · subst h2
      go_enter Tryz.func172, Tryz.ntmps172
      go_wp2
      refine wp_loop_rounds 3 ?_
      rw [rounds_succ]
      go_wp2
      rw [rounds_succ]
      go_wp2
      rw [rounds_succ]
      go_wp2
      go_ret
      exact ⟨by rw [HA.out]; rfl, rfl⟩
    · have hd : (y == 0) = false := by simpa using h2
      go_enter Tryz.func172, Tryz.ntmps172
      go_wp2
      refine wp_loop_rounds 2 ?_
      rw [rounds_succ]
      go_wp2
      rw [rounds_succ]
      go_wp2
      go_ret
      exact ⟨by rw [HA.out]; rfl, rfl⟩
  · have hd : (x == 0) = false := by simpa using h
    rw [if_neg h] at HA
    go_enter Tryz.func172, Tryz.ntmps172
    go_wp2
    refine wp_loop_rounds 1 ?_
    rw [rounds_succ]
    go_wp2
    go_ret
    exact ⟨by rw [HA.out]; rfl, rfl⟩

set_option maxRecDepth 100000 in
set_option maxHeartbeats 1000000 in
theorem by1_calls (a b : Od) (w : World) : Calls Tryz.prog 157 #[.agg (oC a).toArray, .agg (oC b).toArray] w fun e w' => e = .returned (.int .i64 (cmI b.pr a.pr)) ∧ Gr w w' := by
  have h := fun w => compare_calls b.pr a.pr w
  unfold oC
  generalize a.id = a1 at *
  generalize a.own = a2 at *
  generalize a.pr = a3 at *
  generalize a.am = a4 at *
  generalize a.pl = a5 at *
  generalize a.by = a6 at *
  generalize b.id = b1 at *
  generalize b.own = b2 at *
  generalize b.pr = b3 at *
  generalize b.am = b4 at *
  generalize b.pl = b5 at *
  generalize b.by = b6 at *
  go_enter Tryz.func157, Tryz.ntmps157
  go_wp2_with fail
  refine (h _).mono ?_
  rintro e w1 ⟨rfl, rfl⟩
  go_wp2
  go_ret
  exact ⟨rfl, ((Gr.refl _).alloc _).alloc _⟩

set_option maxRecDepth 100000 in
set_option maxHeartbeats 1000000 in
theorem by2_calls (a b : Od) (w : World) : Calls Tryz.prog 160 #[.agg (oC a).toArray, .agg (oC b).toArray] w fun e w' => e = .returned (.int .i64 (cmI a.pr b.pr)) ∧ Gr w w' := by
  have h := fun w => compare_calls a.pr b.pr w
  unfold oC
  generalize a.id = a1 at *
  generalize a.own = a2 at *
  generalize a.pr = a3 at *
  generalize a.am = a4 at *
  generalize a.pl = a5 at *
  generalize a.by = a6 at *
  generalize b.id = b1 at *
  generalize b.own = b2 at *
  generalize b.pr = b3 at *
  generalize b.am = b4 at *
  generalize b.pl = b5 at *
  generalize b.by = b6 at *
  go_enter Tryz.func160, Tryz.ntmps160
  go_wp2_with fail
  refine (h _).mono ?_
  rintro e w1 ⟨rfl, rfl⟩
  go_wp2
  go_ret
  exact ⟨rfl, ((Gr.refl _).alloc _).alloc _⟩

set_option maxRecDepth 100000 in
set_option maxHeartbeats 8000000 in
theorem fill1_calls (bp : Od → Od → Int) (fk bx : Nat) (a b : Od) (w : World) (ek : ∀ args w, (callFunc fk args).run Tryz.prog w = .ok (.enter fk args) w) (hbx : w.cell? ⟨bx, 0, none⟩ = some (.func (.func fk) #[] #[]))
    (hf : ∀ w, Calls Tryz.prog fk #[.agg (oC a).toArray, .agg (oC b).toArray] w fun e w' => e = .returned (.int .i64 (bp a b)) ∧ Gr w w') :
    Calls Tryz.prog 171 #[.agg (oC a).toArray, .agg (oC b).toArray, .pointer (some ⟨bx, 0, none⟩)] w fun e w' => e = .returned (.int .i64 (cOr (bp a b) (cmI a.pl b.pl))) ∧ Gr w w' := by
  have hp := fun w => compare_calls a.pl b.pl w
  unfold oC at hf ⊢
  generalize a.id = x1 at *
  generalize a.own = x2 at *
  generalize a.pr = x3 at *
  generalize a.am = x4 at *
  generalize a.pl = x5 at *
  generalize a.by = x6 at *
  generalize b.id = y1 at *
  generalize b.own = y2 at *
  generalize b.pr = y3 at *
  generalize b.am = y4 at *
  generalize b.pl = y5 at *
  generalize b.by = y6 at *
  generalize bp a b = cv at *
  generalize cmI x5 y5 = pv at *
  have HF : Hid _ := hf
  have HP : Hid _ := hp
  have hlt : bx < w.heap.size := World.block_lt_of_cell? w _ hbx
  clear hf hp
  go_enter Tryz.func171, Tryz.ntmps171
  go_wp2_with fail
  have g0 : Gr w ((w.alloc (.cells #[.int .i64 x1, .int .i64 x2, .int .i64 x3, .int .i64 x4, .int .i64 x5, .bool x6] 105)).alloc (.cells #[.int .i64 y1, .int .i64 y2, .int .i64 y3, .int .i64 y4, .int .i64 y5, .bool y6] 105)).drew := (((Gr.refl _).alloc _).alloc _).drew
  refine wp_region_held_drew (S := fun wx => wx.cell? ⟨bx, 0, none⟩ = some (.func (.func fk) #[] #[]) ∧ wx.cell? ⟨w.heap.size, 0, none⟩ = some (.int .i64 x1) ∧ wx.cell? ⟨w.heap.size, 1, none⟩ = some (.int .i64 x2) ∧ wx.cell? ⟨w.heap.size, 2, none⟩ = some (.int .i64 x3) ∧ wx.cell? ⟨w.heap.size, 3, none⟩ = some (.int .i64 x4) ∧ wx.cell? ⟨w.heap.size, 4, none⟩ = some (.int .i64 x5) ∧ wx.cell? ⟨w.heap.size, 5, none⟩ = some (.bool x6) ∧ wx.cell? ⟨w.heap.size + 1, 0, none⟩ = some (.int .i64 y1) ∧ wx.cell? ⟨w.heap.size + 1, 1, none⟩ = some (.int .i64 y2) ∧ wx.cell? ⟨w.heap.size + 1, 2, none⟩ = some (.int .i64 y3) ∧ wx.cell? ⟨w.heap.size + 1, 3, none⟩ = some (.int .i64 y4) ∧ wx.cell? ⟨w.heap.size + 1, 4, none⟩ = some (.int .i64 y5) ∧ wx.cell? ⟨w.heap.size + 1, 5, none⟩ = some (.bool y6) ∧ Gr w wx) (by kernel_rfl) ⟨g0.cell hbx, by simp, by simp, by simp, by simp, by simp, by simp, by simp, by simp, by simp, by simp, by simp, by simp, g0⟩ (fun hS => ?_)
  refine wpAnyH_take (i := 0) (v := (.func (.func fk) #[] #[])) rfl (by kernel_rfl) (by kernel_rfl) (by kernel_rfl) (fun _ _ _ h => h) (Or.inl ⟨by rfl, fun w hS => by obtain ⟨s0, s1, s2, s3, s4, s5, s6, s7, s8, s9, s10, s11, s12, s13⟩ := hS; go_simp⟩) hS ?_
  refine wpAnyH_take (i := 1) (v := (.agg #[.int .i64 x1, .int .i64 x2, .int .i64 x3, .int .i64 x4, .int .i64 x5, .bool x6])) rfl (by kernel_rfl) (by kernel_rfl) (by kernel_rfl) (fun _ _ _ h => h) (Or.inl ⟨by rfl, fun w hS => by obtain ⟨s0, s1, s2, s3, s4, s5, s6, s7, s8, s9, s10, s11, s12, s13⟩ := hS; go_simp⟩) hS ?_
  refine wpAnyH_take (i := 2) (v := (.agg #[.int .i64 y1, .int .i64 y2, .int .i64 y3, .int .i64 y4, .int .i64 y5, .bool y6])) rfl (by kernel_rfl) (by kernel_rfl) (by kernel_rfl) (fun _ _ _ h => h) (Or.inl ⟨by rfl, fun w hS => by obtain ⟨s0, s1, s2, s3, s4, s5, s6, s7, s8, s9, s10, s11, s12, s13⟩ := hS; go_simp⟩) hS ?_
  refine wpAnyH_take (i := 4) (v := (.pointer (some ⟨w.heap.size, 4, none⟩))) rfl (by kernel_rfl) (by kernel_rfl) (by kernel_rfl) (fun _ _ _ h => h) (Or.inl ⟨by rfl, fun w hS => by obtain ⟨s0, s1, s2, s3, s4, s5, s6, s7, s8, s9, s10, s11, s12, s13⟩ := hS; go_simp⟩) hS ?_
  refine wpAnyH_take (i := 5) (v := (.int .i64 x5)) rfl (by kernel_rfl) (by kernel_rfl) (by kernel_rfl) (fun _ _ _ h => h) (Or.inl ⟨by rfl, fun w hS => by obtain ⟨s0, s1, s2, s3, s4, s5, s6, s7, s8, s9, s10, s11, s12, s13⟩ := hS; go_simp⟩) hS ?_
  refine wpAnyH_take (i := 6) (v := (.pointer (some ⟨w.heap.size + 1, 4, none⟩))) rfl (by kernel_rfl) (by kernel_rfl) (by kernel_rfl) (fun _ _ _ h => h) (Or.inl ⟨by rfl, fun w hS => by obtain ⟨s0, s1, s2, s3, s4, s5, s6, s7, s8, s9, s10, s11, s12, s13⟩ := hS; go_simp⟩) hS ?_
  refine wpAnyH_take (i := 7) (v := (.int .i64 y5)) rfl (by kernel_rfl) (by kernel_rfl) (by kernel_rfl) (fun _ _ _ h => h) (Or.inl ⟨by rfl, fun w hS => by obtain ⟨s0, s1, s2, s3, s4, s5, s6, s7, s8, s9, s10, s11, s12, s13⟩ := hS; go_simp⟩) hS ?_
  refine wpAnyH_ready (rs := [3]) (by kernel_rfl) (by simp) ?_
  refine AllReadyH.cons rfl (fun K hK => ?_) AllReadyH.nil
  go_simp
  refine Calls.mono (HF.out _) ?_
  rintro e w3 ⟨rfl, g3⟩
  go_simp
  refine hK.out _ _ (by obtain ⟨s0, s1, s2, s3, s4, s5, s6, s7, s8, s9, s10, s11, s12, s13⟩ := hS; exact ⟨g3.cell s0, g3.cell s1, g3.cell s2, g3.cell s3, g3.cell s4, g3.cell s5, g3.cell s6, g3.cell s7, g3.cell s8, g3.cell s9, g3.cell s10, g3.cell s11, g3.cell s12, s13.trans g3⟩) (fun hS => ?_)
  clear hK
  refine wpAnyH_ready (rs := [8]) (by kernel_rfl) (by simp) ?_
  refine AllReadyH.cons rfl (fun K hK => ?_) AllReadyH.nil
  go_simp
  refine Calls.mono (HP.out _) ?_
  rintro e w4 ⟨rfl, rfl⟩
  go_simp
  refine hK.out _ _ hS (fun hS => ?_)
  clear hK
  refine wpAnyH_ready (rs := [9]) (by kernel_rfl) (by simp) ?_
  refine AllReadyH.cons rfl (fun K hK => ?_) AllReadyH.nil
  go_simp
  have g5 : Gr w4 (w4.alloc (.cells #[.int .i64 cv, .int .i64 pv] 3)) := (Gr.refl _).alloc _
  have k5 : (w4.alloc (.cells #[.int .i64 cv, .int .i64 pv] 3)).cell? ⟨w4.heap.size, 0, none⟩ = some (.int .i64 cv) := by simp
  have k6 : (w4.alloc (.cells #[.int .i64 cv, .int .i64 pv] 3)).cell? ⟨w4.heap.size, 1, none⟩ = some (.int .i64 pv) := by simp
  refine hK.out _ _ (by obtain ⟨s0, s1, s2, s3, s4, s5, s6, s7, s8, s9, s10, s11, s12, s13⟩ := hS; exact ⟨g5.cell s0, g5.cell s1, g5.cell s2, g5.cell s3, g5.cell s4, g5.cell s5, g5.cell s6, g5.cell s7, g5.cell s8, g5.cell s9, g5.cell s10, g5.cell s11, g5.cell s12, s13.trans g5⟩) (fun hS => ?_)
  clear hK
  refine wpAnyH_ready (rs := [10]) (by kernel_rfl) (by simp) ?_
  refine AllReadyH.cons rfl (fun K hK => ?_) AllReadyH.nil
  go_simp
  refine Calls.mono (or_calls cv pv w4.heap.size _ k5 k6) ?_
  rintro e w6 ⟨rfl, rfl⟩
  go_simp
  refine hK.out _ _ hS (fun hS => ?_)
  clear hK
  refine wpAnyH_ready (rs := [11]) (by kernel_rfl) (by simp) ?_
  refine AllReadyH.cons rfl (fun K hK => ?_) AllReadyH.nil
  go_simp
  refine hK.out _ _ hS (fun hS => ?_)
  clear hK
  refine wpAnyH_done (by kernel_rfl) ?_ _
  go_wp2
  go_ret
  exact ⟨rfl, by obtain ⟨s0, s1, s2, s3, s4, s5, s6, s7, s8, s9, s10, s11, s12, s13⟩ := hS; exact s13⟩
end Go.Proofs.YtgofjheoebabeaaGreatDoor.Cal
