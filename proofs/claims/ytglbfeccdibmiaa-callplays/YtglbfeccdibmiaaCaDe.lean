/- The library's Delete of one order. -/
import Derived.Test.YtglbfeccdibmiaaCaAm
namespace Go.Proofs.Ytglbfeccdibmiaa
open Go.Shelf Go.RowKit Go.Lib Go.Sort
set_option linter.unusedSimpArgs false
set_option linter.unusedVariables false
variable {base p : Nat} {v : Value} {B : Bo}

set_option maxHeartbeats 8000000 in
set_option maxRecDepth 100000 in
theorem delete_calls (g cap i m : Nat) (l : List Od) (w : World) (hl : l.length = m + 1) (h : w.ownsRow base 31 6 (.slice (some ⟨g, 0, none⟩) (m + 1) cap) (m + 1) (odL l)) (hi : i < m + 1) (hn : m + 1 ≤ 1000000) :
    Calls Try.prog 47 #[.slice (some ⟨g, 0, none⟩) (m + 1) cap, .int .i64 i, .int .i64 ((i : Int) + 1)] w fun e w' => e = .returned (.slice (some ⟨g, 0, none⟩) m cap) ∧ w'.ownsRow base 31 6 (.slice (some ⟨g, 0, none⟩) m cap) (l.eraseIdx i).length (odL (l.eraseIdx i)) ∧ Off g w w' := by
  have hcap := own_cap h
  have hcm : cap ≤ 9223372036854775807 := by
    rcases h.2 with ⟨q, _⟩ | ⟨q1, q2, q3, q4, _, _, _, q5, _⟩
    · cases q
    · injection q4 with _ _ q6
      unfold maxLen at q5
      omega
  have z1 : (i : Int) ≤ (i : Int) + 1 := by omega
  have z2 : (i : Int) + 1 ≤ (m : Int) + 1 := by omega
  have z3 : (m : Int) + 1 ≤ (cap : Int) := by omega
  have z4 : (0 : Int) ≤ (i : Int) + 1 := by omega
  have z5 : ((i : Int) == (i : Int) + 1) = false := by rw [beq_eq_false_iff_ne]; omega
  have z6 : ¬ (i : Int) = (i : Int) + 1 := by omega
  have z7 : ((i : Int) + 1).toNat = i + 1 := by omega
  have z8 : (i : Int) ≤ (cap : Int) := by omega
  by_cases hce : cap = i + 1
  · obtain ⟨W, hrun, own1, of1⟩ := own_shift (w := w.drew) h hl i hi ⟨g, 0, none⟩ (cap - (i + 1)) 25 hn (by right; omega)
    rw [Nat.add_sub_cancel] at hrun own1
    obtain ⟨W2, hcl, own2, of2⟩ := own_clear own1 (by rw [List.length_append, List.length_eraseIdx_of_lt (by omega), List.length_drop]; omega) m (by omega) 0
    have hcl2 := fun c' => hcl c'
    rw [show m + 1 - m = 1 by omega] at hcl2
    have HF : Hid (W2.ownsRow base 31 6 (.slice (some ⟨g, 0, none⟩) m cap) (l.eraseIdx i).length (odL (l.eraseIdx i)) ∧ Off g w W2) := by
      refine ⟨?_, ((Off.refl g w).drew.trans of1).trans of2⟩
      have e1 : (l.eraseIdx i).length = m := by rw [List.length_eraseIdx_of_lt (by omega)]; omega
      rw [e1]
      rw [List.take_left' e1] at own2
      exact own2
    have HCE : Hid _ := hce
    have HLL : Hid _ := hl
    clear own1 own2 of1 of2 hcl h hce
    go_enter Try.func47, Try.ntmps47
    go_wp2_with fail
    refine wp_region_any (by kernel_rfl) ?_
    change wpAny _ _ _ _ _ _ _ (World.drew _)
    refine wpAny_take (i := 0) (v := (.slice (some ⟨g, 0, none⟩) (m + 1) cap)) rfl (by kernel_rfl) (by kernel_rfl) (by kernel_rfl) (fun _ _ _ h => h) (Or.inl ⟨by rfl, fun w => by go_simp⟩) ?_
    refine wpAny_take (i := 1) (v := (.int .i64 i)) rfl (by kernel_rfl) (by kernel_rfl) (by kernel_rfl) (fun _ _ _ h => h) (Or.inl ⟨by rfl, fun w => by go_simp⟩) ?_
    refine wpAny_take (i := 2) (v := (.slice (some ⟨g, 0, none⟩) i cap)) rfl (by kernel_rfl) (by kernel_rfl) (by kernel_rfl) (fun _ _ _ h => h) (Or.inl ⟨by rfl, fun w => by go_simp; first | done | (intro h; omega) | (rw [if_neg (by omega)])⟩) ?_
    refine wpAny_take (i := 3) (v := (.slice (some ⟨g, 0, none⟩) (m + 1) cap)) rfl (by kernel_rfl) (by kernel_rfl) (by kernel_rfl) (fun _ _ _ h => h) (Or.inl ⟨by rfl, fun w => by go_simp⟩) ?_
    refine wpAny_take (i := 4) (v := (.int .i64 ((i : Int) + 1))) rfl (by kernel_rfl) (by kernel_rfl) (by kernel_rfl) (fun _ _ _ h => h) (Or.inl ⟨by rfl, fun w => by go_simp⟩) ?_
    refine wpAny_take (i := 5) (v := (.slice (some ⟨g, 0, none⟩) (m + 1 - (i + 1)) (cap - (i + 1)))) rfl (by kernel_rfl) (by kernel_rfl) (by kernel_rfl) (fun _ _ _ h => h) (Or.inl ⟨by rfl, fun w => by go_simp; have hce := HCE.out; first | done | exact hce | (intro h; omega) | omega | (rw [if_neg hce])⟩) ?_
    refine wpAny_ready (rs := [6]) (by kernel_rfl) (by simp) ?_
    refine AllReady.cons rfl (fun K hK => ?_) AllReady.nil
    refine wp_append_run (.tmp 22) (.tmp 25) 25 rfl _ _ rfl rfl hrun ?_
    refine hK _ _ ?_
    clear hK
    refine wpAny_ready (rs := [7]) (by kernel_rfl) (by simp) ?_
    refine AllReady.cons rfl (fun K hK => ?_) AllReady.nil
    go_simp
    refine hK _ _ ?_
    clear hK
    refine wpAny_done (by kernel_rfl) ?_ _
    have hq1 : (m : Int) ≤ (m : Int) + 1 := by omega
    have hq2 : (m : Int) + 1 ≤ (cap : Int) := by omega
    have hq3 : ¬ cap = m := by omega
    have hq4 : ((m : Int) + 1).toNat = m + 1 := by omega
    have hq5 : m + 1 - m = 1 := by omega
    clear hrun
    go_wp2
    go_ret
    exact ⟨rfl, HF.out⟩
  · obtain ⟨W, hrun, own1, of1⟩ := own_shift (w := w.drew) h hl i hi ⟨g, (i + 1) * 6, none⟩ (cap - (i + 1)) 25 hn (by left; rfl)
    rw [Nat.add_sub_cancel] at hrun own1
    obtain ⟨W2, hcl, own2, of2⟩ := own_clear own1 (by rw [List.length_append, List.length_eraseIdx_of_lt (by omega), List.length_drop]; omega) m (by omega) 0
    have hcl2 := fun c' => hcl c'
    rw [show m + 1 - m = 1 by omega] at hcl2
    have HF : Hid (W2.ownsRow base 31 6 (.slice (some ⟨g, 0, none⟩) m cap) (l.eraseIdx i).length (odL (l.eraseIdx i)) ∧ Off g w W2) := by
      refine ⟨?_, ((Off.refl g w).drew.trans of1).trans of2⟩
      have e1 : (l.eraseIdx i).length = m := by rw [List.length_eraseIdx_of_lt (by omega)]; omega
      rw [e1]
      rw [List.take_left' e1] at own2
      exact own2
    have HCE : Hid _ := hce
    have HLL : Hid _ := hl
    clear own1 own2 of1 of2 hcl h hce
    go_enter Try.func47, Try.ntmps47
    go_wp2_with fail
    refine wp_region_any (by kernel_rfl) ?_
    change wpAny _ _ _ _ _ _ _ (World.drew _)
    refine wpAny_take (i := 0) (v := (.slice (some ⟨g, 0, none⟩) (m + 1) cap)) rfl (by kernel_rfl) (by kernel_rfl) (by kernel_rfl) (fun _ _ _ h => h) (Or.inl ⟨by rfl, fun w => by go_simp⟩) ?_
    refine wpAny_take (i := 1) (v := (.int .i64 i)) rfl (by kernel_rfl) (by kernel_rfl) (by kernel_rfl) (fun _ _ _ h => h) (Or.inl ⟨by rfl, fun w => by go_simp⟩) ?_
    refine wpAny_take (i := 2) (v := (.slice (some ⟨g, 0, none⟩) i cap)) rfl (by kernel_rfl) (by kernel_rfl) (by kernel_rfl) (fun _ _ _ h => h) (Or.inl ⟨by rfl, fun w => by go_simp; first | done | (intro h; omega) | (rw [if_neg (by omega)])⟩) ?_
    refine wpAny_take (i := 3) (v := (.slice (some ⟨g, 0, none⟩) (m + 1) cap)) rfl (by kernel_rfl) (by kernel_rfl) (by kernel_rfl) (fun _ _ _ h => h) (Or.inl ⟨by rfl, fun w => by go_simp⟩) ?_
    refine wpAny_take (i := 4) (v := (.int .i64 ((i : Int) + 1))) rfl (by kernel_rfl) (by kernel_rfl) (by kernel_rfl) (fun _ _ _ h => h) (Or.inl ⟨by rfl, fun w => by go_simp⟩) ?_
    refine wpAny_take (i := 5) (v := (.slice (some ⟨g, (i + 1) * 6, none⟩) (m + 1 - (i + 1)) (cap - (i + 1)))) rfl (by kernel_rfl) (by kernel_rfl) (by kernel_rfl) (fun _ _ _ h => h) (Or.inl ⟨by rfl, fun w => by go_simp; have hce := HCE.out; first | done | exact hce | (intro h; omega) | omega | (rw [if_neg hce])⟩) ?_
    refine wpAny_ready (rs := [6]) (by kernel_rfl) (by simp) ?_
    refine AllReady.cons rfl (fun K hK => ?_) AllReady.nil
    refine wp_append_run (.tmp 22) (.tmp 25) 25 rfl _ _ rfl rfl hrun ?_
    refine hK _ _ ?_
    clear hK
    refine wpAny_ready (rs := [7]) (by kernel_rfl) (by simp) ?_
    refine AllReady.cons rfl (fun K hK => ?_) AllReady.nil
    go_simp
    refine hK _ _ ?_
    clear hK
    refine wpAny_done (by kernel_rfl) ?_ _
    have hq1 : (m : Int) ≤ (m : Int) + 1 := by omega
    have hq2 : (m : Int) + 1 ≤ (cap : Int) := by omega
    have hq3 : ¬ cap = m := by omega
    have hq4 : ((m : Int) + 1).toNat = m + 1 := by omega
    have hq5 : m + 1 - m = 1 := by omega
    clear hrun
    go_wp2
    go_ret
    exact ⟨rfl, HF.out⟩
end Go.Proofs.Ytglbfeccdibmiaa
