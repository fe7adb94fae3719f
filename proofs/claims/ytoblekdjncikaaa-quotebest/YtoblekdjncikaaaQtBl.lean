/- QuoteBest for every floats: what it answers. -/
import Derived.Test.YtoblekdjncikaaaQtBp
namespace Go.Proofs.Ytoblekdjncikaaa
open Go.RowKit
set_option linter.unusedSimpArgs false
set_option linter.unusedVariables false

theorem fls_cap {w : World} {v : Value} {l : List Nat} (h : Fls w v l) : ∃ p c, v = .slice p l.length c ∧ (l = [] ∨ l.length ≤ c) := by
  rcases h with ⟨⟨p, c, rfl⟩, rfl⟩ | ⟨b, off, cap, rfl, _, hc, _⟩
  · exact ⟨p, c, rfl, Or.inl rfl⟩
  · exact ⟨_, _, rfl, Or.inr hc⟩

set_option maxHeartbeats 1000000 in
set_option maxRecDepth 100000 in
theorem quoteBest_calls (lv : Value) (l : List Nat) (w : World) (hl : Fls w lv l) (hz : l.length * 8 ≤ 140737488351232) :
    Calls Try.prog 5 #[lv] w fun e w' => e = .returned (.bool true) ∧ Below w.heap.size w w' := by
  have hnot : ∀ (x : Bool) (w : World), (Op.unary .not (.bool x)).run Try.prog w = .ok (.bool (!x)) w := fun _ _ => rfl
  obtain ⟨p, c, rfl, hcap⟩ := fls_cap hl
  by_cases h3 : 300 < l.length
  · have hd : decide (300 < (l.length : Int)) = true := by simp only [decide_eq_true_eq]; omega
    have hlc : l.length ≤ c := by
      rcases hcap with rfl | h
      · simp at h3
      · exact h
    have HF : Hid _ := fls_take hl 300 (by omega)
    have hl3 : (l.take 300).length = 300 := by rw [List.length_take]; omega
    have HL : Hid _ := fls_bound HF.out
    have HZ : Hid _ := Nat.le_of_eq hl3
    have H1 : Hid _ := fun wx h => best_calls (.slice p 300 c) (l.take 300) false wx h (by omega)
    have H2 : Hid _ := fun wx h => best_calls (.slice p 300 c) (l.take 300) true wx h (by omega)
    have H3 : Hid _ := fun wx h => numbers_calls (.slice p 300 c) (l.take 300) wx h (by omega)
    generalize l.take 300 = l' at *
    clear hl hcap
    go_enter Try.func5, Try.ntmps5
    go_wp2_with fail
    refine (H1.out _ HF.out).mono ?_
    rintro e w1 ⟨rfl, b1⟩
    go_wp2_with fail
    refine (H2.out _ (Elems.below HF.out b1)).mono ?_
    rintro e w2 ⟨rfl, b2⟩
    have b12 := b1.trans (b2.mono b1.size)
    go_wp2_with fail
    refine (H3.out _ (Elems.below HF.out b12)).mono ?_
    rintro e w3 ⟨v', rfl, ho, b3⟩
    have b13 := b12.trans (b3.mono b12.size)
    obtain ⟨p', c', rfl⟩ := own_lenF ho
    by_cases h0 : nums l' = []
    · have e1 := best_none (high := false) h0
      have e2 := best_none (high := true) h0
      rw [e1, e2, h0]
      have f0 : feq 0 0 = true := by decide
      clear ho e1 e2
      simp only [List.length_nil]
      go_wp2_with fail
      refine (awake_calls _).mono ?_
      rintro e w4 ⟨rfl, rfl⟩
      go_wp2
      go_ret
      exact ⟨rfl, b13⟩
    · have e1 := best_some (high := false) HL.out h0
      have e2 := best_some (high := true) HL.out h0
      simp only [Bool.false_eq_true, if_false, if_true] at e1 e2
      have hpos : 0 < (nums l').length := List.length_pos_iff.2 h0
      have hsl : (srtR (nums l')).length = (nums l').length := srtR_length _
      obtain ⟨g, rfl, hcc, hg, hc0⟩ := own_cellF ho 0 (by omega) hsl
      obtain ⟨g', hgg, _, _, hc1⟩ := own_cellF ho ((nums l').length - 1) (by omega) hsl
      simp only [Option.some.injEq, Addr.mk.injEq, and_true] at hgg
      subst hgg
      rw [List.getD_eq_getElem?_getD, List.getElem?_eq_getElem (by omega), Option.getD_some] at e1 e2
      rw [e1, e2]
      have hnl : (nums l').length ≤ 300 := Nat.le_trans (List.length_filter_le _ _) HZ.out
      generalize (srtR (nums l'))[0] = x0 at *
      generalize (srtR (nums l'))[(nums l').length - 1] = x1 at *
      have hne : (((nums l').length : Int) == 0) = false := by rw [beq_eq_false_iff_ne]; omega
      generalize hq : (nums l').length = q at *
      obtain ⟨r, rfl⟩ : ∃ r, q = r + 1 := ⟨q - 1, by omega⟩
      rw [Nat.add_sub_cancel] at hc1
      have hi1 : IntKind.i64.wrap (((r + 1 : Nat) : Int) - 1) = (r : Int) := by rw [IntKind.wrap_i64]; omega
      clear ho e1 e2 hsl hq h0
      simp only [Bool.true_and]
      go_wp2_with fail
      refine (alike_calls x0 x0 _).mono ?_
      rintro e w4 ⟨rfl, rfl⟩
      go_wp2_with fail
      refine (alike_calls x1 x1 _).mono ?_
      rintro e w4 ⟨rfl, rfl⟩
      go_wp2_with fail
      refine (awake_calls _).mono ?_
      rintro e w4 ⟨rfl, rfl⟩
      go_wp2
      go_ret
      exact ⟨rfl, b13⟩
  · have hd : decide (300 < (l.length : Int)) = false := by simp only [decide_eq_false_iff_not]; omega
    have HF : Hid _ := hl
    have HL : Hid _ := fls_bound HF.out
    have HZ : Hid _ := (show l.length ≤ 300 by omega)
    have H1 : Hid _ := fun wx h => best_calls (.slice p l.length c) l false wx h (by omega)
    have H2 : Hid _ := fun wx h => best_calls (.slice p l.length c) l true wx h (by omega)
    have H3 : Hid _ := fun wx h => numbers_calls (.slice p l.length c) l wx h (by omega)
    clear hl hcap
    go_enter Try.func5, Try.ntmps5
    go_wp2_with fail
    refine (H1.out _ HF.out).mono ?_
    rintro e w1 ⟨rfl, b1⟩
    go_wp2_with fail
    refine (H2.out _ (Elems.below HF.out b1)).mono ?_
    rintro e w2 ⟨rfl, b2⟩
    have b12 := b1.trans (b2.mono b1.size)
    go_wp2_with fail
    refine (H3.out _ (Elems.below HF.out b12)).mono ?_
    rintro e w3 ⟨v', rfl, ho, b3⟩
    have b13 := b12.trans (b3.mono b12.size)
    obtain ⟨p', c', rfl⟩ := own_lenF ho
    by_cases h0 : nums l = []
    · have e1 := best_none (high := false) h0
      have e2 := best_none (high := true) h0
      rw [e1, e2, h0]
      have f0 : feq 0 0 = true := by decide
      clear ho e1 e2
      simp only [List.length_nil]
      go_wp2_with fail
      refine (awake_calls _).mono ?_
      rintro e w4 ⟨rfl, rfl⟩
      go_wp2
      go_ret
      exact ⟨rfl, b13⟩
    · have e1 := best_some (high := false) HL.out h0
      have e2 := best_some (high := true) HL.out h0
      simp only [Bool.false_eq_true, if_false, if_true] at e1 e2
      have hpos : 0 < (nums l).length := List.length_pos_iff.2 h0
      have hsl : (srtR (nums l)).length = (nums l).length := srtR_length _
      obtain ⟨g, rfl, hcc, hg, hc0⟩ := own_cellF ho 0 (by omega) hsl
      obtain ⟨g', hgg, _, _, hc1⟩ := own_cellF ho ((nums l).length - 1) (by omega) hsl
      simp only [Option.some.injEq, Addr.mk.injEq, and_true] at hgg
      subst hgg
      rw [List.getD_eq_getElem?_getD, List.getElem?_eq_getElem (by omega), Option.getD_some] at e1 e2
      rw [e1, e2]
      have hnl : (nums l).length ≤ 300 := Nat.le_trans (List.length_filter_le _ _) HZ.out
      generalize (srtR (nums l))[0] = x0 at *
      generalize (srtR (nums l))[(nums l).length - 1] = x1 at *
      have hne : (((nums l).length : Int) == 0) = false := by rw [beq_eq_false_iff_ne]; omega
      generalize hq : (nums l).length = q at *
      obtain ⟨r, rfl⟩ : ∃ r, q = r + 1 := ⟨q - 1, by omega⟩
      rw [Nat.add_sub_cancel] at hc1
      have hi1 : IntKind.i64.wrap (((r + 1 : Nat) : Int) - 1) = (r : Int) := by rw [IntKind.wrap_i64]; omega
      clear ho e1 e2 hsl hq h0
      simp only [Bool.true_and]
      go_wp2_with fail
      refine (alike_calls x0 x0 _).mono ?_
      rintro e w4 ⟨rfl, rfl⟩
      go_wp2_with fail
      refine (alike_calls x1 x1 _).mono ?_
      rintro e w4 ⟨rfl, rfl⟩
      go_wp2_with fail
      refine (awake_calls _).mono ?_
      rintro e w4 ⟨rfl, rfl⟩
      go_wp2
      go_ret
      exact ⟨rfl, b13⟩
end Go.Proofs.Ytoblekdjncikaaa
