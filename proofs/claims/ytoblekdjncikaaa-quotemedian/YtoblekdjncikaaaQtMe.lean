/- Median, of the program and of the document. -/
import Derived.Test.YtoblekdjncikaaaQtSl
import Derived.Test.YtoblekdjncikaaaQtRl
namespace Go.Proofs.Ytoblekdjncikaaa
open Go.RowKit
set_option linter.unusedSimpArgs false
set_option linter.unusedVariables false

def medR (l : List Nat) : Nat :=
  if (nums l).length = 0 then 9221120237041090561
  else if (nums l).length % 2 = 1 then (srtR (nums l)).getD ((nums l).length / 2) 0
  else midR ((srtR (nums l)).getD ((nums l).length / 2 - 1) 0) ((srtR (nums l)).getD ((nums l).length / 2) 0)
theorem srt_split {l : List Nat} (hl : ∀ x ∈ l, x < 18446744073709551616) : srtR l = srtR (nums l) ++ List.replicate (l.length - (nums l).length) 9221120237041090561 := by
  refine srt_one _ _ ?_ (srtR_srt l) ?_ (srtR_tld hl)
  · refine (srtR_perm l).trans ?_
    have h1 : (l.filter (fun x => !fnan x) ++ l.filter (fun x => !!fnan x)).Perm l := List.filter_append_perm _ l
    have h2 := (h1.map toldR).symm
    rw [List.map_append] at h2
    refine h2.trans ?_
    have e1 : (l.filter (fun x => !fnan x)).map toldR = nums l := nums_told l
    have e2 : (l.filter (fun x => !!fnan x)).map toldR = List.replicate (l.length - (nums l).length) 9221120237041090561 := by
      have hc : (l.filter (fun x => !!fnan x)).length = l.length - (nums l).length := by
        have := h1.length_eq
        rw [List.length_append] at this
        unfold nums; omega
      rw [← hc]
      apply List.ext_getElem?
      intro i
      by_cases hi : i < (l.filter (fun x => !!fnan x)).length
      · rw [List.getElem?_map, List.getElem?_eq_getElem hi, List.getElem?_replicate, if_pos hi]
        have := (List.mem_filter.1 (List.getElem_mem hi)).2
        simp at this
        simp [toldR_nan this]
      · rw [List.getElem?_eq_none (by simpa using hi), List.getElem?_eq_none (by simpa using hi)]
    rw [e1, e2]
    exact List.Perm.append_right _ (nums_perm l).symm
  · unfold Srt
    rw [List.pairwise_append]
    refine ⟨srtR_srt _, ?_, ?_⟩
    · rw [List.pairwise_replicate]; right; exact Nat.le_refl _
    · intro a ha b hb
      obtain ⟨_, rfl⟩ := List.mem_replicate.1 hb
      have hT := nums_tld hl a ((nums_perm l).mem_iff.1 ha)
      have h1 := rank_le a hT.1
      rw [show rankR 9221120237041090561 = 18446744073709551615 by decide]
      exact h1
theorem srt_nan {l : List Nat} (hl : ∀ x ∈ l, x < 18446744073709551616) (j : Nat) (hj : j < (srtR l).length) : fnan (srtR l)[j] = decide ((nums l).length ≤ j) := by
  have hs := srt_split hl
  have hlen : (srtR (nums l)).length = (nums l).length := srtR_length _
  have e : (srtR l)[j]? = (srtR (nums l) ++ List.replicate (l.length - (nums l).length) 9221120237041090561)[j]? := by rw [← hs]
  rw [List.getElem?_eq_getElem hj] at e
  by_cases h : (nums l).length ≤ j
  · rw [List.getElem?_append_right (by omega), List.getElem?_replicate] at e
    split at e
    · simp only [Option.some.injEq] at e
      rw [e, decide_eq_true h]; decide
    · cases e
  · rw [List.getElem?_append_left (by omega), List.getElem?_eq_getElem (by omega)] at e
    simp only [Option.some.injEq] at e
    rw [e, decide_eq_false h]
    have := (List.mem_filter.1 ((nums_perm l).mem_iff.1 (List.getElem_mem (show j < (srtR (nums l)).length by omega)))).2
    simpa using this
theorem srt_front {l : List Nat} (hl : ∀ x ∈ l, x < 18446744073709551616) (j : Nat) (hj : j < (nums l).length) : ∃ h : j < (srtR l).length, (srtR l)[j] = (srtR (nums l)).getD j 0 := by
  have hs := srt_split hl
  have hlen : (srtR (nums l)).length = (nums l).length := srtR_length _
  have hle : (nums l).length ≤ l.length := List.length_filter_le _ _
  have hj2 : j < (srtR l).length := by rw [srtR_length]; omega
  refine ⟨hj2, ?_⟩
  have e : (srtR l)[j]? = (srtR (nums l) ++ List.replicate (l.length - (nums l).length) 9221120237041090561)[j]? := by rw [← hs]
  rw [List.getElem?_eq_getElem hj2, List.getElem?_append_left (by omega)] at e
  rw [List.getD_eq_getElem?_getD, ← e]; rfl
theorem nums_reverse (l : List Nat) : nums l.reverse = (nums l).reverse := by unfold nums; rw [List.filter_reverse]
theorem med_reverse {l : List Nat} (hl : ∀ x ∈ l, x < 18446744073709551616) : medR l.reverse = medR l := by
  have e : srtR (nums l.reverse) = srtR (nums l) := by
    refine srt_one _ _ ?_ (srtR_srt _) (srtR_srt _) ?_
    · refine (nums_perm l.reverse).trans (List.Perm.trans ?_ (nums_perm l).symm)
      rw [nums_reverse]; exact List.reverse_perm _
    · intro x hx
      exact nums_tld (fun y hy => hl y (List.mem_reverse.1 hy)) x ((nums_perm l.reverse).mem_iff.1 hx)
  have e2 : (nums l.reverse).length = (nums l).length := by rw [nums_reverse, List.length_reverse]
  unfold medR
  rw [e, e2]

theorem tdiv_two (n : Nat) : (n : Int).tdiv 2 = ((n / 2 : Nat) : Int) := (Int.ofNat_tdiv n 2).symm
theorem tmod_two (n : Nat) : (n : Int).tmod 2 = ((n % 2 : Nat) : Int) := (Int.ofNat_tmod n 2).symm

set_option maxHeartbeats 2000000 in
set_option maxRecDepth 100000 in
theorem refMedian_calls (lv : Value) (l : List Nat) (w : World) (hl : Fls w lv l) (hz : l.length ≤ 1000) :
    Calls Try.prog 16 #[lv] w fun e w' => e = .returned (.float .f64 (medR l)) ∧ Below w.heap.size w w' := by
  have HN : Hid _ := fun wx => numbers_calls lv l wx
  have HF : Hid _ := hl
  have hnl : (nums l).length ≤ l.length := List.length_filter_le _ _
  have hsl : (srtR (nums l)).length = (nums l).length := srtR_length _
  generalize hA : medR l = A at *
  have HA : Hid _ := hA
  clear hA hl
  unfold medR at HA
  go_enter Try.func16, Try.ntmps16
  go_wp2_with fail
  refine (HN.out _ HF.out hz).mono ?_
  rintro e w1 ⟨v', rfl, ho, b1⟩
  obtain ⟨p', c', rfl⟩ := own_lenF ho
  generalize srtR (nums l) = s at *
  generalize (nums l).length = n at *
  have HO : Hid _ := ho
  clear ho
  by_cases h0 : n = 0
  · subst h0
    rw [if_pos rfl] at HA
    go_wp2_with fail
    refine (refNaN_calls _).mono ?_
    rintro e w2 ⟨rfl, rfl⟩
    go_wp2
    go_ret
    exact ⟨by rw [← HA.out]; rfl, b1⟩
  · rw [if_neg h0] at HA
    have hne : ((n : Int) == 0) = false := by rw [beq_eq_false_iff_ne]; omega
    have hq := tdiv_two n
    have hr := tmod_two n
    by_cases h1 : n % 2 = 1
    · rw [if_pos h1] at HA
      rw [h1] at hr
      obtain ⟨g, rfl, hcc, hg, hc0⟩ := own_cellF HO.out (n / 2) (by omega) hsl
      rw [List.getD_eq_getElem?_getD, List.getElem?_eq_getElem (by omega), Option.getD_some] at HA
      generalize s[n / 2] = x at *
      have hlt2 : n / 2 < n := by omega
      generalize n / 2 = m at *
      go_wp2_with fail
      go_ret
      exact ⟨by rw [← HA.out]; rfl, b1⟩
    · rw [if_neg h1] at HA
      rw [show n % 2 = 0 by omega] at hr
      obtain ⟨g, rfl, hcc, hg, hc0⟩ := own_cellF HO.out (n / 2) (by omega) hsl
      obtain ⟨g', hgg, _, _, hc1⟩ := own_cellF HO.out (n / 2 - 1) (by omega) hsl
      simp only [Option.some.injEq, Addr.mk.injEq, and_true] at hgg
      subst hgg
      rw [List.getD_eq_getElem?_getD, List.getElem?_eq_getElem (by omega), Option.getD_some, List.getD_eq_getElem?_getD, List.getElem?_eq_getElem (by omega), Option.getD_some] at HA
      generalize s[n / 2] = x at *
      generalize s[n / 2 - 1] = y at *
      have hlt2 : n / 2 < n := by omega
      have hpos2 : 1 ≤ n / 2 := by omega
      generalize n / 2 = m at *
      obtain ⟨q, rfl⟩ : ∃ q, m = q + 1 := ⟨m - 1, by omega⟩
      rw [Nat.add_sub_cancel] at hc1
      have hi1 : IntKind.i64.wrap (((q + 1 : Nat) : Int) - 1) = (q : Int) := by rw [IntKind.wrap_i64]; omega
      have hi2 : IntKind.i64.wrap (q : Int) = (q : Int) := by rw [IntKind.wrap_i64]; omega
      have t1 : (0 : Int) ≤ (q : Int) := by omega
      have t2 : (q : Int) < (n : Int) := by omega
      have t3 : (q : Int) + 1 < (n : Int) := by omega
      have t4 : (0 : Int) ≤ (q : Int) + 1 := by omega
      have t5 : q < n := by omega
      have HM : Hid _ := fun wx => refMid_calls y x wx
      go_wp2_with fail
      go_region_with (go_at_call 35; refine (HM.out _).mono ?_; rintro e w2 ⟨rfl, b2⟩)
      all_goals
        go_wp2_with fail
        go_ret
        exact ⟨by rw [← HA.out]; rfl, b1.trans ((Below.refl _ _).drew.trans (b2.mono (by simp; exact b1.size)))⟩
end Go.Proofs.Ytoblekdjncikaaa
