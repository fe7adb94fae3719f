/- The lowest and the highest, against the numbers in their order. -/
import Derived.Test.YtoblekdjncikaaaQtBs
import Derived.Test.YtoblekdjncikaaaQtSr
namespace Go.Proofs.Ytoblekdjncikaaa
open Go.RowKit
set_option linter.unusedSimpArgs false
set_option linter.unusedVariables false

theorem nums_told (l : List Nat) : (nums l).map toldR = nums l := by
  have : (nums l).map toldR = (nums l).map id := by
    refine List.map_congr_left fun x hx => ?_
    have := (List.mem_filter.1 hx).2
    unfold toldR
    cases h : fnan x <;> simp [h] at this ⊢
  rw [this, List.map_id]
theorem nums_perm (l : List Nat) : (srtR (nums l)).Perm (nums l) := by have := srtR_perm (nums l); rwa [nums_told] at this
theorem nums_tld {l : List Nat} (h : ∀ x ∈ l, x < 18446744073709551616) : ∀ x ∈ nums l, Tld x := by
  intro x hx
  have h1 := List.mem_filter.1 hx
  refine ⟨h x h1.1, fun hn => ?_⟩
  have := h1.2
  rw [hn] at this; cases this

def ahead (high : Bool) (a b : Nat) : Prop := if high then rankR b ≤ rankR a else rankR a ≤ rankR b
theorem best_inv (high : Bool) (l : List Nat) : ∀ k, k ≤ l.length → ((bestR high (l.take k)).2 = false ∧ (bestR high (l.take k)).1 = 0 ∧ nums (l.take k) = []) ∨
    ((bestR high (l.take k)).2 = true ∧ (bestR high (l.take k)).1 ∈ nums (l.take k) ∧ ∀ x ∈ nums (l.take k), ahead high (bestR high (l.take k)).1 x) := by
  intro k
  induction k with
  | zero => intro _; left; exact ⟨rfl, rfl, rfl⟩
  | succ k ih =>
    intro hk
    have ih := ih (by omega)
    rw [bestR_succ high l k (by omega), nums_snoc l k (by omega)]
    generalize bestR high (l.take k) = acc at *
    generalize nums (l.take k) = out at *
    generalize l[k] = x at *
    obtain ⟨best, has⟩ := acc
    simp only at ih
    unfold bestStep
    simp only
    cases hn : fnan x
    rotate_left
    · simpa using ih
    · simp only [Bool.not_false, Bool.true_and, Bool.false_eq_true, if_false]
      rcases ih with ⟨rfl, rfl, rfl⟩ | ⟨rfl, h2, h3⟩
      · right
        simp [ahead]
      · simp only [Bool.not_true, Bool.false_or]
        right
        cases hb : (if high = true then lessR best x else lessR x best)
        · simp only [Bool.false_eq_true, if_false]
          refine ⟨trivial, List.mem_append_left _ h2, fun y hy => ?_⟩
          rcases List.mem_append.1 hy with hy | hy
          · exact h3 y hy
          · obtain rfl := List.mem_singleton.1 hy
            unfold ahead
            cases high <;> simp [lessR] at hb ⊢ <;> omega
        · simp only [if_true]
          refine ⟨trivial, List.mem_append_right _ (List.mem_singleton.2 rfl), fun y hy => ?_⟩
          rcases List.mem_append.1 hy with hy | hy
          · have := h3 y hy
            unfold ahead at this ⊢
            cases high <;> simp [lessR] at hb this ⊢ <;> omega
          · obtain rfl := List.mem_singleton.1 hy
            unfold ahead; cases high <;> simp
theorem best_none {high : Bool} {l : List Nat} (h : nums l = []) : bestR high l = (0, false) := by
  have := best_inv high l l.length (Nat.le_refl _)
  rw [List.take_length] at this
  rcases this with ⟨h1, h2, _⟩ | ⟨_, h2, _⟩
  · exact Prod.ext h2 h1
  · rw [h] at h2; cases h2
theorem best_some {high : Bool} {l : List Nat} (hl : ∀ x ∈ l, x < 18446744073709551616) (h : nums l ≠ []) :
    bestR high l = ((srtR (nums l)).getD (if high then (nums l).length - 1 else 0) 0, true) := by
  have hinv := best_inv high l l.length (Nat.le_refl _)
  rw [List.take_length] at hinv
  rcases hinv with ⟨_, _, h3⟩ | ⟨h1, h2, h3⟩
  · exact absurd h3 h
  · have hp := nums_perm l
    have hs := srtR_srt (nums l)
    have hlen : (srtR (nums l)).length = (nums l).length := hp.length_eq
    have hpos : 0 < (nums l).length := List.length_pos_iff.2 h
    have hT := nums_tld hl
    have hi : (if high then (nums l).length - 1 else 0) < (srtR (nums l)).length := by rw [hlen]; split <;> omega
    rw [List.getD_eq_getElem?_getD, List.getElem?_eq_getElem hi, Option.getD_some]
    have hm : (srtR (nums l))[if high then (nums l).length - 1 else 0] ∈ nums l := hp.mem_iff.1 (List.getElem_mem hi)
    have h4 := h3 _ hm
    obtain ⟨j, hj, hje⟩ := List.mem_iff_getElem.1 (hp.mem_iff.2 h2)
    have hpw := List.pairwise_iff_getElem.1 hs
    refine Prod.ext ?_ h1
    refine rank_inj (hT _ h2) (hT _ hm) ?_
    unfold ahead at h4
    cases high
    · simp only [Bool.false_eq_true, if_false] at h4 hi ⊢
      have h5 : rankR (srtR (nums l))[0] ≤ rankR (bestR false l).1 := by
        rw [← hje]
        rcases Nat.eq_zero_or_pos j with h0 | h0
        · subst h0; exact Nat.le_refl _
        · exact hpw 0 j hi hj h0
      omega
    · simp only [if_true] at h4 hi ⊢
      have h5 : rankR (bestR true l).1 ≤ rankR (srtR (nums l))[(nums l).length - 1] := by
        rw [← hje]
        rcases Nat.lt_or_ge j ((nums l).length - 1) with h0 | h0
        · exact hpw j _ hj hi h0
        · have : j = (nums l).length - 1 := by omega
          subst this; exact Nat.le_refl _
      omega
/-- A slice's first m. -/
theorem fls_take {w : World} {p : Option Addr} {c : Nat} {l : List Nat} (h : Fls w (.slice p l.length c) l) (m : Nat) (hm : m ≤ l.length) : Fls w (.slice p m c) (l.take m) := by
  rcases h with ⟨⟨p', c', hv⟩, rfl⟩ | ⟨b, off, cap, hv, hb, hc, hcc⟩
  · simp at hm; subst hm; exact Or.inl ⟨⟨_, _, rfl⟩, rfl⟩
  · simp only [Value.slice.injEq] at hv
    obtain ⟨rfl, _, rfl⟩ := hv
    refine Or.inr ⟨b, off, c, by rw [List.length_take, Nat.min_eq_left hm], hb, by rw [List.length_take]; omega, fun i hi => ?_⟩
    rw [List.length_take] at hi
    rw [List.getElem_take]
    exact hcc i (by omega)
end Go.Proofs.Ytoblekdjncikaaa
