/- Two quorums meet: what two logs hold of votes that are alike but for a few. -/
import Derived.Test.YtipjlonnllcfbaaVlO
namespace Go.Proofs.Ytipjlonnllcfbaa
open Go.Shelf Go.RowKit Go.Lib Go.Sort
set_option linter.unusedSimpArgs false
set_option linter.unusedVariables false

/-- How many below n have a mark. -/
def cnt (f : Nat → Bool) : Nat → Nat
  | 0 => 0
  | n + 1 => cnt f n + (if f n = true then 1 else 0)
theorem cnt_le (f : Nat → Bool) : ∀ n, cnt f n ≤ n
  | 0 => Nat.le_refl _
  | n + 1 => by have := cnt_le f n; unfold cnt; split <;> omega
theorem cnt_split (f : Nat → Bool) (k : Nat) : ∀ m, cnt f (k + m) = cnt f k + cnt (fun i => f (k + i)) m
  | 0 => rfl
  | m + 1 => by
    show cnt f (k + m) + _ = cnt f k + (cnt (fun i => f (k + i)) m + _)
    rw [cnt_split f k m]
    exact Nat.add_assoc _ _ _
theorem cnt_or (f g : Nat → Bool) (h : ∀ i, f i = true → g i = true → False) : ∀ n, cnt f n + cnt g n ≤ n
  | 0 => Nat.le_refl _
  | n + 1 => by
    have ih := cnt_or f g h n
    have := h n
    unfold cnt
    cases hf : f n <;> cases hg : g n
    · simp; omega
    · simp; omega
    · simp; omega
    · exact absurd (this hf hg) id
theorem cnt_congr {f g : Nat → Bool} : ∀ n, (∀ i, i < n → f i = g i) → cnt f n = cnt g n
  | 0, _ => rfl
  | n + 1, h => by unfold cnt; rw [cnt_congr n (fun i hi => h i (by omega)), h n (by omega)]
theorem alk_cnt (l : Vts) (c : Int × ByteArray) : ∀ n, (alk n l c).length = cnt (fun i => (agr l c i).isSome) n
  | 0 => rfl
  | n + 1 => by
    unfold alk cnt
    rw [List.range_succ, List.filterMap_append, List.length_append]
    have := alk_cnt l c n
    unfold alk at this
    rw [this]
    cases h : agr l c n with
    | none => simp [h]
    | some m => simp [h]

/-- What a log of the law holds behind i votes. -/
structure Vs (L : Lv) (n : Nat) (own : ByteArray) (f : Nat → Option ByteArray) (i : Nat) : Prop where
  n : L.n = n
  vw : L.vw = 0
  lo : L.lo = 0
  ps : (L.sl 1).ps = 1
  pd : (L.sl 1).pd = own
  get : ∀ j : Nat, vget (L.sl 1).pr (j : Int) = if j < i then (f j).map (fun x => (1, x, ((j : Int), ⟨#[109]⟩, ⟨#[115]⟩))) else none
theorem pla1 : pla 1 = 1 := by kernel_rfl
theorem prove_keep (s : Slot) (n : Nat) (vw : Int) : (s.prove n vw).ps = s.ps ∧ (s.prove n vw).pd = s.pd := by unfold Slot.prove; split <;> exact ⟨rfl, rfl⟩
theorem vs_new {n : Nat} {own : ByteArray} (h : own ≠ ⟨#[]⟩) (f : Nat → Option ByteArray) : Vs ((Lv.new n).propose 0 1 own ⟨#[120]⟩).1 n own f 0 := by
  have e : ((Lv.new n).propose 0 1 own ⟨#[120]⟩).1 = (Lv.new n).set 1 ((({ noSlot with ps := 1, pd := own, ba := ⟨#[120]⟩ } : Slot)).prove n 0) := by
    unfold Lv.propose
    rw [if_neg h, if_neg (by rintro (e | e); · rw [show (Lv.new n).wi 1 = true from rfl] at e; cases e
                             · exact e rfl), if_neg (fun e => h e.1.symm), if_neg (by simp [Lv.new, noSlot])]
    rw [pla1]
    rfl
  rw [e]
  refine ⟨rfl, rfl, rfl, ?_, ?_, fun j => ?_⟩
  · rw [set_sl, (prove_keep _ _ _).1]
  · rw [set_sl, (prove_keep _ _ _).2]
  · rw [set_sl, (prove_pr _ _ _).1]
    simp [vget, noSlot]
theorem vs_wi {L : Lv} {n : Nat} {own : ByteArray} {f : Nat → Option ByteArray} {i : Nat} (h : Vs L n own f i) : L.wi 1 = true := by unfold Lv.wi; rw [h.lo]; rfl
theorem vs_vote {L : Lv} {n : Nat} {own : ByteArray} {f : Nat → Option ByteArray} {i : Nat} (h : Vs L n own f i) (hi : i < n) {x : ByteArray} (hx : f i = some x) : Vs (L.vote ((i : Int), ⟨#[109]⟩, ⟨#[115]⟩) 3 0 1 x).1 n own f (i + 1) := by
  have hg : vget (L.sl 1).pr (i : Int) = none := by rw [h.get, if_neg (by omega)]
  have e : (L.vote ((i : Int), ⟨#[109]⟩, ⟨#[115]⟩) 3 0 1 x).1 = L.set 1 (({ L.sl 1 with pr := vput (L.sl 1).pr (i : Int) (1, x, ((i : Int), ⟨#[109]⟩, ⟨#[115]⟩)) } : Slot).prove L.n L.vw) := by
    unfold Lv.vote
    rw [if_neg (by rintro (e | e); · rw [h.n] at e; exact e ⟨by simp, by simpa using hi⟩
                   · exact absurd rfl e.1), if_neg (by rintro (e | e); · rw [vs_wi h] at e; cases e
                                                       · exact e h.vw.symm), pla1]
    show (match vget ((L.sl 1).vts 3) (i : Int) with | some v => _ | none => _ : Lv × Int).1 = _
    rw [show (L.sl 1).vts 3 = (L.sl 1).pr from rfl, hg]
    rfl
  rw [e]
  refine ⟨h.n, h.vw, h.lo, ?_, ?_, fun j => ?_⟩
  · rw [set_sl, (prove_keep _ _ _).1]; exact h.ps
  · rw [set_sl, (prove_keep _ _ _).2]; exact h.pd
  · rw [set_sl, (prove_pr _ _ _).1]
    show vget (vput (L.sl 1).pr (i : Int) _) (j : Int) = _
    by_cases hj : j = i
    · subst hj
      rw [vget_put_same, if_pos (by omega), hx]
      rfl
    · rw [vget_put_other _ _ _ _ (by omega), h.get]
      by_cases h2 : j < i
      · rw [if_pos h2, if_pos (by omega)]
      · rw [if_neg h2, if_neg (by omega)]
theorem vs_skip {L : Lv} {n : Nat} {own : ByteArray} {f : Nat → Option ByteArray} {i : Nat} (h : Vs L n own f i) (hx : f i = none) : Vs L n own f (i + 1) :=
  ⟨h.n, h.vw, h.lo, h.ps, h.pd, fun j => by
    rw [h.get]
    by_cases h2 : j < i
    · rw [if_pos h2, if_pos (by omega)]
    · rw [if_neg h2]
      by_cases h3 : j = i
      · subst h3; rw [if_pos (by omega), hx]; rfl
      · rw [if_neg (by omega)]⟩
/-- A prepared log: as many as must said its own digest. -/
theorem vs_prep {L : Lv} {n : Nat} {own : ByteArray} {f : Nat → Option ByteArray} (h : Vs L n own f n) (hp : (L.wi 1 && (L.sl (pla 1)).prep L.n) = true) : quo n ≤ cnt (fun j => decide (f j = some own)) n := by
  rw [pla1, h.n] at hp
  simp only [Bool.and_eq_true] at hp
  have hp2 := hp.2
  unfold Slot.prep qrm at hp2
  rw [h.ps, h.pd] at hp2
  have hl : quo n ≤ (alk n (L.sl 1).pr (1, own)).length := by
    rcases Nat.lt_or_ge (alk n (L.sl 1).pr (1, own)).length (quo n) with h1 | h1
    · rw [if_pos h1] at hp2; simp at hp2
    · exact h1
  rw [alk_cnt] at hl
  refine Nat.le_trans hl (Nat.le_of_eq (cnt_congr n fun j hj => ?_))
  unfold agr
  rw [h.get, if_pos hj]
  cases hf : f j with
  | none => simp
  | some x =>
    by_cases hx : x = own
    · simp [says, hx]
    · simp [says, hx]
/-- The votes of the law: the first k say each log's own digest, the others what is listed. -/
def sayF (k : Nat) (own : ByteArray) (vs : List ByteArray) (j : Nat) : Option ByteArray := if j < k then some own else vs[j - k]?
theorem meet {k : Nat} {m t : ByteArray} {vs : List ByteArray} (h1 : quo (3 * k + 1) ≤ cnt (fun j => decide (sayF k m vs j = some m)) (3 * k + 1)) (h2 : quo (3 * k + 1) ≤ cnt (fun j => decide (sayF k t vs j = some t)) (3 * k + 1)) : m = t := by
  refine Decidable.byContradiction fun hne => ?_
  have e : 3 * k + 1 = k + (2 * k + 1) := by omega
  have q : quo (3 * k + 1) = 2 * k + 1 := by unfold quo; omega
  rw [q, e, cnt_split] at h1 h2
  have a1 := cnt_le (fun j => decide (sayF k m vs j = some m)) k
  have a2 := cnt_le (fun j => decide (sayF k t vs j = some t)) k
  have := cnt_or (fun i => decide (sayF k m vs (k + i) = some m)) (fun i => decide (sayF k t vs (k + i) = some t)) (fun i hx hy => by
    simp only [decide_eq_true_eq, sayF, if_neg (show ¬ k + i < k by omega)] at hx hy
    rw [hx] at hy
    exact hne (Option.some.inj hy)) (2 * k + 1)
  omega
end Go.Proofs.Ytipjlonnllcfbaa
