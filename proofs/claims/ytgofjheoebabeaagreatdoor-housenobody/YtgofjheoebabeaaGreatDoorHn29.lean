/- What a clearing leaves, as plain data. -/
import Derived.Test.YtgofjheoebabeaaGreatDoorHn28
namespace Go.Proofs.YtgofjheoebabeaaGreatDoor.Cal
open Go.Sort
set_option linter.unusedSimpArgs false
set_option linter.unusedVariables false

theorem insS_perm {α : Type} {lt : α → α → Bool} (x : α) : ∀ s : List α, (insS lt x s).Perm (x :: s)
  | [] => List.Perm.refl _
  | y :: t => by
    rw [insS]
    split
    · exact List.Perm.refl _
    · exact ((insS_perm x t).cons y).trans (List.Perm.swap x y t)
theorem stab_perm {α : Type} {lt : α → α → Bool} (l : List α) : (stab lt l).Perm l := by
  have key : ∀ (l s : List α), (l.foldl (fun acc x => insS lt x acc) s).Perm (s ++ l) := by
    intro l
    induction l with
    | nil => intro s; simp
    | cons x l ih =>
      intro s
      rw [List.foldl_cons]
      refine (ih _).trans ?_
      have h1 : ((insS lt x s) ++ l).Perm ((x :: s) ++ l) := (insS_perm x s).append_right l
      refine h1.trans ?_
      exact (List.perm_middle (l₁ := s) (l₂ := l) (a := x)).symm
  simpa [stab] using key l []
/-- What a client was filled of an Id. -/
def got : List Fi → Int → Int
  | [], _ => 0
  | f :: l, x => (if f.1 = x then f.2.2 else 0) + got l x
theorem got_app (a b : List Fi) (x : Int) : got (a ++ b) x = got a x + got b x := by
  induction a with
  | nil => simp [got]
  | cons f a ih => simp only [List.cons_append, got, ih]; omega
def lessAt (l : List Od) (f : Fi) : List Od := l.map fun o => if o.id = f.1 then o.setAm (o.am - f.2.2) else o
theorem setAm_self (o : Od) : o.setAm o.am = o := rfl
theorem less_fold (fs : List Fi) : ∀ os : List Od, fs.foldl lessAt os = os.map fun o => o.setAm (o.am - got fs o.id) := by
  induction fs with
  | nil => intro os; simp [got, setAm_self]
  | cons f fs ih =>
    intro os
    rw [List.foldl_cons, ih, lessAt, List.map_map]
    apply List.map_congr_left
    intro o _
    simp only [Function.comp, got]
    by_cases h : o.id = f.1
    · rw [if_pos h, if_pos h.symm]
      show (o.setAm (o.am - f.2.2)).setAm (o.am - f.2.2 - got fs o.id) = _
      show o.setAm (o.am - f.2.2 - got fs o.id) = _
      congr 1; omega
    · rw [if_neg h, if_neg (fun e => h e.symm)]
      congr 1; omega
theorem fll_mem : ∀ (s : List Od) (n : Int) (f : Fi), f ∈ fll s n → ∃ o ∈ s, f.1 = o.id ∧ f.2.1 = o.own ∧ 0 < f.2.2 ∧ f.2.2 ≤ o.am
  | [], n, f, h => by simp [fll] at h
  | o :: s, n, f, h => by
    rw [fll] at h
    split at h
    · cases h
    · rename_i hm
      rcases List.mem_cons.1 h with e | e
      · subst e
        exact ⟨o, List.mem_cons_self .., rfl, rfl, by show 0 < min o.am n; omega, by show min o.am n ≤ o.am; omega⟩
      · obtain ⟨q, hq, k⟩ := fll_mem s _ f e
        exact ⟨q, List.mem_cons_of_mem _ hq, k⟩
theorem fll_ids : ∀ (s : List Od) (n : Int), ((fll s n).map fun f => f.1).Sublist (s.map Od.id)
  | [], n => by simp [fll]
  | o :: s, n => by
    rw [fll]
    split
    · simp
    · simp only [List.map_cons]
      exact (fll_ids s _).cons_cons _
variable {B : Bo}
theorem jdg_book (h : BInv B) : jdg B.os = B.os := by
  unfold jdg
  rw [if_neg (by have := h.len; omega), List.filter_eq_self]
  exact h.may
theorem BInv.nodup (h : BInv B) : (B.os.map Od.id).Nodup := by
  unfold List.Nodup
  rw [List.pairwise_map]
  exact h.ids
theorem BInv.same (h : BInv B) {a b : Od} (ha : a ∈ B.os) (hb : b ∈ B.os) (e : a.id = b.id) : a = b := by
  have key : ∀ l : List Od, l.Pairwise (fun a b => a.id ≠ b.id) → a ∈ l → b ∈ l → a = b := by
    intro l
    induction l with
    | nil => intro _ h; cases h
    | cons x l ih =>
      intro hp h1 h2
      rw [List.pairwise_cons] at hp
      rcases List.mem_cons.1 h1 with e1 | e1 <;> rcases List.mem_cons.1 h2 with e2 | e2
      · rw [e1, e2]
      · exact absurd (by rw [← e1]; exact e) (hp.1 b e2)
      · exact absurd (by rw [← e2]; exact e.symm) (hp.1 a e1)
      · exact ih hp.2 e1 e2
  exact key B.os h.ids ha hb
/-- The fills of a book. -/
theorem fills_mem (h : BInv B) {p n : Int} {f : Fi} (hf : f ∈ fills B.os p n) : ∃ o ∈ B.os, f.1 = o.id ∧ f.2.1 = o.own ∧ 0 < f.2.2 ∧ f.2.2 ≤ o.am := by
  unfold fills at hf
  rw [jdg_book h] at hf
  rcases List.mem_append.1 hf with e | e
  · obtain ⟨o, ho, k⟩ := fll_mem _ _ _ e
    exact ⟨o, (List.mem_filter.1 ((stab_perm _).mem_iff.1 ho)).1, k⟩
  · obtain ⟨o, ho, k⟩ := fll_mem _ _ _ e
    exact ⟨o, (List.mem_filter.1 ((stab_perm _).mem_iff.1 ho)).1, k⟩
theorem stab_ids (h : BInv B) (f : Od → Bool) (lt : Od → Od → Bool) (n : Int) : ((fll (stab lt (B.os.filter f)) n).map fun f => f.1).Nodup := by
  have h1 : ((B.os.filter f).map Od.id).Nodup := h.nodup.sublist (List.filter_sublist.map _)
  have h2 : ((stab lt (B.os.filter f)).map Od.id).Nodup := ((stab_perm (lt := lt) (B.os.filter f)).map Od.id).nodup_iff.2 h1
  exact h2.sublist (fll_ids _ _)
theorem fills_nodup (h : BInv B) (p n : Int) : ((fills B.os p n).map fun f => f.1).Nodup := by
  unfold fills
  rw [jdg_book h, List.map_append, List.nodup_append]
  refine ⟨stab_ids h _ _ _, stab_ids h _ _ _, ?_⟩
  intro x hx y hy e
  obtain ⟨f, hf, rfl⟩ := List.mem_map.1 hx
  obtain ⟨f', hf', rfl⟩ := List.mem_map.1 hy
  obtain ⟨o, ho, k, _⟩ := fll_mem _ _ _ hf
  obtain ⟨o', ho', k', _⟩ := fll_mem _ _ _ hf'
  have m := List.mem_filter.1 ((stab_perm _).mem_iff.1 ho)
  have m' := List.mem_filter.1 ((stab_perm _).mem_iff.1 ho')
  have := h.same m.1 m'.1 (by rw [← k, ← k']; exact e)
  subst this
  have a1 := m.2
  have a2 := m'.2
  unfold bAt at a1
  unfold sAt at a2
  simp only [Bool.and_eq_true, Bool.not_eq_true'] at a1 a2
  rw [a1.1] at a2
  cases a2.1
theorem got_none : ∀ (l : List Fi) (x : Int), (∀ f ∈ l, f.1 ≠ x) → got l x = 0
  | [], _, _ => rfl
  | f :: l, x, h => by
    rw [got, if_neg (h f (List.mem_cons_self ..)), got_none l x (fun g hg => h g (List.mem_cons_of_mem _ hg))]
    rfl
theorem got_one : ∀ (l : List Fi) (f : Fi), (l.map fun f => f.1).Nodup → f ∈ l → got l f.1 = f.2.2
  | g :: l, f, hn, hf => by
    rw [List.map_cons, List.nodup_cons] at hn
    rcases List.mem_cons.1 hf with e | e
    · subst e
      rw [got, if_pos rfl, got_none l f.1 (fun g hg e => hn.1 (List.mem_map.2 ⟨g, hg, e⟩))]
      omega
    · rw [got, if_neg (fun k => hn.1 (by rw [k]; exact List.mem_map.2 ⟨f, e, rfl⟩)), got_one l f hn.2 e]
      omega
/-- An order is filled by no more than it has. -/
theorem got_bd (h : BInv B) (p n : Int) {o : Od} (ho : o ∈ B.os) : 0 ≤ got (fills B.os p n) o.id ∧ got (fills B.os p n) o.id ≤ o.am := by
  have ham := may_am (h.may o ho)
  by_cases hx : ∃ f ∈ fills B.os p n, f.1 = o.id
  · obtain ⟨f, hf, e⟩ := hx
    have h1 := got_one _ f (fills_nodup h p n) hf
    obtain ⟨q, hq, k1, k2, k3, k4⟩ := fills_mem h hf
    have := h.same hq ho (by rw [← k1]; exact e)
    subst this
    rw [← e, h1]
    omega
  · rw [got_none _ _ (fun f hf e => hx ⟨f, hf, e⟩)]
    omega
theorem got_pos : ∀ (l : List Fi), (∀ f ∈ l, 0 < f.2.2) → ∀ x, 0 ≤ got l x
  | [], _, x => by simp [got]
  | f :: l, h, x => by
    have h1 := h f (List.mem_cons_self ..)
    have h2 := got_pos l (fun g hg => h g (List.mem_cons_of_mem _ hg)) x
    rw [got]
    split <;> omega
theorem got_take (h : BInv B) (p n : Int) (k : Nat) {o : Od} (ho : o ∈ B.os) : 0 ≤ got ((fills B.os p n).take k) o.id ∧ got ((fills B.os p n).take k) o.id ≤ o.am := by
  have hp : ∀ f ∈ fills B.os p n, 0 < f.2.2 := fun f hf => by obtain ⟨_, _, _, _, k, _⟩ := fills_mem h hf; exact k
  have h1 := got_bd h p n ho
  have h2 := got_app ((fills B.os p n).take k) ((fills B.os p n).drop k) o.id
  rw [List.take_append_drop] at h2
  have h3 := got_pos ((fills B.os p n).drop k) (fun f hf => hp f (List.mem_of_mem_drop hf)) o.id
  have h4 := got_pos ((fills B.os p n).take k) (fun f hf => hp f (List.mem_of_mem_take hf)) o.id
  omega
/-- The book behind a clearing. -/
def Bo.fl (B : Bo) : List Fi := fills B.os (crs B.os).1 (crs B.os).2
def Bo.clr (B : Bo) : Bo := ⟨B.nx, (B.fl.foldl lessAt B.os).filter fun o => !(o.am == 0)⟩
theorem clr_os (B : Bo) : B.clr.os = (B.os.map fun o => o.setAm (o.am - got B.fl o.id)).filter fun o => !(o.am == 0) := by
  unfold Bo.clr
  rw [less_fold]
theorem BInv.clr (h : BInv B) : BInv B.clr := by
  have hs : B.clr.os.Sublist (B.os.map fun o => o.setAm (o.am - got B.fl o.id)) := by rw [clr_os]; exact List.filter_sublist
  have hm : ∀ o ∈ B.clr.os, ∃ q ∈ B.os, o = q.setAm (q.am - got B.fl q.id) ∧ o.am ≠ 0 := by
    intro o ho
    rw [clr_os] at ho
    obtain ⟨h1, h2⟩ := List.mem_filter.1 ho
    obtain ⟨q, hq, e⟩ := List.mem_map.1 h1
    exact ⟨q, hq, e.symm, by simpa using h2⟩
  refine ⟨h.nx1, h.nx2, ?_, ?_, ?_, ?_, ?_⟩
  · have := hs.length_le
    rw [List.length_map] at this
    exact Nat.le_trans this h.len
  · intro o ho
    obtain ⟨q, hq, rfl, hz⟩ := hm o ho
    have h1 := h.may q hq
    have h2 := got_bd h (crs B.os).1 (crs B.os).2 hq
    have h3 := may_am h1
    unfold mayB at h1 ⊢
    simp only [Bool.and_eq_true, decide_eq_true_eq] at h1 ⊢
    refine ⟨h1.1, ?_⟩
    have h4 : (q.setAm (q.am - got B.fl q.id)).am = q.am - got B.fl q.id := rfl
    rw [h4] at hz ⊢
    unfold Bo.fl at hz ⊢
    omega
  · refine List.Pairwise.sublist hs ?_
    rw [List.pairwise_map]
    exact h.ids
  · refine List.Pairwise.sublist hs ?_
    rw [List.pairwise_map]
    exact h.pls
  · intro o ho
    obtain ⟨q, hq, rfl, hz⟩ := hm o ho
    exact h.pl q hq
/-- The program's way: the one of that Id has less. -/
theorem less_set {l : List Od} (hp : l.Pairwise fun a b => a.id ≠ b.id) {i : Nat} {o : Od} (ho : l[i]? = some o) (f : Fi) (hf : o.id = f.1) : l.set i (o.setAm (o.am - f.2.2)) = lessAt l f := by
  induction l generalizing i with
  | nil => simp at ho
  | cons x l ih =>
    rw [List.pairwise_cons] at hp
    cases i with
    | zero =>
      have e : x = o := by simpa using ho
      subst e
      rw [List.set_cons_zero, lessAt, List.map_cons, if_pos hf]
      congr 1
      symm
      have e2 : (l.map fun o => if o.id = f.1 then o.setAm (o.am - f.2.2) else o) = l.map fun o => o := List.map_congr_left (fun o ho => by rw [if_neg (fun e => hp.1 o ho (by rw [e, hf]))])
      rw [e2, List.map_id']
    | succ i =>
      have ho' : l[i]? = some o := by simpa using ho
      have hm := List.mem_of_getElem? ho'
      rw [List.set_cons_succ, ih hp.2 ho', lessAt, lessAt, List.map_cons, if_neg (fun e => hp.1 o hm (by rw [e, hf]))]
theorem less_ids (l : List Od) (f : Fi) : (lessAt l f).map Od.id = l.map Od.id := by
  unfold lessAt
  rw [List.map_map]
  apply List.map_congr_left
  intro o _
  simp only [Function.comp]
  split <;> rfl
end Go.Proofs.YtgofjheoebabeaaGreatDoor.Cal
