/- Clearing a market, as plain data: limits of the buying orders; what is let go; buyers and sellers. -/
import Derived.Test.YtgofjheoebabeaaGreatDoorHn40
import Derived.Test.YtgofjheoebabeaaGreatDoorHn35
import Derived.Test.YtgofjheoebabeaaGreatDoorHn32
namespace Go.Proofs.YtgofjheoebabeaaGreatDoor
open Go.RowKit
set_option linter.unusedSimpArgs false
set_option linter.unusedVariables false

abbrev IIs := List (Int × Int)
def igt : IIs → Int → Option Int
  | [], _ => none
  | x :: r, k => if k = x.1 then some x.2 else igt r k
def ipt : IIs → Int → Int → IIs
  | [], k, v => [(k, v)]
  | x :: r, k, v => if k = x.1 then (k, v) :: r else x :: ipt r k v
def kv (l : IIs) : KVs := l.map fun x => (x.1, Value.int .i64 x.2)
theorem vget_kv (l : IIs) (k : Int) : vget (kv l) k = (igt l k).map (Value.int .i64) := by
  induction l with
  | nil => rfl
  | cons x l ih =>
    show (if k = x.1 then _ else vget (kv l) k) = Option.map _ (if k = x.1 then _ else igt l k)
    split
    · rfl
    · exact ih
theorem vput_kv (l : IIs) (k v : Int) : vput (kv l) k (.int .i64 v) = kv (ipt l k v) := by
  induction l with
  | nil => rfl
  | cons x l ih =>
    show (if k = x.1 then _ else _ :: vput (kv l) k _) = kv (if k = x.1 then _ else x :: ipt l k v)
    split
    · rfl
    · rw [ih]; rfl
theorem igt_same (l : IIs) (k v : Int) : igt (ipt l k v) k = some v := by
  induction l with
  | nil => simp [ipt, igt]
  | cons x l ih =>
    unfold ipt
    split
    · simp [igt]
    · rename_i h; simp [igt, h, ih]
theorem igt_other (l : IIs) (k j v : Int) (h : j ≠ k) : igt (ipt l k v) j = igt l j := by
  induction l with
  | nil => simp [ipt, igt, h]
  | cons x l ih =>
    unfold ipt
    split
    · rename_i e; subst e; simp [igt, h]
    · simp [igt, ih]
def limS (m : IIs) (o : Cal.Od) : IIs := if o.by = true then ipt m o.id o.pr else m
def limM (os : List Cal.Od) : IIs := os.foldl limS []
theorem fold_none : ∀ (os : List Cal.Od) (m : IIs) (x : Int), (∀ o ∈ os, o.id = x → o.by = false) → igt (os.foldl limS m) x = igt m x
  | [], m, x, _ => rfl
  | o :: os, m, x, h => by
    rw [List.foldl_cons, fold_none os _ x (fun y hy => h y (List.mem_cons_of_mem _ hy))]
    unfold limS
    split
    · rename_i hb
      refine igt_other _ _ _ _ (fun e => ?_)
      have := h o (List.mem_cons_self ..) e.symm
      rw [hb] at this; cases this
    · rfl
theorem fold_some : ∀ (os : List Cal.Od) (m : IIs) (o : Cal.Od), os.Pairwise (fun a b => a.id ≠ b.id) → o ∈ os → o.by = true → igt (os.foldl limS m) o.id = some o.pr
  | a :: os, m, o, hp, ho, hb => by
    rw [List.pairwise_cons] at hp
    rw [List.foldl_cons]
    rcases List.mem_cons.1 ho with rfl | ho
    · rw [fold_none os _ _ (fun y hy e => absurd e.symm (hp.1 y hy))]
      unfold limS
      rw [if_pos hb]
      exact igt_same _ _ _
    · exact fold_some os _ o hp.2 ho hb
theorem fold_pr : ∀ (os : List Cal.Od) (m : IIs) (x q : Int), igt (os.foldl limS m) x = some q → igt m x = some q ∨ ∃ o ∈ os, q = o.pr
  | [], m, x, q, h => Or.inl h
  | o :: os, m, x, q, h => by
    rw [List.foldl_cons] at h
    rcases fold_pr os _ x q h with h1 | ⟨y, hy, e⟩
    · unfold limS at h1
      split at h1
      · by_cases e : x = o.id
        · subst e
          rw [igt_same] at h1
          exact Or.inr ⟨o, List.mem_cons_self .., by simpa using h1.symm⟩
        · rw [igt_other _ _ _ _ e] at h1; exact Or.inl h1
      · exact Or.inl h1
    · exact Or.inr ⟨y, List.mem_cons_of_mem _ hy, e⟩
theorem lim_take (os : List Cal.Od) (k : Nat) (h : k < os.length) : limM (os.take (k + 1)) = limS (limM (os.take k)) os[k] := by
  unfold limM
  rw [List.take_succ_eq_append_getElem h, List.foldl_append]
  rfl

def stepF (g : Nat) (price : Int) (lm : IIs) (s : Ks × List Cal.Fi × List Cal.Fi) (f : Cal.Fi) : Ks × List Cal.Fi × List Cal.Fi :=
  match igt lm f.1 with
  | some q => (bindL g s.1 f.2.1 (-1) ((price - q) * f.2.2), s.2.1 ++ [f], s.2.2)
  | none => (s.1, s.2.1, s.2.2 ++ [f])
def clrS (g : Nat) (l : Ks) (B : Cal.Bo) (k : Nat) : Ks × List Cal.Fi × List Cal.Fi := (B.fl.take k).foldl (stepF g (Cal.crs B.os).1 (limM B.os)) (l, [], [])
theorem clrS_zero (g : Nat) (l : Ks) (B : Cal.Bo) : clrS g l B 0 = (l, [], []) := rfl
theorem clrS_succ (g : Nat) (l : Ks) (B : Cal.Bo) (k : Nat) (h : k < B.fl.length) : clrS g l B (k + 1) = stepF g (Cal.crs B.os).1 (limM B.os) (clrS g l B k) B.fl[k] := by
  unfold clrS
  rw [List.take_succ_eq_append_getElem h, List.foldl_append]
  rfl
/-- What the accounts are behind a clearing. -/
def clrL (g : Nat) (i : Int) (l : Ks) (B : Cal.Bo) : Ks :=
  setl g i (Cal.crs B.os).1 ((clrS g l B B.fl.length).2.1.length + (clrS g l B B.fl.length).2.2.length) (clrS g l B B.fl.length).1 (clrS g l B B.fl.length).2.1 (clrS g l B B.fl.length).2.2
theorem clrS_parts (g : Nat) (l : Ks) (B : Cal.Bo) : ∀ k, k ≤ B.fl.length → (clrS g l B k).1.length = l.length ∧ (clrS g l B k).2.1 = (B.fl.take k).filter (fun f => (igt (limM B.os) f.1).isSome) ∧ (clrS g l B k).2.2 = (B.fl.take k).filter (fun f => !(igt (limM B.os) f.1).isSome)
  | 0, _ => ⟨rfl, rfl, rfl⟩
  | k + 1, h => by
    obtain ⟨h1, h2, h3⟩ := clrS_parts g l B k (by omega)
    rw [clrS_succ g l B k (by omega), List.take_succ_eq_append_getElem (by omega), List.filter_append, List.filter_append]
    unfold stepF
    cases hi : igt (limM B.os) B.fl[k].1 with
    | none => simp [h1, h2, h3, hi]
    | some q => simp [h1, h2, h3, hi, bindL_len]
theorem clrL_len (g : Nat) (i : Int) (l : Ks) (B : Cal.Bo) : (clrL g i l B).length = l.length := by
  unfold clrL
  rw [setl_len]
  exact (clrS_parts g l B _ (Nat.le_refl _)).1
theorem amF_app : ∀ a b : List Cal.Fi, amF (a ++ b) = amF a + amF b
  | [], b => by simp [amF]
  | f :: a, b => by simp only [List.cons_append, amF, amF_app a b]; omega
theorem sides {B : Cal.Bo} (h : Cal.BInv B) : ∀ l : List Cal.Fi, (∀ f ∈ l, f ∈ B.fl) → amF (l.filter (fun f => (igt (limM B.os) f.1).isSome)) = Cal.sdS B.os true l ∧ amF (l.filter (fun f => !(igt (limM B.os) f.1).isSome)) = Cal.sdS B.os false l
  | [], _ => ⟨rfl, rfl⟩
  | f :: l, hm => by
    obtain ⟨h1, h2⟩ := sides h l (fun x hx => hm x (List.mem_cons_of_mem _ hx))
    obtain ⟨o, ho, e1, _⟩ := Cal.fills_mem h (hm f (List.mem_cons_self ..))
    have s1 := Cal.sdR_one true f o e1 B.os h.ids ho
    have s2 := Cal.sdR_one false f o e1 B.os h.ids ho
    simp only [Cal.sdS, s1, s2]
    cases hb : o.by with
    | true =>
      have hg : igt (limM B.os) f.1 = some o.pr := by rw [e1]; exact fold_some _ _ o h.ids ho hb
      simp only [Option.not_isSome] at h2 ⊢
      simp [hg, amF, h1, h2]
    | false =>
      have hg : igt (limM B.os) f.1 = none := by
        have := fold_none B.os [] f.1 (fun y hy e => by
          have : y = o := h.same hy ho (e.trans e1)
          rw [this]; exact hb)
        exact this
      simp only [Option.not_isSome] at h2 ⊢
      simp [hg, amF, h1, h2]
theorem clr_even {g : Nat} {l : Ks} {B : Cal.Bo} (h : Cal.BInv B) : amF (clrS g l B B.fl.length).2.1 = amF (clrS g l B B.fl.length).2.2 := by
  obtain ⟨_, h2, h3⟩ := clrS_parts g l B _ (Nat.le_refl _)
  rw [h2, h3, List.take_length]
  obtain ⟨s1, s2⟩ := sides h B.fl (fun _ hf => hf)
  rw [s1, s2, Cal.side_true h, Cal.side_true h]
theorem fl_bd {B : Cal.Bo} (h : Cal.BInv B) {f : Cal.Fi} (hf : f ∈ B.fl) : 0 < f.2.2 ∧ f.2.2 ≤ 1048576 := by
  obtain ⟨o, ho, _, _, h1, h2⟩ := Cal.fills_mem h hf
  exact ⟨h1, (Cal.fl_am h hf).2⟩
theorem clr_pos {g : Nat} {l : Ks} {B : Cal.Bo} (h : Cal.BInv B) : posF (clrS g l B B.fl.length).2.1 ∧ posF (clrS g l B B.fl.length).2.2 ∧ (clrS g l B B.fl.length).2.1.length ≤ 1000 ∧ (clrS g l B B.fl.length).2.2.length ≤ 1000 := by
  obtain ⟨_, h2, h3⟩ := clrS_parts g l B _ (Nat.le_refl _)
  rw [h2, h3, List.take_length]
  have hl := Cal.fl_len B
  refine ⟨fun f hf => fl_bd h (List.mem_filter.1 hf).1, fun f hf => fl_bd h (List.mem_filter.1 hf).1, ?_, ?_⟩
  · have := List.length_filter_le (fun f : Cal.Fi => (igt (limM B.os) f.1).isSome) B.fl; omega
  · have := List.length_filter_le (fun f : Cal.Fi => !(igt (limM B.os) f.1).isSome) B.fl; omega
theorem may_pr {o : Cal.Od} (h : Cal.mayB o = true) : 0 ≤ o.pr ∧ o.pr ≤ 1099511627776 := by
  unfold Cal.mayB at h
  simp only [Bool.and_eq_true, decide_eq_true_eq] at h
  exact h.1.2
theorem crs_pr (l : List Cal.Od) : 0 ≤ (Cal.crs l).1 ∧ (Cal.crs l).1 ≤ 1099511627776 := by
  unfold Cal.crs
  have : ∀ (J t : List Cal.Od) (s : Int × Int), (∀ o ∈ t, Cal.mayB o = true) → 0 ≤ s.1 ∧ s.1 ≤ 1099511627776 → 0 ≤ (t.foldl (Cal.crS J) s).1 ∧ (t.foldl (Cal.crS J) s).1 ≤ 1099511627776 := by
    intro J t
    induction t with
    | nil => intro s _ h; exact h
    | cons o t ih =>
      intro s hm h
      rw [List.foldl_cons]
      refine ih _ (fun x hx => hm x (List.mem_cons_of_mem _ hx)) ?_
      unfold Cal.crS
      split
      · exact may_pr (hm o (List.mem_cons_self ..))
      · exact h
  exact this _ _ _ Cal.jdg_may ⟨Int.le_refl _, by decide⟩
theorem lim_bd {B : Cal.Bo} (h : Cal.BInv B) {x q : Int} (hq : igt (limM B.os) x = some q) : 0 ≤ q ∧ q ≤ 1099511627776 := by
  rcases fold_pr B.os [] x q hq with h1 | ⟨o, ho, rfl⟩
  · cases h1
  · exact may_pr (h.may o ho)
end Go.Proofs.YtgofjheoebabeaaGreatDoor
