/- Sorted lists that keep the order of what is alike: what a stable sort and a merge leave. No program is named here. -/
import Derived.Sort.Defs
import Derived.Sort.Statements
import Derived.Test.YtladgfngddgnlaaGreatDoorHy01
import Derived.Test.YtladgfngddgnlaaGreatDoorRows
import Derived.Shelf.SlSortCmp.KitK
import Derived.Sort.WalkB2
import Derived.Deep.LoopGhost
namespace Go.Proofs.YtladgfngddgnlaaGreatDoor.Cal
open Go.Sort
set_option linter.unusedSimpArgs false
set_option linter.unusedVariables false
section
variable {α : Type} (lt : α → α → Bool)
/-- Sorted: none stands ahead of a lesser one. -/
def Srt (l : List α) : Prop := l.Pairwise fun x y => lt y x = false
def eqv (x y : α) : Bool := !lt x y && !lt y x
/-- What is alike stands in the same order. -/
def Stb (l l' : List α) : Prop := ∀ x, l'.filter (eqv lt x) = l.filter (eqv lt x)
variable {lt}
theorem Stb.refl (l : List α) : Stb lt l l := fun _ => rfl
theorem Stb.trans {a b c : List α} (h : Stb lt a b) (k : Stb lt b c) : Stb lt a c := fun x => (k x).trans (h x)
theorem Stb.append {a a' b b' : List α} (h : Stb lt a a') (k : Stb lt b b') : Stb lt (a ++ b) (a' ++ b') := fun x => by rw [List.filter_append, List.filter_append, h x, k x]
theorem Stb.mid {a b b' c : List α} (k : Stb lt b b') : Stb lt (a ++ b ++ c) (a ++ b' ++ c) := ((Stb.refl a).append k).append (Stb.refl c)
theorem eqv_self (hO : SWO lt) (x : α) : eqv lt x x = true := by simp [eqv, hO.irrefl x]
theorem eqv_not {x y z : α} (hO : SWO lt) (h : eqv lt z x = true) (k : eqv lt z y = true) : lt x y = false := by
  simp only [eqv, Bool.and_eq_true, Bool.not_eq_true'] at h k
  exact hO.ntrans x z y h.2 k.1
theorem Stb.swap (hO : SWO lt) {u v : List α} (h : ∀ x ∈ v, ∀ y ∈ u, lt x y = true) : Stb lt (u ++ v) (v ++ u) := by
  intro z
  rw [List.filter_append, List.filter_append]
  by_cases hu : u.filter (eqv lt z) = []
  · rw [hu]; simp
  · by_cases hv : v.filter (eqv lt z) = []
    · rw [hv]; simp
    · exfalso
      obtain ⟨y, hy⟩ := List.exists_mem_of_ne_nil _ hu
      obtain ⟨x, hx⟩ := List.exists_mem_of_ne_nil _ hv
      rw [List.mem_filter] at hx hy
      have h1 := h x hx.1 y hy.1
      rw [eqv_not hO hx.2 hy.2] at h1
      cases h1
theorem Stb.mem (hO : SWO lt) {a b : List α} (h : Stb lt a b) {x : α} : x ∈ b ↔ x ∈ a := by
  constructor
  · intro hx
    have : x ∈ b.filter (eqv lt x) := List.mem_filter.2 ⟨hx, eqv_self hO x⟩
    rw [h x] at this
    exact (List.mem_filter.1 this).1
  · intro hx
    have : x ∈ a.filter (eqv lt x) := List.mem_filter.2 ⟨hx, eqv_self hO x⟩
    rw [← h x] at this
    exact (List.mem_filter.1 this).1
/-- There is one such order alone. -/
theorem Srt.one (hO : SWO lt) : ∀ (r r' : List α), Srt lt r → Srt lt r' → Stb lt r r' → r = r'
  | [], [], _, _, _ => rfl
  | [], y :: t, _, _, h => by
    have := (h.mem hO (x := y)).1 (List.mem_cons_self ..)
    cases this
  | x :: t, [], _, _, h => by
    have := (h.mem hO (x := x)).2 (List.mem_cons_self ..)
    cases this
  | x :: t, y :: t', hr, hr', h => by
    unfold Srt at hr hr'
    rw [List.pairwise_cons] at hr hr'
    have hx : lt x y = false := by
      rcases List.mem_cons.1 ((h.mem hO (x := x)).2 (List.mem_cons_self ..)) with e | e
      · rw [e]; exact hO.irrefl y
      · exact hr'.1 x e
    have hy : lt y x = false := by
      rcases List.mem_cons.1 ((h.mem hO (x := y)).1 (List.mem_cons_self ..)) with e | e
      · rw [e]; exact hO.irrefl x
      · exact hr.1 y e
    have e1 : eqv lt x y = true := by simp [eqv, hx, hy]
    have e2 := h x
    rw [List.filter_cons, if_pos e1, List.filter_cons, if_pos (eqv_self hO x)] at e2
    injection e2 with e3 _
    subst e3
    congr 1
    refine Srt.one hO t t' hr.2 hr'.2 fun z => ?_
    have := h z
    rw [List.filter_cons, List.filter_cons] at this
    by_cases hz : eqv lt z y = true
    · rw [if_pos hz, if_pos hz] at this; injection this
    · rw [if_neg hz, if_neg hz] at this; exact this
theorem Srt.left {a b : List α} (h : Srt lt (a ++ b)) : Srt lt a := (List.pairwise_append.1 h).1
theorem Srt.right {a b : List α} (h : Srt lt (a ++ b)) : Srt lt b := (List.pairwise_append.1 h).2.1
theorem Srt.cross {a b : List α} (h : Srt lt (a ++ b)) : ∀ x ∈ a, ∀ y ∈ b, lt y x = false := (List.pairwise_append.1 h).2.2
theorem Srt.join {a b : List α} (h : Srt lt a) (k : Srt lt b) (c : ∀ x ∈ a, ∀ y ∈ b, lt y x = false) : Srt lt (a ++ b) := List.pairwise_append.2 ⟨h, k, c⟩
theorem Srt.nil : Srt lt ([] : List α) := List.Pairwise.nil
/-- The same by inserting one after another. -/
def insS (lt : α → α → Bool) (x : α) : List α → List α
  | [] => [x]
  | y :: t => if lt x y = true then x :: y :: t else y :: insS lt x t
def stab (lt : α → α → Bool) (l : List α) : List α := l.foldl (fun acc x => insS lt x acc) []
theorem insS_split (hO : SWO lt) (x : α) : ∀ s : List α, Srt lt s → ∃ s1 s2, s = s1 ++ s2 ∧ insS lt x s = s1 ++ x :: s2 ∧ (∀ y ∈ s1, lt x y = false) ∧ (∀ y ∈ s2, lt x y = true)
  | [], _ => ⟨[], [], rfl, rfl, by simp, by simp⟩
  | y :: t, h => by
    unfold Srt at h
    rw [List.pairwise_cons] at h
    by_cases hy : lt x y = true
    · refine ⟨[], y :: t, rfl, by rw [insS, if_pos hy]; rfl, by simp, ?_⟩
      intro z hz
      rcases List.mem_cons.1 hz with e | e
      · rw [e]; exact hy
      · have hz := h.1 z e
        cases hxz : lt x z
        · have := hO.ntrans x z y hxz hz
          rw [hy] at this; cases this
        · rfl
    · obtain ⟨s1, s2, e1, e2, k1, k2⟩ := insS_split hO x t h.2
      refine ⟨y :: s1, s2, by rw [e1]; rfl, by rw [insS, if_neg hy, e2]; rfl, ?_, k2⟩
      intro z hz
      rcases List.mem_cons.1 hz with e | e
      · rw [e]; simpa using hy
      · exact k1 z e
theorem lt_not (hO : SWO lt) {x y : α} (h : lt x y = true) : lt y x = false := by
  cases hy : lt y x
  · rfl
  · have := hO.trans x y x h hy
    rw [hO.irrefl x] at this; cases this
theorem insS_srt (hO : SWO lt) (x : α) {s : List α} (h : Srt lt s) : Srt lt (insS lt x s) := by
  obtain ⟨s1, s2, e1, e2, k1, k2⟩ := insS_split hO x s h
  rw [e2]
  subst e1
  refine Srt.join h.left ?_ ?_
  · unfold Srt; rw [List.pairwise_cons]
    exact ⟨fun y hy => lt_not hO (k2 y hy), h.right⟩
  · intro a ha b hb
    rcases List.mem_cons.1 hb with e | e
    · rw [e]; exact k1 a ha
    · exact h.cross a ha b e
theorem insS_stb (hO : SWO lt) (x : α) {s : List α} (h : Srt lt s) : Stb lt (s ++ [x]) (insS lt x s) := by
  obtain ⟨s1, s2, e1, e2, k1, k2⟩ := insS_split hO x s h
  rw [e2]
  subst e1
  rw [List.append_assoc, show s1 ++ x :: s2 = s1 ++ ([x] ++ s2) from rfl]
  refine (Stb.refl s1).append (Stb.swap hO ?_)
  intro a ha b hb
  rw [List.mem_singleton] at ha
  rw [ha]; exact k2 b hb
theorem stab_fold (hO : SWO lt) : ∀ (l s p : List α), Srt lt s → Stb lt p s → Srt lt (l.foldl (fun acc x => insS lt x acc) s) ∧ Stb lt (p ++ l) (l.foldl (fun acc x => insS lt x acc) s)
  | [], s, p, h, k => by simpa using ⟨h, k⟩
  | x :: l, s, p, h, k => by
    have := stab_fold hO l (insS lt x s) (p ++ [x]) (insS_srt hO x h) ((k.append (Stb.refl [x])).trans (insS_stb hO x h))
    simpa using this
theorem stab_srt (hO : SWO lt) (l : List α) : Srt lt (stab lt l) := (stab_fold hO l [] [] Srt.nil (Stb.refl _)).1
theorem stab_stb (hO : SWO lt) (l : List α) : Stb lt l (stab lt l) := by simpa [stab] using (stab_fold hO l [] [] Srt.nil (Stb.refl _)).2
theorem stab_of (hO : SWO lt) {l r : List α} (h : Srt lt r) (k : Stb lt l r) : r = stab lt l :=
  Srt.one hO r _ h (stab_srt hO l) fun z => ((stab_stb hO l) z).trans (k z).symm
theorem stab_snoc (l : List α) (x : α) : stab lt (l ++ [x]) = insS lt x (stab lt l) := by simp [stab]

/-- Merging two sorted lists. -/
theorem merge_halves (hO : SWO lt) {u1 u2 v1 v2 r1 r2 : List α} (hu : Srt lt (u1 ++ u2)) (hv : Srt lt (v1 ++ v2)) (h12 : ∀ x ∈ v1, ∀ y ∈ u2, lt x y = true) (h21 : ∀ x ∈ u1, ∀ y ∈ v2, lt y x = false)
    (s1 : Srt lt r1) (s2 : Srt lt r2) (k1 : Stb lt (u1 ++ v1) r1) (k2 : Stb lt (u2 ++ v2) r2) : Srt lt (r1 ++ r2) ∧ Stb lt (u1 ++ u2 ++ (v1 ++ v2)) (r1 ++ r2) := by
  constructor
  · refine s1.join s2 ?_
    intro x hx y hy
    have hx := (k1.mem hO).1 hx
    have hy := (k2.mem hO).1 hy
    rcases List.mem_append.1 hx with a | a <;> rcases List.mem_append.1 hy with b | b
    · exact hu.cross x a y b
    · exact h21 x a y b
    · exact lt_not hO (h12 x a y b)
    · exact hv.cross x a y b
  · have e : Stb lt (u1 ++ u2 ++ (v1 ++ v2)) (u1 ++ v1 ++ (u2 ++ v2)) := by
      have := ((Stb.refl u1).append (Stb.swap hO h12)).append (Stb.refl v2)
      simpa [List.append_assoc] using this
    exact e.trans (k1.append k2)
/-- One element goes into a sorted list behind it. -/
theorem merge_first (hO : SWO lt) {x : α} {v1 v2 : List α} (hv : Srt lt (v1 ++ v2)) (h1 : ∀ y ∈ v1, lt y x = true) (h2 : ∀ y ∈ v2, lt y x = false) : Srt lt (v1 ++ x :: v2) ∧ Stb lt (x :: (v1 ++ v2)) (v1 ++ x :: v2) := by
  constructor
  · refine hv.left.join (by unfold Srt; rw [List.pairwise_cons]; exact ⟨h2, hv.right⟩) ?_
    intro a ha b hb
    rcases List.mem_cons.1 hb with e | e
    · rw [e]; exact lt_not hO (h1 a ha)
    · exact hv.cross a ha b e
  · have := (Stb.swap hO (u := [x]) (v := v1) (by intro a ha b hb; rw [List.mem_singleton] at hb; rw [hb]; exact h1 a ha)).append (Stb.refl v2)
    simpa using this
/-- One element goes into a sorted list ahead of it. -/
theorem merge_last (hO : SWO lt) {x : α} {u1 u2 : List α} (hu : Srt lt (u1 ++ u2)) (h1 : ∀ y ∈ u1, lt x y = false) (h2 : ∀ y ∈ u2, lt x y = true) : Srt lt (u1 ++ x :: u2) ∧ Stb lt (u1 ++ u2 ++ [x]) (u1 ++ x :: u2) := by
  constructor
  · refine hu.left.join (by unfold Srt; rw [List.pairwise_cons]; exact ⟨fun y hy => lt_not hO (h2 y hy), hu.right⟩) ?_
    intro a ha b hb
    rcases List.mem_cons.1 hb with e | e
    · rw [e]; exact h1 a ha
    · exact hu.cross a ha b e
  · have := (Stb.refl u1).append (Stb.swap hO (u := u2) (v := [x]) (by intro a ha b hb; rw [List.mem_singleton] at ha; rw [ha]; exact h2 b hb))
    simpa [List.append_assoc] using this
end

section
variable {α : Type}
theorem size_of {d : Array α} {l : List α} (h : d.toList = l) : d.size = l.length := by rw [← h]; simp
/-- A list cut at a place. -/
theorem cut_at {l : List α} {k : Nat} (h : k < l.length) : ∃ A x C, l = A ++ x :: C ∧ A.length = k := by
  refine ⟨l.take k, l[k], l.drop (k + 1), ?_, by simp; omega⟩
  rw [List.getElem_cons_drop, List.take_append_drop]
theorem cut2 {l : List α} {k : Nat} (h : k ≤ l.length) : ∃ A C, l = A ++ C ∧ A.length = k := ⟨l.take k, l.drop k, (List.take_append_drop k l).symm, by simp; omega⟩
end
section
variable {α : Type} [Inhabited α]
theorem get_mid {d : Array α} {A C : List α} {x : α} {k : Nat} (h : d.toList = A ++ x :: C) (hk : k = A.length) : d[k]! = x := by
  subst hk
  have hs : A.length < d.size := by rw [← Array.length_toList, h]; simp
  rw [getElem!_pos d _ hs]
  have e : d.toList[A.length]? = some x := by rw [h]; simp
  have e2 : d.toList[A.length]? = some d[A.length] := by simp [hs]
  rw [e2] at e; injection e
theorem swp_mid {d : Array α} {A B C : List α} {x y : α} {i j : Nat} (h : d.toList = A ++ x :: (B ++ y :: C)) (hi : i = A.length) (hj : j = A.length + 1 + B.length) : (swp d i j).toList = A ++ y :: (B ++ x :: C) := by
  have hx : d[i]! = x := get_mid h hi
  have hy : d[j]! = y := get_mid (A := A ++ x :: B) (C := C) (by rw [h]; simp) (by rw [hj]; simp; omega)
  unfold swp
  rw [hx, hy, Array.toList_setIfInBounds, Array.toList_setIfInBounds, h, hi, hj]
  rw [List.set_append_right _ _ (Nat.le_refl _), Nat.sub_self, List.set_cons_zero]
  rw [List.set_append_right _ _ (by omega), show A.length + 1 + B.length - A.length = B.length + 1 by omega, List.set_cons_succ, List.set_append_right _ _ (Nat.le_refl _), Nat.sub_self, List.set_cons_zero]
theorem swp_comm' {d : Array α} {A B C : List α} {x y : α} {i j : Nat} (h : d.toList = A ++ x :: (B ++ y :: C)) (hi : i = A.length) (hj : j = A.length + 1 + B.length) : (swp d j i).toList = A ++ y :: (B ++ x :: C) := by
  have hx : d[i]! = x := get_mid h hi
  have hy : d[j]! = y := get_mid (A := A ++ x :: B) (C := C) (by rw [h]; simp) (by rw [hj]; simp; omega)
  unfold swp
  rw [hx, hy, Array.toList_setIfInBounds, Array.toList_setIfInBounds, h, hi, hj]
  rw [List.set_append_right _ _ (by omega), show A.length + 1 + B.length - A.length = B.length + 1 by omega, List.set_cons_succ, List.set_append_right _ _ (Nat.le_refl _), Nat.sub_self, List.set_cons_zero]
  rw [List.set_append_right _ _ (Nat.le_refl _), Nat.sub_self, List.set_cons_zero]
end
end Go.Proofs.YtladgfngddgnlaaGreatDoor.Cal

namespace Go.Proofs.YtladgfngddgnlaaGreatDoor.Cal
open Go.RowKit Go.Sort
set_option linter.unusedSimpArgs false
set_option linter.unusedVariables false

/-- An order: Id, owner, price, amount, place, whether it buys. -/
abbrev Od : Type := Int × Int × Int × Int × Int × Bool
def Od.id (o : Od) : Int := o.1
def Od.own (o : Od) : Int := o.2.1
def Od.pr (o : Od) : Int := o.2.2.1
def Od.am (o : Od) : Int := o.2.2.2.1
def Od.pl (o : Od) : Int := o.2.2.2.2.1
def Od.by (o : Od) : Bool := o.2.2.2.2.2
def Od.setAm (o : Od) (n : Int) : Od := (o.1, o.2.1, o.2.2.1, n, o.2.2.2.2.1, o.2.2.2.2.2)
def oC (o : Od) : List Value := [.int .i64 o.id, .int .i64 o.own, .int .i64 o.pr, .int .i64 o.am, .int .i64 o.pl, .bool o.by]
theorem oC_len (o : Od) : (oC o).length = 6 := rfl
theorem oC_one (o : Od) : ∀ v ∈ oC o, v.oneCell' = true := by intro v hv; simp only [oC, List.mem_cons, List.not_mem_nil, or_false] at hv; rcases hv with h | h | h | h | h | h <;> (rw [h]; rfl)
def odL (l : List Od) : List Value := l.flatMap oC
theorem odL_len (l : List Od) : (odL l).length = l.length * 6 := by
  unfold odL
  induction l with
  | nil => rfl
  | cons k l ih => rw [List.flatMap_cons, List.length_append, ih, List.length_cons, oC_len]; omega
theorem odL_app (a b : List Od) : odL (a ++ b) = odL a ++ odL b := by simp [odL]
theorem odL_cons (a : Od) (b : List Od) : odL (a :: b) = oC a ++ odL b := by simp [odL]
theorem odL_one (l : List Od) : ∀ v ∈ odL l, v.oneCell' = true := by
  intro v hv
  unfold odL at hv
  rw [List.mem_flatMap] at hv
  obtain ⟨o, _, h⟩ := hv
  exact oC_one o v h
theorem odL_get : ∀ (l : List Od) (i j : Nat) (o : Od) (v : Value), l[i]? = some o → (oC o)[j]? = some v → (odL l)[i * 6 + j]? = some v
  | k :: l, 0, j, o, v, h0, h => by
    have h0 : k = o := by simpa using h0
    subst h0
    have hj : j < (oC k).length := (List.getElem?_eq_some_iff.1 h).1
    rw [odL_cons, Nat.zero_mul, Nat.zero_add, List.getElem?_append_left hj]
    exact h
  | k :: l, i + 1, j, o, v, h0, h => by
    have e2 : (i + 1) * 6 + j - 6 = i * 6 + j := by omega
    rw [odL_cons, List.getElem?_append_right (by rw [oC_len]; omega), oC_len, e2]
    exact odL_get l i j o v (by simpa using h0) h
/-- May an order be? -/
def mayB (o : Od) : Bool := decide (0 ≤ o.id ∧ o.id ≤ 9007199254740992) && decide (0 ≤ o.own ∧ o.own ≤ 15) && decide (0 ≤ o.pr ∧ o.pr ≤ 1099511627776) && decide (1 ≤ o.am ∧ o.am ≤ 1048576)
def bAt (p : Int) (o : Od) : Bool := o.by && decide (p ≤ o.pr)
def sAt (p : Int) (o : Od) : Bool := !o.by && decide (o.pr ≤ p)
def jdg (l : List Od) : List Od := if 64 < l.length then [] else l.filter mayB
def amt : List Od → Int
  | [] => 0
  | o :: l => o.am + amt l
theorem amt_app : ∀ a b : List Od, amt (a ++ b) = amt a + amt b
  | [], b => by simp [amt]
  | o :: a, b => by simp [amt, amt_app a b]; omega
def trd (l : List Od) (p : Int) : Int := min (amt (l.filter (bAt p))) (amt (l.filter (sAt p)))
def crS (l : List Od) (s : Int × Int) (o : Od) : Int × Int := if s.2 < trd l o.pr ∨ (trd l o.pr = s.2 ∧ o.pr < s.1) then (o.pr, trd l o.pr) else s
def crs (l : List Od) : Int × Int := (jdg l).foldl (crS (jdg l)) (0, 0)
def cmI (x y : Int) : Int := if x < y then -1 else if y < x then 1 else 0
def cOr (x y : Int) : Int := if x = 0 then y else x
def cfB (a b : Od) : Int := cOr (cmI b.pr a.pr) (cmI a.pl b.pl)
def cfS (a b : Od) : Int := cOr (cmI a.pr b.pr) (cmI a.pl b.pl)
/-- A fill: Id, owner, amount. -/
abbrev Fi : Type := Int × Int × Int
def fC (f : Fi) : List Value := [.int .i64 f.1, .int .i64 f.2.1, .int .i64 f.2.2]
def fiL (l : List Fi) : List Value := l.flatMap fC
theorem fiL_app (a b : List Fi) : fiL (a ++ b) = fiL a ++ fiL b := by simp [fiL]
theorem fiL_cons (a : Fi) (b : List Fi) : fiL (a :: b) = fC a ++ fiL b := by simp [fiL]
theorem fiL_len (l : List Fi) : (fiL l).length = l.length * 3 := by
  induction l with
  | nil => rfl
  | cons k l ih => rw [fiL_cons, List.length_append, ih, List.length_cons]; simp [fC]; omega
theorem fiL_one (l : List Fi) : ∀ v ∈ fiL l, v.oneCell' = true := by
  intro v hv
  unfold fiL at hv
  rw [List.mem_flatMap] at hv
  obtain ⟨o, _, h⟩ := hv
  simp only [fC, List.mem_cons, List.not_mem_nil, or_false] at h
  rcases h with h | h | h <;> (rw [h]; rfl)
theorem fiL_get : ∀ (l : List Fi) (i j : Nat) (o : Fi) (v : Value), l[i]? = some o → (fC o)[j]? = some v → (fiL l)[i * 3 + j]? = some v
  | k :: l, 0, j, o, v, h0, h => by
    have h0 : k = o := by simpa using h0
    subst h0
    have hj : j < (fC k).length := (List.getElem?_eq_some_iff.1 h).1
    rw [fiL_cons, Nat.zero_mul, Nat.zero_add, List.getElem?_append_left hj]
    exact h
  | k :: l, i + 1, j, o, v, h0, h => by
    have hl : (fC k).length = 3 := rfl
    have e2 : (i + 1) * 3 + j - 3 = i * 3 + j := by omega
    rw [fiL_cons, List.getElem?_append_right (by rw [hl]; omega), hl, e2]
    exact fiL_get l i j o v (by simpa using h0) h
def fll : List Od → Int → List Fi
  | [], _ => []
  | o :: l, n => if min o.am n ≤ 0 then [] else (o.id, o.own, min o.am n) :: fll l (n - min o.am n)
def fills (l : List Od) (p n : Int) : List Fi := fll (stab (fun a b => decide (cfB a b < 0)) ((jdg l).filter (bAt p))) n ++ fll (stab (fun a b => decide (cfS a b < 0)) ((jdg l).filter (sAt p))) n
theorem cm_lt (x y : Int) : cmI x y < 0 ↔ x < y := by unfold cmI; split <;> (try split) <;> omega
theorem cm_eq (x y : Int) : cmI x y = 0 ↔ x = y := by unfold cmI; split <;> (try split) <;> omega
theorem cfB_lt (a b : Od) : decide (cfB a b < 0) = decide (b.pr < a.pr ∨ (a.pr = b.pr ∧ a.pl < b.pl)) := by
  rw [decide_eq_decide]
  unfold cfB cOr
  have h1 := cm_lt b.pr a.pr
  have h2 := cm_eq b.pr a.pr
  have h3 := cm_lt a.pl b.pl
  split
  · rename_i h; rw [h2] at h; rw [h3]; omega
  · rename_i h; rw [h2] at h; rw [h1]; omega
theorem cfS_lt (a b : Od) : decide (cfS a b < 0) = decide (a.pr < b.pr ∨ (a.pr = b.pr ∧ a.pl < b.pl)) := by
  rw [decide_eq_decide]
  unfold cfS cOr
  have h1 := cm_lt a.pr b.pr
  have h2 := cm_eq a.pr b.pr
  have h3 := cm_lt a.pl b.pl
  split
  · rename_i h; rw [h2] at h; rw [h3]; omega
  · rename_i h; rw [h2] at h; rw [h1]; omega
theorem swoB : SWO (fun a b : Od => decide (cfB a b < 0)) := {
  irrefl := fun x => by simp only [cfB_lt]; simp
  trans := fun x y z h1 h2 => by simp only [cfB_lt, decide_eq_true_eq] at *; omega
  ntrans := fun x y z h1 h2 => by simp only [cfB_lt, decide_eq_false_iff_not] at *; omega }
theorem swoS : SWO (fun a b : Od => decide (cfS a b < 0)) := {
  irrefl := fun x => by simp only [cfS_lt]; simp
  trans := fun x y z h1 h2 => by simp only [cfS_lt, decide_eq_true_eq] at *; omega
  ntrans := fun x y z h1 h2 => by simp only [cfS_lt, decide_eq_false_iff_not] at *; omega }
end Go.Proofs.YtladgfngddgnlaaGreatDoor.Cal

namespace Go.Proofs.YtladgfngddgnlaaGreatDoor.Cal
open Go.Shelf Go.RowKit Go.Lib Go.Sort
set_option linter.unusedSimpArgs false
set_option linter.unusedVariables false

set_option maxHeartbeats 4000000 in
set_option maxRecDepth 1000000 in
theorem swapRange_calls (k : Nat) (aE : ∀ w, (isAgg 92).run Tryz.prog w = .ok true w) (zE : ∀ w, (Go.sizeOf 92).run Tryz.prog w = .ok k w) (fv : Value) (blk off cap a b n : Nat) (d0 d : Array Od) (w0 w : World) (R : RowK oC k w0 blk off d0) (hs : d0.size = d.size) (S : SWK oC k w0 blk off d w) (A U M V C : List Od)
    (hd : d.toList = A ++ U ++ M ++ V ++ C) (hl : U.length = V.length) (ha : a = A.length) (hb : b = A.length + U.length + M.length) (hn : n = U.length) (hsz : d.size < 1000000) :
    Calls Tryz.prog 185 #[.slice (some ⟨blk, off, none⟩) d.size cap, .int .i64 a, .int .i64 b, .int .i64 n, fv] w fun e w' => e = .returned (.tuple #[]) ∧ ∃ d' : Array Od, d'.toList = A ++ V ++ M ++ U ++ C ∧ SWK oC k w0 blk off d' w' := by
  have mixed : Tryz.prog.follows .mixedOrders = true := by kernel_rfl
  have hsd := size_of hd
  simp only [List.length_append] at hsd
  have S0 : Aside (SWK oC k w0 blk off d w) := S
  have HD : Hid _ := hd
  have HA : Hid _ := ha
  have HB : Hid _ := hb
  have HN : Hid _ := hn
  have HL : Hid _ := hl
  have hbn : b + n ≤ d.size := by omega
  have hab : a + n ≤ b := by omega
  have HSD : Hid _ := hsd
  clear S hd ha hb hn hl hsd
  go_enter Tryz.func185, Tryz.ntmps185
  go_wp2
  go_loopg [10] n (fun kx s wr => ∃ (i : Nat) (dk : Array Od) (U1 U2 V1 V2 : List Od), s = .int .i64 i ∧ i ≤ n ∧ n - i ≤ kx ∧ Hid (U = U1 ++ U2 ∧ V = V1 ++ V2 ∧ U1.length = i ∧ V1.length = i ∧ dk.toList = A ++ V1 ++ U2 ++ M ++ U1 ++ V2 ++ C) ∧ Aside (SWK oC k w0 blk off dk wr))
  case atStart => exact ⟨0, d, [], U, [], V, rfl, by omega, by omega, ⟨rfl, rfl, rfl, rfl, by simpa using HD.out⟩, S0⟩
  case round =>
    clear S0
    obtain ⟨i, dk, U1, U2, V1, V2, rfl, hin, hkx, HI, S1⟩ := hrel
    by_cases hlt : i < n
    · have hltz : (i : Int) < (n : Int) := by omega
      obtain ⟨x, U3, rfl⟩ : ∃ x U3, U2 = x :: U3 := by
        cases U2 with
        | nil => exfalso; have h1 := HI.out.1; have h2 := HI.out.2.2.1; have h3 := HN.out; rw [h1] at h3; simp at h3; omega
        | cons x t => exact ⟨x, t, rfl⟩
      obtain ⟨y, V3, rfl⟩ : ∃ y V3, V2 = y :: V3 := by
        cases V2 with
        | nil => exfalso; have h1 := HI.out.2.1; have h2 := HI.out.2.2.2.1; have h3 := HN.out; have h4 := HL.out; rw [h1] at h4; simp at h4; omega
        | cons x t => exact ⟨x, t, rfl⟩
      have HX : Hid (dk.toList = (A ++ V1) ++ x :: ((U3 ++ M ++ U1) ++ y :: (V3 ++ C))) := by show _ = _; rw [HI.out.2.2.2.2]; simp
      have HJ : Hid (a + i = (A ++ V1).length ∧ b + i = (A ++ V1).length + 1 + (U3 ++ M ++ U1).length) := by
        have h1 := HI.out.1; have h2 := HI.out.2.2.1; have h3 := HI.out.2.2.2.1; have h4 := HA.out; have h5 := HB.out
        rw [h1] at h5
        simp only [List.length_append, List.length_cons] at h5 ⊢
        exact ⟨by omega, by omega⟩
      have hds : dk.size = d.size := by
        have h1 := size_of HX.out; have h2 := size_of HD.out; have h3 := HI.out.1; have h4 := HI.out.2.1
        rw [h3, h4] at h2
        simp only [List.length_append, List.length_cons] at h1 h2
        omega
      have e1 : dk[a + i]! = x := get_mid HX.out HJ.out.1
      have e2 : dk[b + i]! = y := get_mid (A := A ++ V1 ++ x :: (U3 ++ M ++ U1)) (C := V3 ++ C) (by rw [HX.out]; simp) (by rw [HJ.out.2]; simp; omega)
      have HE1 : Hid _ := e1
      have HE2 : Hid _ := e2
      clear e1 e2
      go_wp2_with fail
      have ea44 : ((a : Int) + (i : Int)).toNat = a + i := by omega
      have pa44 : (0 : Int) ≤ (a : Int) + (i : Int) := by omega
      have ba44 : (a : Int) + (i : Int) < (d.size : Int) := by omega
      have ra44 : IntKind.i64.wrap ((a : Int) + (i : Int)) = (a : Int) + (i : Int) := by rw [IntKind.wrap_i64]; omega
      have ec44 : ((b : Int) + (i : Int)).toNat = b + i := by omega
      have pc44 : (0 : Int) ≤ (b : Int) + (i : Int) := by omega
      have bc44 : (b : Int) + (i : Int) < (d.size : Int) := by omega
      have rc44 : IntKind.i64.wrap ((b : Int) + (i : Int)) = (b : Int) + (i : Int) := by rw [IntKind.wrap_i64]; omega
      have S2 : Aside (SWK oC k w0 blk off (swp dk (a + i) (b + i)) ((wr.drew.setCells blk (off + (a + i) * k) (oC dk[b + i]!)).setCells blk (off + (b + i) * k) (oC dk[a + i]!))) := S1.out.swapped R (a + i) (b + i) (by omega) (by omega)
      have l44a := S1.out.ld1 R (by omega) Tryz.prog (a + i) (by omega)
      have l44b := S1.out.ld1 R (by omega) Tryz.prog (b + i) (by omega)
      have s44a := S1.out.st1 R (by omega) Tryz.prog (a + i) (by omega) dk[b + i]!
      have s44b := S1.out.st2 R (by omega) Tryz.prog (a + i) (b + i) (by omega) (by omega) dk[b + i]! dk[a + i]!
      have n44a : (oC dk[a + i]!).length = k := R.hk _
      have n44b : (oC dk[b + i]!).length = k := R.hk _
      generalize oC dk[a + i]! = cI44 at S2 l44a s44b n44a
      generalize oC dk[b + i]! = cJ44 at S2 l44b s44a s44b n44b
      clear S1
      go_wp2_with fail
      go_big_region_o
      clear l44a l44b s44a s44b
      generalize (wr.drew.setCells blk (off + (a + i) * k) cJ44).setCells blk (off + (b + i) * k) cI44 = w2 at S2 ⊢
      go_wp2
      go_roundg (n - (i + 1))
      case measure => omega
      case rel =>
        refine ⟨i + 1, swp dk (a + i) (b + i), U1 ++ [x], U3, V1 ++ [y], V3, by go_num, by omega, by omega, ⟨?_, ?_, ?_, ?_, ?_⟩, S2⟩
        · rw [HI.out.1]; simp
        · rw [HI.out.2.1]; simp
        · simp [HI.out.2.2.1]
        · simp [HI.out.2.2.2.1]
        · rw [swp_mid HX.out HJ.out.1 HJ.out.2]; simp
    · have hnl : ¬ (i : Int) < (n : Int) := by omega
      go_wp2
      go_end0
      obtain ⟨h1, h2, h3, h4, h5⟩ := HI.out
      have hz : U2 = [] := by
        have := HN.out; rw [h1] at this; simp at this
        exact List.eq_nil_of_length_eq_zero (by omega)
      have hz2 : V2 = [] := by
        have := HN.out; have k := HL.out; rw [h2] at k; simp at k
        exact List.eq_nil_of_length_eq_zero (by omega)
      subst hz hz2
      refine ⟨rfl, dk, ?_, S1.out⟩
      rw [h5, h1, h2]; simp
theorem swapRange_int (k : Nat) (aE : ∀ w, (isAgg 92).run Tryz.prog w = .ok true w) (zE : ∀ w, (Go.sizeOf 92).run Tryz.prog w = .ok k w) (fv : Value) (blk off cap : Nat) (a b n z : Int) (d0 d : Array Od) (w0 w : World) (R : RowK oC k w0 blk off d0) (hz : z = d.size) (hs : d0.size = d.size) (S : SWK oC k w0 blk off d w) (A U M V C : List Od)
    (hd : d.toList = A ++ U ++ M ++ V ++ C) (hl : U.length = V.length) (ha : a = A.length) (hb : b = A.length + U.length + M.length) (hn : n = U.length) (hsz : d.size < 1000000) :
    Calls Tryz.prog 185 #[.slice (some ⟨blk, off, none⟩) z.toNat cap, .int .i64 a, .int .i64 b, .int .i64 n, fv] w fun e w' => e = .returned (.tuple #[]) ∧ ∃ d' : Array Od, d'.toList = A ++ V ++ M ++ U ++ C ∧ SWK oC k w0 blk off d' w' := by
  have := swapRange_calls k aE zE fv blk off cap A.length (A.length + U.length + M.length) U.length d0 d w0 w R hs S A U M V C hd hl rfl rfl rfl hsz
  rw [ha, hb, hn, hz, Int.toNat_natCast]
  simpa using this

set_option maxHeartbeats 4000000 in
set_option maxRecDepth 1000000 in
theorem rotate_calls (k : Nat) (aE : ∀ w, (isAgg 92).run Tryz.prog w = .ok true w) (zE : ∀ w, (Go.sizeOf 92).run Tryz.prog w = .ok k w) (fv : Value) (blk off cap : Nat) (a m b : Nat) (d0 d : Array Od) (w0 w : World) (R : RowK oC k w0 blk off d0) (hs : d0.size = d.size) (S : SWK oC k w0 blk off d w) (A U V C : List Od)
    (hd : d.toList = A ++ U ++ V ++ C) (ha : a = A.length) (hm : m = A.length + U.length) (hb : b = A.length + U.length + V.length) (hu : 0 < U.length) (hv : 0 < V.length) (hsz : d.size < 1000000) :
    Calls Tryz.prog 184 #[.slice (some ⟨blk, off, none⟩) d.size cap, .int .i64 a, .int .i64 m, .int .i64 b, fv] w fun e w' => e = .returned (.tuple #[]) ∧ ∃ d' : Array Od, d'.toList = A ++ V ++ U ++ C ∧ SWK oC k w0 blk off d' w' := by
  have hsd := size_of hd
  simp only [List.length_append] at hsd
  have S0 : Aside (SWK oC k w0 blk off d w) := S
  have HD : Hid _ := hd
  have HA : Hid (a = A.length ∧ m = A.length + U.length ∧ b = A.length + U.length + V.length ∧ d.size = A.length + U.length + V.length + C.length) := ⟨ha, hm, hb, hsd⟩
  have h1 : a < m := by omega
  have h2 : m < b := by omega
  have h3 : b ≤ d.size := by omega
  clear S hd ha hm hb hsd hu hv
  go_enter Tryz.func184, Tryz.ntmps184
  go_wp2
  go_loopg [10, 11] (b - a) (fun kx s t wr => ∃ (i j : Nat) (dk : Array Od) (P u v Q : List Od), s = .int .i64 i ∧ t = .int .i64 j ∧ 0 < i ∧ 0 < j ∧ i ≤ m ∧ m + j ≤ d.size ∧ i + j ≤ kx ∧ dk.size = d.size ∧ Hid (P.length + i = m ∧ u.length = i ∧ v.length = j ∧ dk.toList = P ++ u ++ v ++ Q ∧ P ++ v ++ u ++ Q = A ++ V ++ U ++ C) ∧ Aside (SWK oC k w0 blk off dk wr))
  case atStart =>
    obtain ⟨e1, e2, e3, e4⟩ := HA.out
    exact ⟨U.length, V.length, d, A, U, V, C, by congr 1; omega, by congr 1; omega, by omega, by omega, by omega, by omega, by omega, rfl, ⟨by omega, rfl, rfl, HD.out, rfl⟩, S0⟩
  case round =>
    clear S0
    obtain ⟨i, j, dk, P, u, v, Q, rfl, rfl, hi, hj, him, hjm, hkx, hds, HI, S1⟩ := hrel
    rcases Nat.lt_trichotomy i j with hij | hij | hij
    · have c1 : ((i : Int) == (j : Int)) = false := by simp; omega
      have c2 : ¬ (i : Int) = (j : Int) := by omega
      have c3 : ¬ (j : Int) < (i : Int) := by omega
      have c4 : decide ((j : Int) < (i : Int)) = false := decide_eq_false c3
      obtain ⟨v1, v2, hv12, hv1⟩ : ∃ v1 v2, v = v1 ++ v2 ∧ v1.length = j - i := cut2 (by have := HI.out.2.2.1; omega)
      have hl2 : v2.length = i := by have := HI.out.2.2.1; rw [hv12] at this; simp at this; omega
      have HC := fun (a b n z : Int) (h1 : a = P.length) (h2 : b = P.length + u.length + v1.length) (h3 : n = u.length) (h4 : z = dk.size) => swapRange_int k aE zE fv blk off cap a b n z d0 dk w0 wr R h4 (by omega) S1.out P u v1 v2 Q (by rw [HI.out.2.2.2.1, hv12]; simp) (by rw [HI.out.2.1, hl2]) h1 h2 h3 (by omega)
      obtain ⟨e1, e2, e3, e4, e5⟩ := HI.out
      have HE : Hid (((m : Int) - (i : Int) = P.length) ∧ ((m : Int) + (j : Int) - (i : Int) = P.length + u.length + v1.length) ∧ ((i : Int) = u.length) ∧ ((d.size : Int) = dk.size)) := ⟨by omega, by omega, by omega, by omega⟩
      have HC' : Hid _ := HC _ _ _ _ HE.out.1 HE.out.2.1 HE.out.2.2.1 HE.out.2.2.2
      have HV : Hid (v = v1 ++ v2 ∧ v1.length = j - i ∧ v2.length = i) := ⟨hv12, hv1, hl2⟩
      rw [Int.toNat_natCast] at HC'
      clear HC e1 e2 e3 e4 e5 hv12 hv1 hl2 S1
      go_wp2_with fail
      refine Calls.mono HC'.out ?_
      rintro e w2 ⟨rfl, d2, hd2, S2⟩
      have S3 : Aside _ := S2
      have HD2 : Hid _ := hd2
      clear S2 hd2
      go_wp2
      go_roundg (i + (j - i))
      case measure => omega
      case rel =>
        obtain ⟨e1, e2, e3, e4, e5⟩ := HI.out
        obtain ⟨f1, f2, f3⟩ := HV.out
        refine ⟨i, j - i, d2, P, v2, v1, u ++ Q, rfl, by congr 1; omega, hi, by omega, by omega, by omega, by omega, ?_, ⟨e1, f3, f2, by rw [HD2.out]; simp, by rw [← e5, f1]; simp⟩, S3⟩
        have a1 := size_of HD2.out; have a2 := size_of e4; rw [f1] at a2; simp at a1 a2; omega
    · subst hij
      have c1 : ((i : Int) == (i : Int)) = true := by simp
      have HC := fun (a b n z : Int) (h1 : a = P.length) (h2 : b = P.length + u.length + ([] : List Od).length) (h3 : n = u.length) (h4 : z = dk.size) => swapRange_int k aE zE fv blk off cap a b n z d0 dk w0 wr R h4 (by omega) S1.out P u [] v Q (by rw [HI.out.2.2.2.1]; simp) (by rw [HI.out.2.1, HI.out.2.2.1]) h1 h2 h3 (by omega)
      obtain ⟨e1, e2, e3, e4, e5⟩ := HI.out
      have HE : Hid (((m : Int) - (i : Int) = P.length) ∧ ((m : Int) = P.length + u.length + ([] : List Od).length) ∧ ((i : Int) = u.length) ∧ ((d.size : Int) = dk.size)) := ⟨by omega, by simp; omega, by omega, by omega⟩
      have HC' : Hid _ := HC _ _ _ _ HE.out.1 HE.out.2.1 HE.out.2.2.1 HE.out.2.2.2
      rw [Int.toNat_natCast] at HC'
      clear HC e1 e2 e3 e4 e5 S1
      go_wp2_with fail
      refine Calls.mono HC'.out ?_
      rintro e w2 ⟨rfl, d2, hd2, S2⟩
      have HD2 : Hid _ := hd2
      clear hd2
      go_wp2
      go_end0
      refine ⟨rfl, d2, ?_, S2⟩
      rw [HD2.out, ← HI.out.2.2.2.2]; simp
    · have c1 : ((i : Int) == (j : Int)) = false := by simp; omega
      have c2 : ¬ (i : Int) = (j : Int) := by omega
      have c3 : (j : Int) < (i : Int) := by omega
      have c4 : decide ((j : Int) < (i : Int)) = true := decide_eq_true c3
      obtain ⟨u1, u2, hu12, hu1⟩ : ∃ u1 u2, u = u1 ++ u2 ∧ u1.length = j := cut2 (by have := HI.out.2.1; omega)
      have hl2 : u2.length = i - j := by have := HI.out.2.1; rw [hu12] at this; simp at this; omega
      have HC := fun (a b n z : Int) (h1 : a = P.length) (h2 : b = P.length + u1.length + u2.length) (h3 : n = u1.length) (h4 : z = dk.size) => swapRange_int k aE zE fv blk off cap a b n z d0 dk w0 wr R h4 (by omega) S1.out P u1 u2 v Q (by rw [HI.out.2.2.2.1, hu12]; simp) (by rw [HI.out.2.2.1, hu1]) h1 h2 h3 (by omega)
      obtain ⟨e1, e2, e3, e4, e5⟩ := HI.out
      have HE : Hid (((m : Int) - (i : Int) = P.length) ∧ ((m : Int) = P.length + u1.length + u2.length) ∧ ((j : Int) = u1.length) ∧ ((d.size : Int) = dk.size)) := ⟨by omega, by omega, by omega, by omega⟩
      have HC' : Hid _ := HC _ _ _ _ HE.out.1 HE.out.2.1 HE.out.2.2.1 HE.out.2.2.2
      have HV : Hid (u = u1 ++ u2 ∧ u1.length = j ∧ u2.length = i - j) := ⟨hu12, hu1, hl2⟩
      rw [Int.toNat_natCast] at HC'
      clear HC e1 e2 e3 e4 e5 hu12 hu1 hl2 S1
      go_wp2_with fail
      refine Calls.mono HC'.out ?_
      rintro e w2 ⟨rfl, d2, hd2, S2⟩
      have S3 : Aside _ := S2
      have HD2 : Hid _ := hd2
      clear S2 hd2
      go_wp2
      go_roundg ((i - j) + j)
      case measure => omega
      case rel =>
        obtain ⟨e1, e2, e3, e4, e5⟩ := HI.out
        obtain ⟨f1, f2, f3⟩ := HV.out
        refine ⟨i - j, j, d2, P ++ v, u2, u1, Q, by congr 1; omega, rfl, by omega, hj, by omega, by omega, by omega, ?_, ⟨by simp; omega, f3, f2, by rw [HD2.out], by rw [← e5, f1]; simp⟩, S3⟩
        have a1 := size_of HD2.out; have a2 := size_of e4; rw [f1] at a2; simp at a1 a2; omega
end Go.Proofs.YtladgfngddgnlaaGreatDoor.Cal

namespace Go.Proofs.YtladgfngddgnlaaGreatDoor.Cal
open Go.Shelf Go.RowKit Go.Lib Go.Sort
set_option linter.unusedSimpArgs false
set_option linter.unusedVariables false

theorem insS_eq {α : Type} {lt : α → α → Bool} {x : α} : ∀ (s1 s2 : List α), (∀ y ∈ s1, lt x y = false) → (∀ y ∈ s2, lt x y = true) → insS lt x (s1 ++ s2) = s1 ++ x :: s2
  | [], [], _, _ => rfl
  | [], y :: t, _, h => by
    show insS lt x (y :: t) = x :: y :: t
    rw [insS, if_pos (h y (List.mem_cons_self ..))]
  | y :: s1, s2, h1, h2 => by
    show insS lt x (y :: (s1 ++ s2)) = y :: (s1 ++ x :: s2)
    rw [insS, if_neg (by rw [h1 y (List.mem_cons_self ..)]; simp), insS_eq s1 s2 (fun z hz => h1 z (List.mem_cons_of_mem _ hz)) h2]
theorem srt_last {α : Type} {lt : α → α → Bool} (hO : SWO lt) {x y : α} {s : List α} (h : Srt lt (s ++ [y])) (hy : lt x y = false) : ∀ z ∈ s ++ [y], lt x z = false := by
  intro z hz
  rcases List.mem_append.1 hz with e | e
  · exact hO.ntrans x y z hy (h.cross z e y (List.mem_singleton.2 rfl))
  · rw [List.mem_singleton.1 e]; exact hy

set_option maxHeartbeats 8000000 in
set_option maxRecDepth 1000000 in
theorem ins_calls (k : Nat) (aE : ∀ w, (isAgg 92).run Tryz.prog w = .ok true w) (zE : ∀ w, (Go.sizeOf 92).run Tryz.prog w = .ok k w) (cf : Od → Od → Int) (hO : SWO (ltOf cf)) (g : Nat) (cb : Array Value) (blk off cap : Nat) (a b : Nat) (d0 d : Array Od) (w0 w : World) (eg : ∀ args w, (callFunc g args).run Tryz.prog w = .ok (.enter g args) w) (hcmp : CmpLays Tryz.prog g cb oC k cf blk off d0.size w0) (R : RowK oC k w0 blk off d0) (hs : d0.size = d.size) (S : SWK oC k w0 blk off d w) (A X C : List Od)
    (hd : d.toList = A ++ X ++ C) (ha : a = A.length) (hb : b = A.length + X.length) (hsz : d.size < 1000000) :
    Calls Tryz.prog 182 #[.slice (some ⟨blk, off, none⟩) d.size cap, .int .i64 a, .int .i64 b, .func (.func g) #[] cb] w fun e w' => e = .returned (.tuple #[]) ∧ ∃ d' : Array Od, d'.toList = A ++ stab (ltOf cf) X ++ C ∧ SWK oC k w0 blk off d' w' := by
  have mixed : Tryz.prog.follows .mixedOrders = true := by kernel_rfl
  have hsd := size_of hd
  simp only [List.length_append] at hsd
  have S0 : Aside (SWK oC k w0 blk off d w) := S
  have HC : Aside _ := hcmp
  have HD : Hid _ := hd
  have HA : Hid (a = A.length ∧ b = A.length + X.length ∧ d.size = A.length + X.length + C.length) := ⟨ha, hb, hsd⟩
  have hab : a ≤ b := by omega
  have hbd : b ≤ d.size := by omega
  have HH : Hid _ := hO
  clear S hcmp hd ha hb hsd hO
  go_enter Tryz.func182, Tryz.ntmps182
  go_wp2
  go_loopg [8] (b - a) (fun g1 vi wr => ∃ (i : Nat) (dk : Array Od), vi = .int .i64 i ∧ a < i ∧ i ≤ b + 1 ∧ b + 1 - i ≤ g1 + 1 ∧ dk.size = d.size ∧ Hid (∃ X1 X2, X = X1 ++ X2 ∧ (i ≤ b → X1.length + a = i) ∧ (b < i → X2 = []) ∧ dk.toList = A ++ stab (ltOf cf) X1 ++ X2 ++ C) ∧ Aside (SWK oC k w0 blk off dk wr))
  case atStart =>
    refine ⟨a + 1, d, by go_num, by omega, by omega, by omega, rfl, ?_, S0⟩
    obtain ⟨e1, e2, e3⟩ := HA.out
    cases X with
    | nil => exact ⟨[], [], rfl, fun h => by simp at e2; omega, fun _ => rfl, by simpa [stab] using HD.out⟩
    | cons x t => exact ⟨[x], t, rfl, fun h => by simp; omega, fun h => by simp at e2; exact List.eq_nil_of_length_eq_zero (by omega), by simpa [stab, insS] using HD.out⟩
  case round =>
    clear S0
    obtain ⟨i, dk, rfl, hai, hib, hg1, hsk, HO, S1⟩ := hrel
    by_cases hlt : i < b
    · have hltz : (i : Int) < (b : Int) := by omega
      obtain ⟨X1, X2, hX, hX1, -, hdk⟩ := HO.out
      obtain ⟨x, X3, rfl⟩ : ∃ x X3, X2 = x :: X3 := by
        cases X2 with
        | nil => exfalso; have h1 := HA.out.2.1; have h2 := hX1 (by omega); rw [hX] at h1; simp at h1; have := HA.out.1; omega
        | cons x t => exact ⟨x, t, rfl⟩
      have HX : Hid (X = X1 ++ x :: X3 ∧ X1.length + a = i ∧ dk.toList = A ++ stab (ltOf cf) X1 ++ x :: X3 ++ C) := ⟨hX, hX1 (by omega), hdk⟩
      have HT : Hid ((stab (ltOf cf) X1).length = X1.length) := by
        have e1 := size_of hdk; have e2 := size_of HD.out; rw [hX] at e2; simp at e1 e2; show _ = _; omega
      clear hX hX1 hdk HO
      go_wp2
      go_loopg [9] i (fun g2 vj wr2 => ∃ (j : Nat) (dj : Array Od), vj = .int .i64 j ∧ a ≤ j ∧ j ≤ i ∧ j ≤ g2 ∧ dj.size = d.size ∧ Hid (∃ S1 S2, S1.length + a = j ∧ stab (ltOf cf) X1 = S1 ++ S2 ∧ (∀ y ∈ S2, ltOf cf x y = true) ∧ dj.toList = (A ++ S1) ++ x :: (S2 ++ X3 ++ C)) ∧ Aside (SWK oC k w0 blk off dj wr2))
      case atStart =>
        refine ⟨i, dk, rfl, by omega, Nat.le_refl _, Nat.le_refl _, hsk, ⟨stab (ltOf cf) X1, [], by rw [HT.out]; exact HX.out.2.1, by simp, by simp, by rw [HX.out.2.2]; simp⟩, S1⟩
      case round =>
        clear S1
        obtain ⟨j, dj, rfl, haj, hji, hg2, hsj, HI, S1⟩ := hrel
        by_cases hja : a < j
        · obtain ⟨s1, s2, h1, h2, h3, h4⟩ := HI.out
          obtain ⟨jp, rfl⟩ : ∃ jp, j = jp + 1 := ⟨j - 1, by omega⟩
          obtain ⟨s0, y, rfl⟩ : ∃ s0 y, s1 = s0 ++ [y] := by
            rcases List.eq_nil_or_concat s1 with e | ⟨s0, y, e⟩
            · exfalso; rw [e] at h1; simp at h1; omega
            · exact ⟨s0, y, by simpa using e⟩
          have HK : Hid (s0.length + a = jp ∧ stab (ltOf cf) X1 = s0 ++ [y] ++ s2 ∧ (∀ y ∈ s2, ltOf cf x y = true) ∧ dj.toList = (A ++ s0) ++ y :: ([] ++ x :: (s2 ++ X3 ++ C))) := ⟨by simp at h1; omega, h2, h3, by rw [h4]; simp⟩
          have hxj : dj[jp + 1]! = x := get_mid h4 (by simp; have := HA.out.1; simp at h1; omega)
          have hxp : dj[jp]! = y := get_mid HK.out.2.2.2 (by simp; have := HA.out.1; have := HK.out.1; omega)
          have HXJ : Hid _ := hxj
          have HXP : Hid _ := hxp
          clear h1 h2 h3 h4 HI hxj hxp
          have hwp : IntKind.i64.wrap (jp : Int) = (jp : Int) := by rw [IntKind.wrap_i64]; omega
          have hjaz' : (a : Int) < (jp : Int) + 1 := by omega
          have hjad : decide ((a : Int) < (jp : Int) + 1) = true := decide_eq_true hjaz'
          by_cases hlv : cf x y < 0
          · have ea40 : ((jp : Int) + 1).toNat = jp + 1 := by omega
            have pa40 : (0 : Int) ≤ (jp : Int) + 1 := by omega
            have ba40 : (jp : Int) + 1 < (d.size : Int) := by omega
            have ra40 : IntKind.i64.wrap ((jp : Int) + 1) = (jp : Int) + 1 := by rw [IntKind.wrap_i64]; omega
            have ec40 : ((jp : Int)).toNat = jp := by omega
            have pc40 : (0 : Int) ≤ (jp : Int) := by omega
            have bc40 : (jp : Int) < (d.size : Int) := by omega
            have rc40 : IntKind.i64.wrap ((jp : Int)) = (jp : Int) := by rw [IntKind.wrap_i64]; omega
            have l40a := S1.out.ld R (by omega) Tryz.prog (jp + 1) (by omega)
            have l40b := S1.out.ld R (by omega) Tryz.prog (jp) (by omega)
            rw [HXJ.out] at l40a
            rw [HXP.out] at l40b
            have hc40 := S1.out.cmp HC.out (by omega) x y
            have hd40 : decide (cf x y < 0) = true := by exact decide_eq_true hlv
            go_wp2_with fail
            go_quiet_grown (first | (go_at_fn g; refine Calls.grown_of (hc40 _ _)))
            have S2 : Aside (SWK oC k w0 blk off dj (grow (wr.drewN nq) osq)) := S1.out.grown nq osq
            clear l40a l40b hc40 S1
            generalize grow (wr.drewN nq) osq = w2 at S2 ⊢
            clear nq osq
            have S3 : Aside (SWK oC k w0 blk off (swp dj (jp + 1) (jp)) ((w2.drew.setCells blk (off + (jp + 1) * k) (oC dj[jp]!)).setCells blk (off + (jp) * k) (oC dj[jp + 1]!))) := S2.out.swapped R (jp + 1) (jp) (by omega) (by omega)
            have l41a := S2.out.ld1 R (by omega) Tryz.prog (jp + 1) (by omega)
            have l41b := S2.out.ld1 R (by omega) Tryz.prog (jp) (by omega)
            have s41a := S2.out.st1 R (by omega) Tryz.prog (jp + 1) (by omega) dj[jp]!
            have s41b := S2.out.st2 R (by omega) Tryz.prog (jp + 1) (jp) (by omega) (by omega) dj[jp]! dj[jp + 1]!
            have n41a : (oC dj[jp + 1]!).length = k := R.hk _
            have n41b : (oC dj[jp]!).length = k := R.hk _
            generalize oC dj[jp + 1]! = cI41 at S3 l41a s41b n41a
            generalize oC dj[jp]! = cJ41 at S3 l41b s41a s41b n41b
            clear S2
            go_wp2_with fail
            go_big_region_o
            clear l41a l41b s41a s41b
            generalize (w2.drew.setCells blk (off + (jp + 1) * k) cJ41).setCells blk (off + (jp) * k) cI41 = w3 at S3 ⊢
            go_wp2
            go_roundg jp
            case measure => omega
            case rel =>
              refine ⟨jp, swp dj (jp + 1) jp, by first | rfl | go_num | (congr 1; omega), by omega, by omega, Nat.le_refl _, by rw [size_swp]; exact hsj, ?_, S3⟩
              obtain ⟨h1, h2, h3, h4⟩ := HK.out
              have e1 : jp = (A ++ s0).length := by simp; have := HA.out.1; omega
              refine ⟨s0, y :: s2, h1, by rw [h2]; simp, ?_, by rw [swp_comm' h4 e1 (by simp at e1 ⊢; omega)]; simp⟩
              intro z hz
              rcases List.mem_cons.1 hz with e | e
              · rw [e]; exact decide_eq_true hlv
              · exact h3 z e
          · have ea42 : ((jp : Int) + 1).toNat = jp + 1 := by omega
            have pa42 : (0 : Int) ≤ (jp : Int) + 1 := by omega
            have ba42 : (jp : Int) + 1 < (d.size : Int) := by omega
            have ra42 : IntKind.i64.wrap ((jp : Int) + 1) = (jp : Int) + 1 := by rw [IntKind.wrap_i64]; omega
            have ec42 : ((jp : Int)).toNat = jp := by omega
            have pc42 : (0 : Int) ≤ (jp : Int) := by omega
            have bc42 : (jp : Int) < (d.size : Int) := by omega
            have rc42 : IntKind.i64.wrap ((jp : Int)) = (jp : Int) := by rw [IntKind.wrap_i64]; omega
            have l42a := S1.out.ld R (by omega) Tryz.prog (jp + 1) (by omega)
            have l42b := S1.out.ld R (by omega) Tryz.prog (jp) (by omega)
            rw [HXJ.out] at l42a
            rw [HXP.out] at l42b
            have hc42 := S1.out.cmp HC.out (by omega) x y
            have hd42 : decide (cf x y < 0) = false := by simp only [decide_eq_false_iff_not]; omega
            go_wp2_with fail
            go_quiet_grown (first | (go_at_fn g; refine Calls.grown_of (hc42 _ _)))
            have S2 : Aside (SWK oC k w0 blk off dj (grow (wr.drewN nq) osq)) := S1.out.grown nq osq
            clear l42a l42b hc42 S1
            generalize grow (wr.drewN nq) osq = w2 at S2 ⊢
            clear nq osq
            go_wp2
            go_roundg (b - (i + 1))
            case measure => omega
            case rel =>
              refine ⟨i + 1, dj, by go_num, by omega, by omega, by omega, hsj, ?_, S2⟩
              obtain ⟨h1, h2, h3, h4⟩ := HK.out
              obtain ⟨f1, f2, f3⟩ := HX.out
              refine ⟨X1 ++ [x], X3, by rw [f1]; simp, fun _ => by simp; omega, fun h => by omega, ?_⟩
              rw [stab_snoc, h2, insS_eq (s0 ++ [y]) s2 (srt_last HH.out (by have := stab_srt HH.out X1; rw [h2] at this; exact this.left) (decide_eq_false (by omega))) h3, h4]
              simp
        · have hjaz : decide ((j : Int) > (a : Int)) = false := decide_eq_false (by omega)
          have hjaz' : ¬ (a : Int) < (j : Int) := by omega
          have S2 : Aside (SWK oC k w0 blk off dj wr.drew) := S1.out.drew
          clear S1
          go_wp2_with fail
          go_big_region_o
          all_goals go_wp2
          go_roundg (b - (i + 1))
          case measure => omega
          case rel =>
            refine ⟨i + 1, dj, by go_num, by omega, by omega, by omega, hsj, ?_, S2⟩
            obtain ⟨s1, s2, h1, h2, h3, h4⟩ := HI.out
            obtain ⟨f1, f2, f3⟩ := HX.out
            have hz : s1 = [] := List.eq_nil_of_length_eq_zero (by omega)
            subst hz
            refine ⟨X1 ++ [x], X3, by rw [f1]; simp, fun _ => by simp; omega, fun h => by omega, ?_⟩
            rw [stab_snoc, h2, insS_eq [] s2 (by simp) h3, h4]
            simp
    · have hltz : ¬ (i : Int) < (b : Int) := by omega
      go_wp2
      go_end0
      refine ⟨rfl, dk, ?_, S1.out⟩
      obtain ⟨X1, X2, hX, hX1, hX2, hdk⟩ := HO.out
      have hz : X2 = [] := by
        rcases Nat.lt_or_ge b i with h | h
        · exact hX2 h
        · have e := hX1 h; have e1 := HA.out.1; have e2 := HA.out.2.1; rw [hX] at e2; simp at e2
          exact List.eq_nil_of_length_eq_zero (by omega)
      subst hz
      rw [hdk, hX]; simp
end Go.Proofs.YtladgfngddgnlaaGreatDoor.Cal
