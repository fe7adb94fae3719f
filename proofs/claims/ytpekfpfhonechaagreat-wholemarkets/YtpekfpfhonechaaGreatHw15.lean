/- Sorted lists that keep the order of what is alike: what a stable sort and a merge leave. No program is named here. -/
import Derived.Sort.Defs
import Derived.Sort.Statements
import Derived.Test.YtpekfpfhonechaaGreatHw01
namespace Go.Proofs.YtpekfpfhonechaaGreat.Cal
open Go.Sort
set_option linter.unusedSimpArgs false
set_option linter.unusedVariables false
section
variable {α : Type} (lt : α → α → Bool)
/-- Sorted: none stands ahead of a lesser one. -/
def Srt (l : List α) : Prop := l.Pairwise fun x y => lt y x = false
def eqv (x y : α) : Bool := !lt x y && !lt y x
/-- What is alike stands in the same order. -/
def Stb (l l' : List α) : Prop := ∀ x, l'.filter (eqv lt x) = l.filter (eqv lt x)
variable {lt}
theorem Stb.refl (l : List α) : Stb lt l l := fun _ => rfl
theorem Stb.trans {a b c : List α} (h : Stb lt a b) (k : Stb lt b c) : Stb lt a c := fun x => (k x).trans (h x)
theorem Stb.append {a a' b b' : List α} (h : Stb lt a a') (k : Stb lt b b') : Stb lt (a ++ b) (a' ++ b') := fun x => by rw [List.filter_append, List.filter_append, h x, k x]
theorem Stb.mid {a b b' c : List α} (k : Stb lt b b') : Stb lt (a ++ b ++ c) (a ++ b' ++ c) := ((Stb.refl a).append k).append (Stb.refl c)
theorem eqv_self (hO : SWO lt) (x : α) : eqv lt x x = true := by simp [eqv, hO.irrefl x]
theorem eqv_not {x y z : α} (hO : SWO lt) (h : eqv lt z x = true) (k : eqv lt z y = true) : lt x y = false := by
  simp only [eqv, Bool.and_eq_true, Bool.not_eq_true'] at h k
  exact hO.ntrans x z y h.2 k.1
theorem Stb.swap (hO : SWO lt) {u v : List α} (h : ∀ x ∈ v, ∀ y ∈ u, lt x y = true) : Stb lt (u ++ v) (v ++ u) := by
  intro z
  rw [List.filter_append, List.filter_append]
  by_cases hu : u.filter (eqv lt z) = []
  · rw [hu]; simp
  · by_cases hv : v.filter (eqv lt z) = []
    · rw [hv]; simp
    · exfalso
      obtain ⟨y, hy⟩ := List.exists_mem_of_ne_nil _ hu
      obtain ⟨x, hx⟩ := List.exists_mem_of_ne_nil _ hv
      rw [List.mem_filter] at hx hy
      have h1 := h x hx.1 y hy.1
      rw [eqv_not hO hx.2 hy.2] at h1
      cases h1
theorem Stb.mem (hO : SWO lt) {a b : List α} (h : Stb lt a b) {x : α} : x ∈ b ↔ x ∈ a := by
  constructor
  · intro hx
    have : x ∈ b.filter (eqv lt x) := List.mem_filter.2 ⟨hx, eqv_self hO x⟩
    rw [h x] at this
    exact (List.mem_filter.1 this).1
  · intro hx
    have : x ∈ a.filter (eqv lt x) := List.mem_filter.2 ⟨hx, eqv_self hO x⟩
    rw [← h x] at this
    exact (List.mem_filter.1 this).1
/-- There is one such order alone. -/
theorem Srt.one (hO : SWO lt) : ∀ (r r' : List α), Srt lt r → Srt lt r' → Stb lt r r' → r = r'
  | [], [], _, _, _ => rfl
  | [], y :: t, _, _, h => by
    have := (h.mem hO (x := y)).1 (List.mem_cons_self ..)
    cases this
  | x :: t, [], _, _, h => by
    have := (h.mem hO (x := x)).2 (List.mem_cons_self ..)
    cases this
  | x :: t, y :: t', hr, hr', h => by
    unfold Srt at hr hr'
    rw [List.pairwise_cons] at hr hr'
    have hx : lt x y = false := by
      rcases List.mem_cons.1 ((h.mem hO (x := x)).2 (List.mem_cons_self ..)) with e | e
      · rw [e]; exact hO.irrefl y
      · exact hr'.1 x e
    have hy : lt y x = false := by
      rcases List.mem_cons.1 ((h.mem hO (x := y)).1 (List.mem_cons_self ..)) with e | e
      · rw [e]; exact hO.irrefl x
      · exact hr.1 y e
    have e1 : eqv lt x y = true := by simp [eqv, hx, hy]
    have e2 := h x
    rw [List.filter_cons, if_pos e1, List.filter_cons, if_pos (eqv_self hO x)] at e2
    injection e2 with e3 _
    subst e3
    congr 1
    refine Srt.one hO t t' hr.2 hr'.2 fun z => ?_
    have := h z
    rw [List.filter_cons, List.filter_cons] at this
    by_cases hz : eqv lt z y = true
    · rw [if_pos hz, if_pos hz] at this; injection this
    · rw [if_neg hz, if_neg hz] at this; exact this
theorem Srt.left {a b : List α} (h : Srt lt (a ++ b)) : Srt lt a := (List.pairwise_append.1 h).1
theorem Srt.right {a b : List α} (h : Srt lt (a ++ b)) : Srt lt b := (List.pairwise_append.1 h).2.1
theorem Srt.cross {a b : List α} (h : Srt lt (a ++ b)) : ∀ x ∈ a, ∀ y ∈ b, lt y x = false := (List.pairwise_append.1 h).2.2
theorem Srt.join {a b : List α} (h : Srt lt a) (k : Srt lt b) (c : ∀ x ∈ a, ∀ y ∈ b, lt y x = false) : Srt lt (a ++ b) := List.pairwise_append.2 ⟨h, k, c⟩
theorem Srt.nil : Srt lt ([] : List α) := List.Pairwise.nil
/-- The same by inserting one after another. -/
def insS (lt : α → α → Bool) (x : α) : List α → List α
  | [] => [x]
  | y :: t => if lt x y = true then x :: y :: t else y :: insS lt x t
def stab (lt : α → α → Bool) (l : List α) : List α := l.foldl (fun acc x => insS lt x acc) []
theorem insS_split (hO : SWO lt) (x : α) : ∀ s : List α, Srt lt s → ∃ s1 s2, s = s1 ++ s2 ∧ insS lt x s = s1 ++ x :: s2 ∧ (∀ y ∈ s1, lt x y = false) ∧ (∀ y ∈ s2, lt x y = true)
  | [], _ => ⟨[], [], rfl, rfl, by simp, by simp⟩
  | y :: t, h => by
    unfold Srt at h
    rw [List.pairwise_cons] at h
    by_cases hy : lt x y = true
    · refine ⟨[], y :: t, rfl, by rw [insS, if_pos hy]; rfl, by simp, ?_⟩
      intro z hz
      rcases List.mem_cons.1 hz with e | e
      · rw [e]; exact hy
      · have hz := h.1 z e
        cases hxz : lt x z
        · have := hO.ntrans x z y hxz hz
          rw [hy] at this; cases this
        · rfl
    · obtain ⟨s1, s2, e1, e2, k1, k2⟩ := insS_split hO x t h.2
      refine ⟨y :: s1, s2, by rw [e1]; rfl, by rw [insS, if_neg hy, e2]; rfl, ?_, k2⟩
      intro z hz
      rcases List.mem_cons.1 hz with e | e
      · rw [e]; simpa using hy
      · exact k1 z e
theorem lt_not (hO : SWO lt) {x y : α} (h : lt x y = true) : lt y x = false := by
  cases hy : lt y x
  · rfl
  · have := hO.trans x y x h hy
    rw [hO.irrefl x] at this; cases this
theorem insS_srt (hO : SWO lt) (x : α) {s : List α} (h : Srt lt s) : Srt lt (insS lt x s) := by
  obtain ⟨s1, s2, e1, e2, k1, k2⟩ := insS_split hO x s h
  rw [e2]
  subst e1
  refine Srt.join h.left ?_ ?_
  · unfold Srt; rw [List.pairwise_cons]
    exact ⟨fun y hy => lt_not hO (k2 y hy), h.right⟩
  · intro a ha b hb
    rcases List.mem_cons.1 hb with e | e
    · rw [e]; exact k1 a ha
    · exact h.cross a ha b e
theorem insS_stb (hO : SWO lt) (x : α) {s : List α} (h : Srt lt s) : Stb lt (s ++ [x]) (insS lt x s) := by
  obtain ⟨s1, s2, e1, e2, k1, k2⟩ := insS_split hO x s h
  rw [e2]
  subst e1
  rw [List.append_assoc, show s1 ++ x :: s2 = s1 ++ ([x] ++ s2) from rfl]
  refine (Stb.refl s1).append (Stb.swap hO ?_)
  intro a ha b hb
  rw [List.mem_singleton] at ha
  rw [ha]; exact k2 b hb
theorem stab_fold (hO : SWO lt) : ∀ (l s p : List α), Srt lt s → Stb lt p s → Srt lt (l.foldl (fun acc x => insS lt x acc) s) ∧ Stb lt (p ++ l) (l.foldl (fun acc x => insS lt x acc) s)
  | [], s, p, h, k => by simpa using ⟨h, k⟩
  | x :: l, s, p, h, k => by
    have := stab_fold hO l (insS lt x s) (p ++ [x]) (insS_srt hO x h) ((k.append (Stb.refl [x])).trans (insS_stb hO x h))
    simpa using this
theorem stab_srt (hO : SWO lt) (l : List α) : Srt lt (stab lt l) := (stab_fold hO l [] [] Srt.nil (Stb.refl _)).1
theorem stab_stb (hO : SWO lt) (l : List α) : Stb lt l (stab lt l) := by simpa [stab] using (stab_fold hO l [] [] Srt.nil (Stb.refl _)).2
theorem stab_of (hO : SWO lt) {l r : List α} (h : Srt lt r) (k : Stb lt l r) : r = stab lt l :=
  Srt.one hO r _ h (stab_srt hO l) fun z => ((stab_stb hO l) z).trans (k z).symm
theorem stab_snoc (l : List α) (x : α) : stab lt (l ++ [x]) = insS lt x (stab lt l) := by simp [stab]

/-- Merging two sorted lists. -/
theorem merge_halves (hO : SWO lt) {u1 u2 v1 v2 r1 r2 : List α} (hu : Srt lt (u1 ++ u2)) (hv : Srt lt (v1 ++ v2)) (h12 : ∀ x ∈ v1, ∀ y ∈ u2, lt x y = true) (h21 : ∀ x ∈ u1, ∀ y ∈ v2, lt y x = false)
    (s1 : Srt lt r1) (s2 : Srt lt r2) (k1 : Stb lt (u1 ++ v1) r1) (k2 : Stb lt (u2 ++ v2) r2) : Srt lt (r1 ++ r2) ∧ Stb lt (u1 ++ u2 ++ (v1 ++ v2)) (r1 ++ r2) := by
  constructor
  · refine s1.join s2 ?_
    intro x hx y hy
    have hx := (k1.mem hO).1 hx
    have hy := (k2.mem hO).1 hy
    rcases List.mem_append.1 hx with a | a <;> rcases List.mem_append.1 hy with b | b
    · exact hu.cross x a y b
    · exact h21 x a y b
    · exact lt_not hO (h12 x a y b)
    · exact hv.cross x a y b
  · have e : Stb lt (u1 ++ u2 ++ (v1 ++ v2)) (u1 ++ v1 ++ (u2 ++ v2)) := by
      have := ((Stb.refl u1).append (Stb.swap hO h12)).append (Stb.refl v2)
      simpa [List.append_assoc] using this
    exact e.trans (k1.append k2)
/-- One element goes into a sorted list behind it. -/
theorem merge_first (hO : SWO lt) {x : α} {v1 v2 : List α} (hv : Srt lt (v1 ++ v2)) (h1 : ∀ y ∈ v1, lt y x = true) (h2 : ∀ y ∈ v2, lt y x = false) : Srt lt (v1 ++ x :: v2) ∧ Stb lt (x :: (v1 ++ v2)) (v1 ++ x :: v2) := by
  constructor
  · refine hv.left.join (by unfold Srt; rw [List.pairwise_cons]; exact ⟨h2, hv.right⟩) ?_
    intro a ha b hb
    rcases List.mem_cons.1 hb with e | e
    · rw [e]; exact lt_not hO (h1 a ha)
    · exact hv.cross a ha b e
  · have := (Stb.swap hO (u := [x]) (v := v1) (by intro a ha b hb; rw [List.mem_singleton] at hb; rw [hb]; exact h1 a ha)).append (Stb.refl v2)
    simpa using this
/-- One element goes into a sorted list ahead of it. -/
theorem merge_last (hO : SWO lt) {x : α} {u1 u2 : List α} (hu : Srt lt (u1 ++ u2)) (h1 : ∀ y ∈ u1, lt x y = false) (h2 : ∀ y ∈ u2, lt x y = true) : Srt lt (u1 ++ x :: u2) ∧ Stb lt (u1 ++ u2 ++ [x]) (u1 ++ x :: u2) := by
  constructor
  · refine hu.left.join (by unfold Srt; rw [List.pairwise_cons]; exact ⟨fun y hy => lt_not hO (h2 y hy), hu.right⟩) ?_
    intro a ha b hb
    rcases List.mem_cons.1 hb with e | e
    · rw [e]; exact h1 a ha
    · exact hu.cross a ha b e
  · have := (Stb.refl u1).append (Stb.swap hO (u := u2) (v := [x]) (by intro a ha b hb; rw [List.mem_singleton] at ha; rw [ha]; exact h2 b hb))
    simpa [List.append_assoc] using this
end

section
variable {α : Type}
theorem size_of {d : Array α} {l : List α} (h : d.toList = l) : d.size = l.length := by rw [← h]; simp
/-- A list cut at a place. -/
theorem cut_at {l : List α} {k : Nat} (h : k < l.length) : ∃ A x C, l = A ++ x :: C ∧ A.length = k := by
  refine ⟨l.take k, l[k], l.drop (k + 1), ?_, by simp; omega⟩
  rw [List.getElem_cons_drop, List.take_append_drop]
theorem cut2 {l : List α} {k : Nat} (h : k ≤ l.length) : ∃ A C, l = A ++ C ∧ A.length = k := ⟨l.take k, l.drop k, (List.take_append_drop k l).symm, by simp; omega⟩
end
section
variable {α : Type} [Inhabited α]
theorem get_mid {d : Array α} {A C : List α} {x : α} {k : Nat} (h : d.toList = A ++ x :: C) (hk : k = A.length) : d[k]! = x := by
  subst hk
  have hs : A.length < d.size := by rw [← Array.length_toList, h]; simp
  rw [getElem!_pos d _ hs]
  have e : d.toList[A.length]? = some x := by rw [h]; simp
  have e2 : d.toList[A.length]? = some d[A.length] := by simp [hs]
  rw [e2] at e; injection e
theorem swp_mid {d : Array α} {A B C : List α} {x y : α} {i j : Nat} (h : d.toList = A ++ x :: (B ++ y :: C)) (hi : i = A.length) (hj : j = A.length + 1 + B.length) : (swp d i j).toList = A ++ y :: (B ++ x :: C) := by
  have hx : d[i]! = x := get_mid h hi
  have hy : d[j]! = y := get_mid (A := A ++ x :: B) (C := C) (by rw [h]; simp) (by rw [hj]; simp; omega)
  unfold swp
  rw [hx, hy, Array.toList_setIfInBounds, Array.toList_setIfInBounds, h, hi, hj]
  rw [List.set_append_right _ _ (Nat.le_refl _), Nat.sub_self, List.set_cons_zero]
  rw [List.set_append_right _ _ (by omega), show A.length + 1 + B.length - A.length = B.length + 1 by omega, List.set_cons_succ, List.set_append_right _ _ (Nat.le_refl _), Nat.sub_self, List.set_cons_zero]
theorem swp_comm' {d : Array α} {A B C : List α} {x y : α} {i j : Nat} (h : d.toList = A ++ x :: (B ++ y :: C)) (hi : i = A.length) (hj : j = A.length + 1 + B.length) : (swp d j i).toList = A ++ y :: (B ++ x :: C) := by
  have hx : d[i]! = x := get_mid h hi
  have hy : d[j]! = y := get_mid (A := A ++ x :: B) (C := C) (by rw [h]; simp) (by rw [hj]; simp; omega)
  unfold swp
  rw [hx, hy, Array.toList_setIfInBounds, Array.toList_setIfInBounds, h, hi, hj]
  rw [List.set_append_right _ _ (by omega), show A.length + 1 + B.length - A.length = B.length + 1 by omega, List.set_cons_succ, List.set_append_right _ _ (Nat.le_refl _), Nat.sub_self, List.set_cons_zero]
  rw [List.set_append_right _ _ (Nat.le_refl _), Nat.sub_self, List.set_cons_zero]
end
end Go.Proofs.YtpekfpfhonechaaGreat.Cal

namespace Go.Proofs.YtpekfpfhonechaaGreat.Cal
open Go.RowKit Go.Sort
set_option linter.unusedSimpArgs false
set_option linter.unusedVariables false

/-- An order: Id, owner, price, amount, place, whether it buys. -/
abbrev Od : Type := Int × Int × Int × Int × Int × Bool
def Od.id (o : Od) : Int := o.1
def Od.own (o : Od) : Int := o.2.1
def Od.pr (o : Od) : Int := o.2.2.1
def Od.am (o : Od) : Int := o.2.2.2.1
def Od.pl (o : Od) : Int := o.2.2.2.2.1
def Od.by (o : Od) : Bool := o.2.2.2.2.2
def Od.setAm (o : Od) (n : Int) : Od := (o.1, o.2.1, o.2.2.1, n, o.2.2.2.2.1, o.2.2.2.2.2)
def oC (o : Od) : List Value := [.int .i64 o.id, .int .i64 o.own, .int .i64 o.pr, .int .i64 o.am, .int .i64 o.pl, .bool o.by]
theorem oC_len (o : Od) : (oC o).length = 6 := rfl
theorem oC_one (o : Od) : ∀ v ∈ oC o, v.oneCell' = true := by intro v hv; simp only [oC, List.mem_cons, List.not_mem_nil, or_false] at hv; rcases hv with h | h | h | h | h | h <;> (rw [h]; rfl)
def odL (l : List Od) : List Value := l.flatMap oC
theorem odL_len (l : List Od) : (odL l).length = l.length * 6 := by
  unfold odL
  induction l with
  | nil => rfl
  | cons k l ih => rw [List.flatMap_cons, List.length_append, ih, List.length_cons, oC_len]; omega
theorem odL_app (a b : List Od) : odL (a ++ b) = odL a ++ odL b := by simp [odL]
theorem odL_cons (a : Od) (b : List Od) : odL (a :: b) = oC a ++ odL b := by simp [odL]
theorem odL_one (l : List Od) : ∀ v ∈ odL l, v.oneCell' = true := by
  intro v hv
  unfold odL at hv
  rw [List.mem_flatMap] at hv
  obtain ⟨o, _, h⟩ := hv
  exact oC_one o v h
theorem odL_get : ∀ (l : List Od) (i j : Nat) (o : Od) (v : Value), l[i]? = some o → (oC o)[j]? = some v → (odL l)[i * 6 + j]? = some v
  | k :: l, 0, j, o, v, h0, h => by
    have h0 : k = o := by simpa using h0
    subst h0
    have hj : j < (oC k).length := (List.getElem?_eq_some_iff.1 h).1
    rw [odL_cons, Nat.zero_mul, Nat.zero_add, List.getElem?_append_left hj]
    exact h
  | k :: l, i + 1, j, o, v, h0, h => by
    have e2 : (i + 1) * 6 + j - 6 = i * 6 + j := by omega
    rw [odL_cons, List.getElem?_append_right (by rw [oC_len]; omega), oC_len, e2]
    exact odL_get l i j o v (by simpa using h0) h
/-- May an order be? -/
def mayB (o : Od) : Bool := decide (0 ≤ o.id ∧ o.id ≤ 9007199254740992) && decide (0 ≤ o.own ∧ o.own ≤ 15) && decide (0 ≤ o.pr ∧ o.pr ≤ 1099511627776) && decide (1 ≤ o.am ∧ o.am ≤ 1048576)
def bAt (p : Int) (o : Od) : Bool := o.by && decide (p ≤ o.pr)
def sAt (p : Int) (o : Od) : Bool := !o.by && decide (o.pr ≤ p)
def jdg (l : List Od) : List Od := if 64 < l.length then [] else l.filter mayB
def amt : List Od → Int
  | [] => 0
  | o :: l => o.am + amt l
theorem amt_app : ∀ a b : List Od, amt (a ++ b) = amt a + amt b
  | [], b => by simp [amt]
  | o :: a, b => by simp [amt, amt_app a b]; omega
def trd (l : List Od) (p : Int) : Int := min (amt (l.filter (bAt p))) (amt (l.filter (sAt p)))
def crS (l : List Od) (s : Int × Int) (o : Od) : Int × Int := if s.2 < trd l o.pr ∨ (trd l o.pr = s.2 ∧ o.pr < s.1) then (o.pr, trd l o.pr) else s
def crs (l : List Od) : Int × Int := (jdg l).foldl (crS (jdg l)) (0, 0)
def cmI (x y : Int) : Int := if x < y then -1 else if y < x then 1 else 0
def cOr (x y : Int) : Int := if x = 0 then y else x
def cfB (a b : Od) : Int := cOr (cmI b.pr a.pr) (cmI a.pl b.pl)
def cfS (a b : Od) : Int := cOr (cmI a.pr b.pr) (cmI a.pl b.pl)
/-- A fill: Id, owner, amount. -/
abbrev Fi : Type := Int × Int × Int
def fC (f : Fi) : List Value := [.int .i64 f.1, .int .i64 f.2.1, .int .i64 f.2.2]
def fiL (l : List Fi) : List Value := l.flatMap fC
theorem fiL_app (a b : List Fi) : fiL (a ++ b) = fiL a ++ fiL b := by simp [fiL]
theorem fiL_cons (a : Fi) (b : List Fi) : fiL (a :: b) = fC a ++ fiL b := by simp [fiL]
theorem fiL_len (l : List Fi) : (fiL l).length = l.length * 3 := by
  induction l with
  | nil => rfl
  | cons k l ih => rw [fiL_cons, List.length_append, ih, List.length_cons]; simp [fC]; omega
theorem fiL_one (l : List Fi) : ∀ v ∈ fiL l, v.oneCell' = true := by
  intro v hv
  unfold fiL at hv
  rw [List.mem_flatMap] at hv
  obtain ⟨o, _, h⟩ := hv
  simp only [fC, List.mem_cons, List.not_mem_nil, or_false] at h
  rcases h with h | h | h <;> (rw [h]; rfl)
theorem fiL_get : ∀ (l : List Fi) (i j : Nat) (o : Fi) (v : Value), l[i]? = some o → (fC o)[j]? = some v → (fiL l)[i * 3 + j]? = some v
  | k :: l, 0, j, o, v, h0, h => by
    have h0 : k = o := by simpa using h0
    subst h0
    have hj : j < (fC k).length := (List.getElem?_eq_some_iff.1 h).1
    rw [fiL_cons, Nat.zero_mul, Nat.zero_add, List.getElem?_append_left hj]
    exact h
  | k :: l, i + 1, j, o, v, h0, h => by
    have hl : (fC k).length = 3 := rfl
    have e2 : (i + 1) * 3 + j - 3 = i * 3 + j := by omega
    rw [fiL_cons, List.getElem?_append_right (by rw [hl]; omega), hl, e2]
    exact fiL_get l i j o v (by simpa using h0) h
def fll : List Od → Int → List Fi
  | [], _ => []
  | o :: l, n => if min o.am n ≤ 0 then [] else (o.id, o.own, min o.am n) :: fll l (n - min o.am n)
def fills (l : List Od) (p n : Int) : List Fi := fll (stab (fun a b => decide (cfB a b < 0)) ((jdg l).filter (bAt p))) n ++ fll (stab (fun a b => decide (cfS a b < 0)) ((jdg l).filter (sAt p))) n
theorem cm_lt (x y : Int) : cmI x y < 0 ↔ x < y := by unfold cmI; split <;> (try split) <;> omega
theorem cm_eq (x y : Int) : cmI x y = 0 ↔ x = y := by unfold cmI; split <;> (try split) <;> omega
theorem cfB_lt (a b : Od) : decide (cfB a b < 0) = decide (b.pr < a.pr ∨ (a.pr = b.pr ∧ a.pl < b.pl)) := by
  rw [decide_eq_decide]
  unfold cfB cOr
  have h1 := cm_lt b.pr a.pr
  have h2 := cm_eq b.pr a.pr
  have h3 := cm_lt a.pl b.pl
  split
  · rename_i h; rw [h2] at h; rw [h3]; omega
  · rename_i h; rw [h2] at h; rw [h1]; omega
theorem cfS_lt (a b : Od) : decide (cfS a b < 0) = decide (a.pr < b.pr ∨ (a.pr = b.pr ∧ a.pl < b.pl)) := by
  rw [decide_eq_decide]
  unfold cfS cOr
  have h1 := cm_lt a.pr b.pr
  have h2 := cm_eq a.pr b.pr
  have h3 := cm_lt a.pl b.pl
  split
  · rename_i h; rw [h2] at h; rw [h3]; omega
  · rename_i h; rw [h2] at h; rw [h1]; omega
theorem swoB : SWO (fun a b : Od => decide (cfB a b < 0)) := {
  irrefl := fun x => by simp only [cfB_lt]; simp
  trans := fun x y z h1 h2 => by simp only [cfB_lt, decide_eq_true_eq] at *; omega
  ntrans := fun x y z h1 h2 => by simp only [cfB_lt, decide_eq_false_iff_not] at *; omega }
theorem swoS : SWO (fun a b : Od => decide (cfS a b < 0)) := {
  irrefl := fun x => by simp only [cfS_lt]; simp
  trans := fun x y z h1 h2 => by simp only [cfS_lt, decide_eq_true_eq] at *; omega
  ntrans := fun x y z h1 h2 => by simp only [cfS_lt, decide_eq_false_iff_not] at *; omega }
end Go.Proofs.YtpekfpfhonechaaGreat.Cal
