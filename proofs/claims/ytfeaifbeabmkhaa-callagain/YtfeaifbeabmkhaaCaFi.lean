/- The better ones first, as plain data. -/
import Derived.Test.YtfeaifbeabmkhaaCaS
namespace Go.Proofs.Ytfeaifbeabmkhaa
open Go.Sort
set_option linter.unusedSimpArgs false
set_option linter.unusedVariables false

theorem fll_none {l : List Od} {n : Int} (h : n ≤ 0) : fll l n = [] := by
  cases l with
  | nil => rfl
  | cons o l => rw [fll, if_pos (by omega)]
/-- Ahead of an order that is filled each one is filled whole. -/
theorem fll_first : ∀ (a : List Od) (n : Int) (b : List Od) (x : Od) (f : Fi), ((a ++ x :: b).map Od.id).Nodup → f ∈ fll (a ++ x :: b) n → (∃ y ∈ b, y.id = f.1) → (x.id, x.own, x.am) ∈ fll (a ++ x :: b) n
  | [], n, b, x, f, hd, hf, ⟨y, hy, hyf⟩ => by
    rw [List.nil_append] at hd hf ⊢
    rw [List.map_cons, List.nodup_cons] at hd
    rw [fll] at hf ⊢
    split at hf
    · cases hf
    · rename_i hm
      rw [if_neg hm]
      rcases List.mem_cons.1 hf with e | e
      · exact absurd (List.mem_map.2 ⟨y, hy, by rw [hyf, e]⟩) hd.1
      · have hn : ¬ n - min x.am n ≤ 0 := fun h => by rw [fll_none h] at e; cases e
        have hm2 : min x.am n = x.am := by omega
        rw [hm2]
        exact List.mem_cons_self ..
  | c :: a, n, b, x, f, hd, hf, ⟨y, hy, hyf⟩ => by
    rw [List.cons_append] at hd hf ⊢
    rw [List.map_cons, List.nodup_cons] at hd
    rw [fll] at hf ⊢
    split at hf
    · cases hf
    · rename_i hm
      rw [if_neg hm]
      rcases List.mem_cons.1 hf with e | e
      · exact absurd (List.mem_map.2 ⟨y, List.mem_append.2 (Or.inr (List.mem_cons_of_mem _ hy)), by rw [hyf, e]⟩) hd.1
      · exact List.mem_cons_of_mem _ (fll_first a _ b x f hd.2 e ⟨y, hy, hyf⟩)
theorem srt_ahead {lt : Od → Od → Bool} {s : List Od} (hs : Srt lt s) {x y : Od} (hx : x ∈ s) (hy : y ∈ s) (hn : x ≠ y) (hl : lt x y = true) : ∃ a b, s = a ++ x :: b ∧ y ∈ b := by
  obtain ⟨a, b, rfl⟩ := List.append_of_mem hx
  refine ⟨a, b, rfl, ?_⟩
  rcases List.mem_append.1 hy with e | e
  · have := hs.cross y e x (List.mem_cons_self ..)
    rw [hl] at this
    cases this
  · rcases List.mem_cons.1 e with e | e
    · exact absurd e.symm hn
    · exact e
/-- The law's word 'better'. -/
def bet (x y : Od) : Bool := (x.by && decide (y.pr < x.pr)) || (!x.by && decide (x.pr < y.pr)) || (x.pr == y.pr && decide (x.pl < y.pl))
theorem side_first {B : Bo} (h : BInv B) {f : Fi} {n : Int} (g : Od → Bool) {lt : Od → Od → Bool} (hO : SWO lt) (hf : f ∈ fll (stab lt (B.os.filter g)) n) {x y : Od} (hx : x ∈ B.os) (hy : y ∈ B.os) (hyf : y.id = f.1) (hn : x ≠ y) (hl : lt x y = true) (hg : g y = true → g x = true) :
    (x.id, x.own, x.am) ∈ fll (stab lt (B.os.filter g)) n := by
  obtain ⟨o, ho, k, _⟩ := fll_mem _ _ _ hf
  have m := List.mem_filter.1 ((stab_perm (lt := lt) _).mem_iff.1 ho)
  have := h.same m.1 hy (by rw [← k, hyf])
  subst this
  have hxs : x ∈ stab lt (B.os.filter g) := (stab_perm (lt := lt) _).mem_iff.2 (List.mem_filter.2 ⟨hx, hg m.2⟩)
  obtain ⟨a, b, hab, hyb⟩ := srt_ahead (stab_srt hO (B.os.filter g)) hxs ho hn hl
  have hd : ((stab lt (B.os.filter g)).map Od.id).Nodup := ((stab_perm (lt := lt) (B.os.filter g)).map Od.id).nodup_iff.2 (h.nodup.sublist (List.filter_sublist.map _))
  rw [hab] at hd hf ⊢
  exact fll_first a n b x f hd hf ⟨_, hyb, hyf⟩
theorem first_whole {B : Bo} (h : BInv B) {f : Fi} (hf : f ∈ B.fl) {x y : Od} (hx : x ∈ B.os) (hy : y ∈ B.os) (hyf : y.id = f.1) (hs : y.by = x.by) (hn : x ≠ y) (hb : bet x y = true) :
    (x.id, x.own, x.am) ∈ B.fl := by
  unfold Bo.fl at hf ⊢
  unfold fills at hf ⊢
  rw [jdg_book h] at hf ⊢
  unfold bet at hb
  rcases List.mem_append.1 hf with e | e
  · refine List.mem_append.2 (Or.inl ?_)
    obtain ⟨o, ho, k, _⟩ := fll_mem _ _ _ e
    have m := List.mem_filter.1 ((stab_perm _).mem_iff.1 ho)
    have := h.same m.1 hy (by rw [← k, hyf])
    subst this
    have hby : o.by = true := by have := m.2; unfold bAt at this; simp only [Bool.and_eq_true] at this; exact this.1
    rw [← hs, hby] at hb
    have hb' : o.pr < x.pr ∨ x.pr = o.pr ∧ x.pl < o.pl := by simpa using hb
    refine side_first h _ swoB e hx hy hyf hn (by rw [cfB_lt]; exact decide_eq_true hb') ?_
    intro hgo
    unfold bAt at hgo ⊢
    rw [← hs]
    simp only [Bool.and_eq_true, decide_eq_true_eq] at hgo ⊢
    exact ⟨hgo.1, by omega⟩
  · refine List.mem_append.2 (Or.inr ?_)
    obtain ⟨o, ho, k, _⟩ := fll_mem _ _ _ e
    have m := List.mem_filter.1 ((stab_perm _).mem_iff.1 ho)
    have := h.same m.1 hy (by rw [← k, hyf])
    subst this
    have hby : o.by = false := by have := m.2; unfold sAt at this; simp only [Bool.and_eq_true, Bool.not_eq_true'] at this; exact this.1
    rw [← hs, hby] at hb
    have hb' : x.pr < o.pr ∨ x.pr = o.pr ∧ x.pl < o.pl := by simpa using hb
    refine side_first h _ swoS e hx hy hyf hn (by rw [cfS_lt]; exact decide_eq_true hb') ?_
    intro hgo
    unfold sAt at hgo ⊢
    rw [← hs]
    simp only [Bool.and_eq_true, decide_eq_true_eq, Bool.not_eq_true'] at hgo ⊢
    exact ⟨hgo.1, by omega⟩
/-- What was filled whole stands no more. -/
theorem whole_gone {B : Bo} (h : BInv B) {x : Od} (hx : x ∈ B.os) (hm : (x.id, x.own, x.am) ∈ B.fl) : gtB B.clr.os x.id = ((0, 0, 0, 0, 0, false), false) := by
  refine gtB_none fun o ho e => ?_
  rw [clr_os] at ho
  obtain ⟨h1, h2⟩ := List.mem_filter.1 ho
  obtain ⟨q, hq, rfl⟩ := List.mem_map.1 h1
  have e' : q.id = x.id := e
  have := h.same hq hx e'
  subst this
  have hg := got_one B.fl (q.id, q.own, q.am) (fills_nodup h _ _) hm
  have hg' : got B.fl q.id = q.am := hg
  have h3 : (q.setAm (q.am - got B.fl q.id)).am = q.am - got B.fl q.id := rfl
  rw [h3, hg'] at h2
  simp at h2
theorem first_pure {B : Bo} (h : BInv B) {f : Fi} (hf : f ∈ B.fl) {x y : Od} (hx : x ∈ B.os) (hy : y ∈ B.os) (hyf : y.id = f.1) (hs : y.by = x.by) (hn : x.id ≠ f.1) (hb : bet x y = true) : (gtB B.clr.os x.id).2 = false := by
  rw [whole_gone h hx (first_whole h hf hx hy hyf hs (fun e => hn (by rw [e, hyf])) hb)]
theorem fl_len (B : Bo) : B.fl.length ≤ 128 := by
  unfold Bo.fl fills
  rw [List.length_append]
  have a1 := fll_len (stab (fun a b => decide (cfB a b < 0)) ((jdg B.os).filter (bAt (crs B.os).1))) (crs B.os).2
  have a2 := fll_len (stab (fun a b => decide (cfS a b < 0)) ((jdg B.os).filter (sAt (crs B.os).1))) (crs B.os).2
  rw [stab_len] at a1 a2
  have a3 := ((jd_jdg B.os).filter (bAt (crs B.os).1)).1
  have a4 := ((jd_jdg B.os).filter (sAt (crs B.os).1)).1
  omega
end Go.Proofs.Ytfeaifbeabmkhaa
