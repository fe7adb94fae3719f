/- The better ones first, as plain data. -/
import Derived.Test.YtgofjheoebabeaaGreatDoorHn30
import Derived.Test.YtgofjheoebabeaaGreatDoorHn16
namespace Go.Proofs.YtgofjheoebabeaaGreatDoor.Cal
open Go.Sort
set_option linter.unusedSimpArgs false
set_option linter.unusedVariables false

theorem fll_none {l : List Od} {n : Int} (h : n ≤ 0) : fll l n = [] := by
  cases l with
  | nil => rfl
  | cons o l => rw [fll, if_pos (by omega)]
/-- Ahead of an order that is filled each one is filled whole. -/
theorem fll_first : ∀ (a : List Od) (n : Int) (b : List Od) (x : Od) (f : Fi), ((a ++ x :: b).map Od.id).Nodup → f ∈ fll (a ++ x :: b) n → (∃ y ∈ b, y.id = f.1) → (x.id, x.own, x.am) ∈ fll (a ++ x :: b) n
  | [], n, b, x, f, hd, hf, ⟨y, hy, hyf⟩ => by
    rw [List.nil_append] at hd hf ⊢
    rw [List.map_cons, List.nodup_cons] at hd
    rw [fll] at hf ⊢
    split at hf
    · cases hf
    · rename_i hm
      rw [if_neg hm]
      rcases List.mem_cons.1 hf with e | e
      · exact absurd (List.mem_map.2 ⟨y, hy, by rw [hyf, e]⟩) hd.1
      · have hn : ¬ n - min x.am n ≤ 0 := fun h => by rw [fll_none h] at e; cases e
        have hm2 : min x.am n = x.am := by omega
        rw [hm2]
        exact List.mem_cons_self ..
  | c :: a, n, b, x, f, hd, hf, ⟨y, hy, hyf⟩ => by
    rw [List.cons_append] at hd hf ⊢
    rw [List.map_cons, List.nodup_cons] at hd
    rw [fll] at hf ⊢
    split at hf
    · cases hf
    · rename_i hm
      rw [if_neg hm]
      rcases List.mem_cons.1 hf with e | e
      · exact absurd (List.mem_map.2 ⟨y, List.mem_append.2 (Or.inr (List.mem_cons_of_mem _ hy)), by rw [hyf, e]⟩) hd.1
      · exact List.mem_cons_of_mem _ (fll_first a _ b x f hd.2 e ⟨y, hy, hyf⟩)
theorem srt_ahead {lt : Od → Od → Bool} {s : List Od} (hs : Srt lt s) {x y : Od} (hx : x ∈ s) (hy : y ∈ s) (hn : x ≠ y) (hl : lt x y = true) : ∃ a b, s = a ++ x :: b ∧ y ∈ b := by
  obtain ⟨a, b, rfl⟩ := List.append_of_mem hx
  refine ⟨a, b, rfl, ?_⟩
  rcases List.mem_append.1 hy with e | e
  · have := hs.cross y e x (List.mem_cons_self ..)
    rw [hl] at this
    cases this
  · rcases List.mem_cons.1 e with e | e
    · exact absurd e.symm hn
    · exact e
/-- The law's word 'better'. -/
def bet (x y : Od) : Bool := (x.by && decide (y.pr < x.pr)) || (!x.by && decide (x.pr < y.pr)) || (x.pr == y.pr && decide (x.pl < y.pl))
theorem side_first {B : Bo} (h : BInv B) {f : Fi} {n : Int} (g : Od → Bool) {lt : Od → Od → Bool} (hO : SWO lt) (hf : f ∈ fll (stab lt (B.os.filter g)) n) {x y : Od} (hx : x ∈ B.os) (hy : y ∈ B.os) (hyf : y.id = f.1) (hn : x ≠ y) (hl : lt x y = true) (hg : g y = true → g x = true) :
    (x.id, x.own, x.am) ∈ fll (stab lt (B.os.filter g)) n := by
  obtain ⟨o, ho, k, _⟩ := fll_mem _ _ _ hf
  have m := List.mem_filter.1 ((stab_perm (lt := lt) _).mem_iff.1 ho)
  have := h.same m.1 hy (by rw [← k, hyf])
  subst this
  have hxs : x ∈ stab lt (B.os.filter g) := (stab_perm (lt := lt) _).mem_iff.2 (List.mem_filter.2 ⟨hx, hg m.2⟩)
  obtain ⟨a, b, hab, hyb⟩ := srt_ahead (stab_srt hO (B.os.filter g)) hxs ho hn hl
  have hd : ((stab lt (B.os.filter g)).map Od.id).Nodup := ((stab_perm (lt := lt) (B.os.filter g)).map Od.id).nodup_iff.2 (h.nodup.sublist (List.filter_sublist.map _))
  rw [hab] at hd hf ⊢
  exact fll_first a n b x f hd hf ⟨_, hyb, hyf⟩
theorem first_whole {B : Bo} (h : BInv B) {f : Fi} (hf : f ∈ B.fl) {x y : Od} (hx : x ∈ B.os) (hy : y ∈ B.os) (hyf : y.id = f.1) (hs : y.by = x.by) (hn : x ≠ y) (hb : bet x y = true) :
    (x.id, x.own, x.am) ∈ B.fl := by
  unfold Bo.fl at hf ⊢
  unfold fills at hf ⊢
  rw [jdg_book h] at hf ⊢
  unfold bet at hb
  rcases List.mem_append.1 hf with e | e
  · refine List.mem_append.2 (Or.inl ?_)
    obtain ⟨o, ho, k, _⟩ := fll_mem _ _ _ e
    have m := List.mem_filter.1 ((stab_perm _).mem_iff.1 ho)
    have := h.same m.1 hy (by rw [← k, hyf])
    subst this
    have hby : o.by = true := by have := m.2; unfold bAt at this; simp only [Bool.and_eq_true] at this; exact this.1
    rw [← hs, hby] at hb
    have hb' : o.pr < x.pr ∨ x.pr = o.pr ∧ x.pl < o.pl := by simpa using hb
    refine side_first h _ swoB e hx hy hyf hn (by rw [cfB_lt]; exact decide_eq_true hb') ?_
    intro hgo
    unfold bAt at hgo ⊢
    rw [← hs]
    simp only [Bool.and_eq_true, decide_eq_true_eq] at hgo ⊢
    exact ⟨hgo.1, by omega⟩
  · refine List.mem_append.2 (Or.inr ?_)
    obtain ⟨o, ho, k, _⟩ := fll_mem _ _ _ e
    have m := List.mem_filter.1 ((stab_perm _).mem_iff.1 ho)
    have := h.same m.1 hy (by rw [← k, hyf])
    subst this
    have hby : o.by = false := by have := m.2; unfold sAt at this; simp only [Bool.and_eq_true, Bool.not_eq_true'] at this; exact this.1
    rw [← hs, hby] at hb
    have hb' : x.pr < o.pr ∨ x.pr = o.pr ∧ x.pl < o.pl := by simpa using hb
    refine side_first h _ swoS e hx hy hyf hn (by rw [cfS_lt]; exact decide_eq_true hb') ?_
    intro hgo
    unfold sAt at hgo ⊢
    rw [← hs]
    simp only [Bool.and_eq_true, decide_eq_true_eq, Bool.not_eq_true'] at hgo ⊢
    exact ⟨hgo.1, by omega⟩
/-- What was filled whole stands no more. -/
theorem whole_gone {B : Bo} (h : BInv B) {x : Od} (hx : x ∈ B.os) (hm : (x.id, x.own, x.am) ∈ B.fl) : gtB B.clr.os x.id = ((0, 0, 0, 0, 0, false), false) := by
  refine gtB_none fun o ho e => ?_
  rw [clr_os] at ho
  obtain ⟨h1, h2⟩ := List.mem_filter.1 ho
  obtain ⟨q, hq, rfl⟩ := List.mem_map.1 h1
  have e' : q.id = x.id := e
  have := h.same hq hx e'
  subst this
  have hg := got_one B.fl (q.id, q.own, q.am) (fills_nodup h _ _) hm
  have hg' : got B.fl q.id = q.am := hg
  have h3 : (q.setAm (q.am - got B.fl q.id)).am = q.am - got B.fl q.id := rfl
  rw [h3, hg'] at h2
  simp at h2
theorem first_pure {B : Bo} (h : BInv B) {f : Fi} (hf : f ∈ B.fl) {x y : Od} (hx : x ∈ B.os) (hy : y ∈ B.os) (hyf : y.id = f.1) (hs : y.by = x.by) (hn : x.id ≠ f.1) (hb : bet x y = true) : (gtB B.clr.os x.id).2 = false := by
  rw [whole_gone h hx (first_whole h hf hx hy hyf hs (fun e => hn (by rw [e, hyf])) hb)]
theorem fl_len (B : Bo) : B.fl.length ≤ 128 := by
  unfold Bo.fl fills
  rw [List.length_append]
  have a1 := fll_len (stab (fun a b => decide (cfB a b < 0)) ((jdg B.os).filter (bAt (crs B.os).1))) (crs B.os).2
  have a2 := fll_len (stab (fun a b => decide (cfS a b < 0)) ((jdg B.os).filter (sAt (crs B.os).1))) (crs B.os).2
  rw [stab_len] at a1 a2
  have a3 := ((jd_jdg B.os).filter (bAt (crs B.os).1)).1
  have a4 := ((jd_jdg B.os).filter (sAt (crs B.os).1)).1
  omega
end Go.Proofs.YtgofjheoebabeaaGreatDoor.Cal

namespace Go.Proofs.YtgofjheoebabeaaGreatDoor.Cal
open Go.Sort
set_option linter.unusedSimpArgs false
set_option linter.unusedVariables false

/-- A price and an amount that are the best of some of the orders. -/
def Best (J t : List Od) (s : Int × Int) : Prop :=
  (s = (0, 0) ∧ ∀ o ∈ t, trd J o.pr = 0) ∨ (∃ o ∈ t, s = (o.pr, trd J o.pr) ∧ 0 < s.2 ∧ ∀ q ∈ t, trd J q.pr ≤ s.2 ∧ (trd J q.pr = s.2 → s.1 ≤ q.pr))
theorem amt_nn (l : List Od) (h : ∀ o ∈ l, 1 ≤ o.am) : 0 ≤ amt l := by
  induction l with
  | nil => simp [amt]
  | cons o l ih =>
    have h1 := h o (List.mem_cons_self ..)
    have h2 := ih (fun x hx => h x (List.mem_cons_of_mem _ hx))
    simp only [amt]; omega
theorem may_am1 {o : Od} (h : mayB o = true) : 1 ≤ o.am := by
  unfold mayB at h
  simp only [Bool.and_eq_true, decide_eq_true_eq] at h
  exact h.2.1
theorem may_pr {o : Od} (h : mayB o = true) : 0 ≤ o.pr := by
  unfold mayB at h
  simp only [Bool.and_eq_true, decide_eq_true_eq] at h
  exact h.1.2.1
theorem trd_nn {J : List Od} (h : ∀ o ∈ J, mayB o = true) (x : Int) : 0 ≤ trd J x := by
  have h1 := amt_nn (J.filter (bAt x)) (fun o ho => may_am1 (h o (List.mem_filter.1 ho).1))
  have h2 := amt_nn (J.filter (sAt x)) (fun o ho => may_am1 (h o (List.mem_filter.1 ho).1))
  unfold trd
  omega
theorem best_step {J t : List Od} (h : ∀ o ∈ J, mayB o = true) {s : Int × Int} (hb : Best J t s) {o : Od} (ho : o ∈ J) : Best J (t ++ [o]) (crS J s o) := by
  have hn := trd_nn h o.pr
  have hp := may_pr (h o ho)
  unfold crS
  rcases hb with ⟨rfl, h0⟩ | ⟨q, hq, hs, hpos, hall⟩
  · by_cases hc : (0 : Int) < trd J o.pr ∨ (trd J o.pr = 0 ∧ o.pr < 0)
    · have hc' : (0 : Int) < trd J o.pr := by omega
      rw [if_pos (Or.inl hc')]
      refine Or.inr ⟨o, by simp, rfl, hc', fun y hy => ?_⟩
      rcases List.mem_append.1 hy with e | e
      · have := h0 y e
        exact ⟨by show trd J y.pr ≤ trd J o.pr; omega, fun k => by have k' : trd J y.pr = trd J o.pr := k; omega⟩
      · rw [List.mem_singleton.1 e]; exact ⟨Int.le_refl _, fun _ => Int.le_refl _⟩
    · rw [if_neg hc]
      refine Or.inl ⟨rfl, fun y hy => ?_⟩
      rcases List.mem_append.1 hy with e | e
      · exact h0 y e
      · rw [List.mem_singleton.1 e]; omega
  · obtain ⟨sp, sn⟩ := s
    simp only at hs hpos hall ⊢
    by_cases hc : sn < trd J o.pr ∨ (trd J o.pr = sn ∧ o.pr < sp)
    · rw [if_pos hc]
      refine Or.inr ⟨o, by simp, rfl, by show 0 < trd J o.pr; omega, fun y hy => ?_⟩
      show trd J y.pr ≤ trd J o.pr ∧ (trd J y.pr = trd J o.pr → o.pr ≤ y.pr)
      rcases List.mem_append.1 hy with e | e
      · have k := hall y e
        refine ⟨by omega, fun k2 => ?_⟩
        rcases hc with c | c
        · omega
        · have := k.2 (by omega); omega
      · rw [List.mem_singleton.1 e]; exact ⟨Int.le_refl _, fun _ => Int.le_refl _⟩
    · rw [if_neg hc]
      refine Or.inr ⟨q, List.mem_append.2 (Or.inl hq), hs, hpos, fun y hy => ?_⟩
      show trd J y.pr ≤ sn ∧ (trd J y.pr = sn → sp ≤ y.pr)
      rcases List.mem_append.1 hy with e | e
      · exact hall y e
      · rw [List.mem_singleton.1 e]; exact ⟨by omega, fun k => by omega⟩
theorem best_fold {J : List Od} (h : ∀ o ∈ J, mayB o = true) : ∀ (u t : List Od) (s : Int × Int), (∀ o ∈ u, o ∈ J) → Best J t s → Best J (t ++ u) (u.foldl (crS J) s)
  | [], t, s, _, hb => by simpa using hb
  | o :: u, t, s, hu, hb => by
    have := best_fold h u (t ++ [o]) (crS J s o) (fun x hx => hu x (List.mem_cons_of_mem _ hx)) (best_step h hb (hu o (List.mem_cons_self ..)))
    simpa using this
theorem best_all {J : List Od} (h : ∀ o ∈ J, mayB o = true) : Best J J (J.foldl (crS J) (0, 0)) := by
  have := best_fold h J [] (0, 0) (fun o ho => ho) (Or.inl ⟨rfl, fun o ho => by cases ho⟩)
  simpa using this
theorem best_one {J t t' : List Od} {s s' : Int × Int} (hm : ∀ o, o ∈ t ↔ o ∈ t') (h : Best J t s) (k : Best J t' s') : s = s' := by
  rcases h with ⟨rfl, h0⟩ | ⟨q, hq, hs, hpos, hall⟩ <;> rcases k with ⟨rfl, k0⟩ | ⟨q', hq', hs', hpos', hall'⟩
  · rfl
  · exfalso
    have := h0 q' ((hm q').2 hq')
    rw [hs'] at hpos'
    have hp : 0 < trd J q'.pr := hpos'
    omega
  · exfalso
    have := k0 q ((hm q).1 hq)
    rw [hs] at hpos
    have hp : 0 < trd J q.pr := hpos
    omega
  · obtain ⟨a, b⟩ := s
    obtain ⟨a', b'⟩ := s'
    simp only [Prod.mk.injEq] at hs hs' hpos hpos' hall hall' ⊢
    have h1 := hall q' ((hm q').2 hq')
    have h2 := hall' q ((hm q).1 hq)
    have hb : b = b' := by omega
    refine ⟨?_, hb⟩
    have h3 := h1.2 (by omega)
    have h4 := h2.2 (by omega)
    omega
theorem amt_perm {a b : List Od} (h : a.Perm b) : amt a = amt b := by
  induction h with
  | nil => rfl
  | cons x _ ih => simp only [amt, ih]
  | swap x y l => simp only [amt]; omega
  | trans _ _ ih1 ih2 => exact ih1.trans ih2
theorem trd_perm {a b : List Od} (h : a.Perm b) (x : Int) : trd a x = trd b x := by
  unfold trd
  rw [amt_perm (h.filter _), amt_perm (h.filter _)]
theorem crs_perm {l l' : List Od} (h : l.Perm l') : crs l = crs l' := by
  have hj : (jdg l).Perm (jdg l') := by
    unfold jdg
    rw [h.length_eq]
    split
    · exact List.Perm.refl _
    · exact h.filter _
  have hm : ∀ o ∈ jdg l, mayB o = true := by
    intro o ho
    unfold jdg at ho
    split at ho
    · cases ho
    · exact (List.mem_filter.1 ho).2
  have hm' : ∀ o ∈ jdg l', mayB o = true := fun o ho => hm o (hj.mem_iff.2 ho)
  unfold crs
  have b1 := best_all hm
  have b2 := best_all hm'
  have b3 : Best (jdg l) (jdg l') ((jdg l').foldl (crS (jdg l')) (0, 0)) := by
    have e : ∀ x, trd (jdg l') x = trd (jdg l) x := fun x => (trd_perm hj x).symm
    unfold Best at b2 ⊢
    simp only [e] at b2
    exact b2
  exact best_one (fun o => hj.mem_iff) b1 b3
theorem crs_reverse (l : List Od) : crs l.reverse = crs l := crs_perm (List.reverse_perm l)

/-- Where something is sold, as much is sold at the price of an order that is not above. -/
theorem sell_at (x : Int) : ∀ J : List Od, (∃ o ∈ J, sAt x o = true) → ∃ o ∈ J, sAt x o = true ∧ ∀ q ∈ J, sAt x q = true → q.pr ≤ o.pr
  | [], h => by obtain ⟨o, ho, _⟩ := h; cases ho
  | a :: J, h => by
    by_cases hJ : ∃ o ∈ J, sAt x o = true
    · obtain ⟨o, ho, h1, h2⟩ := sell_at x J hJ
      by_cases ha : sAt x a = true ∧ o.pr < a.pr
      · refine ⟨a, List.mem_cons_self .., ha.1, fun q hq hs => ?_⟩
        rcases List.mem_cons.1 hq with e | e
        · rw [e]; exact Int.le_refl _
        · have := h2 q e hs; omega
      · refine ⟨o, List.mem_cons_of_mem _ ho, h1, fun q hq hs => ?_⟩
        rcases List.mem_cons.1 hq with e | e
        · rw [e] at hs ⊢
          rcases Int.lt_or_le o.pr a.pr with k | k
          · exact absurd ⟨hs, k⟩ ha
          · exact k
        · exact h2 q e hs
    · obtain ⟨o, ho, h1⟩ := h
      rcases List.mem_cons.1 ho with e | e
      · rw [e] at h1
        refine ⟨a, List.mem_cons_self .., h1, fun q hq hs => ?_⟩
        rcases List.mem_cons.1 hq with e2 | e2
        · rw [e2]; exact Int.le_refl _
        · exact absurd ⟨q, e2, hs⟩ hJ
      · exact absurd ⟨o, e, h1⟩ hJ
theorem amt_sub {f g : Od → Bool} : ∀ (J : List Od), (∀ o ∈ J, 1 ≤ o.am) → (∀ o ∈ J, f o = true → g o = true) → amt (J.filter f) ≤ amt (J.filter g)
  | [], _, _ => by simp [amt]
  | o :: J, ha, h => by
    have ih := amt_sub (f := f) (g := g) J (fun q hq => ha q (List.mem_cons_of_mem _ hq)) (fun q hq => h q (List.mem_cons_of_mem _ hq))
    have h1 := ha o (List.mem_cons_self ..)
    have h2 := h o (List.mem_cons_self ..)
    rw [List.filter_cons, List.filter_cons]
    cases hf : f o
    · cases hg : g o
      · simpa using ih
      · simp only [if_true, Bool.false_eq_true, if_false, amt]; omega
    · rw [h2 hf]
      simp only [if_true, amt]; omega
theorem trd_low {J : List Od} (h : ∀ o ∈ J, mayB o = true) {x : Int} (hx : 0 < trd J x) : ∃ o ∈ J, o.pr ≤ x ∧ trd J x ≤ trd J o.pr := by
  have ha : ∀ o ∈ J, 1 ≤ o.am := fun o ho => may_am1 (h o ho)
  have hs : 0 < amt (J.filter (sAt x)) := by unfold trd at hx; omega
  have hne : ∃ o ∈ J, sAt x o = true := by
    cases hf : J.filter (sAt x) with
    | nil => rw [hf] at hs; simp [amt] at hs
    | cons o t =>
      have : o ∈ J.filter (sAt x) := by rw [hf]; exact List.mem_cons_self ..
      exact ⟨o, (List.mem_filter.1 this).1, (List.mem_filter.1 this).2⟩
  obtain ⟨o, ho, h1, h2⟩ := sell_at x J hne
  have hox : o.pr ≤ x := by
    unfold sAt at h1
    simp only [Bool.and_eq_true, decide_eq_true_eq] at h1
    exact h1.2
  refine ⟨o, ho, hox, ?_⟩
  have e1 : amt (J.filter (bAt x)) ≤ amt (J.filter (bAt o.pr)) := amt_sub J ha (fun q hq hb => by
    unfold bAt at hb ⊢
    simp only [Bool.and_eq_true, decide_eq_true_eq] at hb ⊢
    exact ⟨hb.1, by omega⟩)
  have e2 : amt (J.filter (sAt x)) ≤ amt (J.filter (sAt o.pr)) := amt_sub J ha (fun q hq hb => by
    have h3 := h2 q hq hb
    unfold sAt at hb ⊢
    simp only [Bool.and_eq_true, decide_eq_true_eq] at hb ⊢
    exact ⟨hb.1, h3⟩)
  unfold trd
  omega
/-- At no price more is traded; at each lower one less. -/
theorem crs_most {J : List Od} (h : ∀ o ∈ J, mayB o = true) (x : Int) : trd J x ≤ (J.foldl (crS J) (0, 0)).2 ∧ (0 < (J.foldl (crS J) (0, 0)).2 → x < (J.foldl (crS J) (0, 0)).1 → trd J x < (J.foldl (crS J) (0, 0)).2) := by
  have hb := best_all h
  generalize J.foldl (crS J) (0, 0) = s at *
  have hn := trd_nn h x
  rcases hb with ⟨rfl, h0⟩ | ⟨q, hq, hs, hpos, hall⟩
  · refine ⟨?_, fun k => by exact absurd k (by decide)⟩
    show trd J x ≤ 0
    rcases Int.lt_or_le 0 (trd J x) with k | k
    · obtain ⟨o, ho, h1, h2⟩ := trd_low h k
      have := h0 o ho
      omega
    · exact k
  · rcases Int.lt_or_le 0 (trd J x) with k | k
    · obtain ⟨o, ho, h1, h2⟩ := trd_low h k
      have h3 := hall o ho
      refine ⟨by omega, fun _ hx => ?_⟩
      rcases Int.lt_or_le (trd J x) s.2 with k2 | k2
      · exact k2
      · have := h3.2 (by omega); omega
    · exact ⟨by omega, fun _ _ => by omega⟩
theorem crs_hits {J : List Od} (h : ∀ o ∈ J, mayB o = true) : (0 < (J.foldl (crS J) (0, 0)).2 → trd J (J.foldl (crS J) (0, 0)).1 = (J.foldl (crS J) (0, 0)).2) ∧ ((J.foldl (crS J) (0, 0)).2 = 0 → (J.foldl (crS J) (0, 0)).1 = 0) ∧ 0 ≤ (J.foldl (crS J) (0, 0)).2 := by
  have hb := best_all h
  generalize J.foldl (crS J) (0, 0) = s at *
  rcases hb with ⟨rfl, h0⟩ | ⟨q, hq, hs, hpos, hall⟩
  · exact ⟨fun k => absurd k (by decide), fun _ => rfl, Int.le_refl _⟩
  · refine ⟨fun _ => by rw [hs], fun k => by omega, by omega⟩
end Go.Proofs.YtgofjheoebabeaaGreatDoor.Cal
