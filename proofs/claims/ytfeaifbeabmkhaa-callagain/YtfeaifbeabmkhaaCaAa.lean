/- Behind a clearing nothing more can be traded: as plain data. -/
import Derived.Test.YtfeaifbeabmkhaaCaBa
namespace Go.Proofs.Ytfeaifbeabmkhaa
open Go.Sort
set_option linter.unusedSimpArgs false
set_option linter.unusedVariables false

/-- What one side got. -/
def gS (fs : List Fi) (b : Bool) : List Od → Int
  | [] => 0
  | o :: l => (if o.by = b then got fs o.id else 0) + gS fs b l
theorem gS_nil (b : Bool) : ∀ os : List Od, gS [] b os = 0
  | [] => rfl
  | o :: l => by rw [gS, gS_nil b l]; simp [got]
theorem gS_cons (f : Fi) (fs : List Fi) (b : Bool) : ∀ os : List Od, gS (f :: fs) b os = sdR b f os + gS fs b os
  | [] => rfl
  | o :: l => by
    rw [gS, gS, sdR, gS_cons f fs b l]
    simp only [got]
    by_cases hb : o.by = b
    · rw [if_pos hb, if_pos hb]
      by_cases hi : o.id = f.1
      · rw [if_pos hi.symm, if_pos ⟨hi, hb⟩]; omega
      · rw [if_neg (fun e => hi e.symm), if_neg (fun e => hi e.1)]; omega
    · rw [if_neg hb, if_neg hb, if_neg (fun e => hb e.2)]; omega
theorem sdS_gS (os : List Od) (b : Bool) : ∀ fs : List Fi, sdS os b fs = gS fs b os
  | [] => (gS_nil b os).symm
  | f :: fs => by rw [sdS, gS_cons, sdS_gS os b fs]
/-- Where those that got anything are among some, and one of these did not get all: these had more. -/
theorem gS_lt (fs : List Fi) (b : Bool) (g : Od → Bool) : ∀ os : List Od, (∀ o ∈ os, 0 ≤ got fs o.id ∧ got fs o.id ≤ o.am) → (∀ o ∈ os, o.by = b → 0 < got fs o.id → g o = true) →
    gS fs b os ≤ amt (os.filter g) ∧ ((∃ s ∈ os, g s = true ∧ got fs s.id < s.am) → (∀ o ∈ os, g o = true → o.by = b) → gS fs b os < amt (os.filter g))
  | [], _, _ => ⟨by simp [gS, amt], fun ⟨s, hs, _⟩ => by cases hs⟩
  | o :: l, h1, h2 => by
    have ih := gS_lt fs b g l (fun q hq => h1 q (List.mem_cons_of_mem _ hq)) (fun q hq => h2 q (List.mem_cons_of_mem _ hq))
    have ho := h1 o (List.mem_cons_self ..)
    have h2o := h2 o (List.mem_cons_self ..)
    rw [gS]
    cases hg : g o
    · rw [List.filter_cons_of_neg (by rw [hg]; simp)]
      have h0 : (if o.by = b then got fs o.id else 0) = 0 := by
        split
        · rename_i hb
          by_cases hp : 0 < got fs o.id
          · have := h2o hb hp; rw [hg] at this; cases this
          · omega
        · rfl
      rw [h0]
      refine ⟨by omega, fun hs hq => ?_⟩
      obtain ⟨s, hs, k1, k2⟩ := hs
      rcases List.mem_cons.1 hs with rfl | hs
      · rw [hg] at k1; cases k1
      · have := ih.2 ⟨s, hs, k1, k2⟩ (fun q hq' => hq q (List.mem_cons_of_mem _ hq'))
        omega
    · rw [List.filter_cons_of_pos hg, amt]
      have h0 : (if o.by = b then got fs o.id else 0) ≤ o.am := by split <;> omega
      refine ⟨by omega, fun hs hq => ?_⟩
      obtain ⟨s, hs, k1, k2⟩ := hs
      rcases List.mem_cons.1 hs with rfl | hs
      · have hb := hq s (List.mem_cons_self ..) k1
        rw [if_pos hb]
        omega
      · have := ih.2 ⟨s, hs, k1, k2⟩ (fun q hq' => hq q (List.mem_cons_of_mem _ hq'))
        omega
variable {B : Bo}
theorem got_fill {fs : List Fi} {x : Int} (h : got fs x ≠ 0) : ∃ f ∈ fs, f.1 = x := by
  by_cases hx : ∃ f ∈ fs, f.1 = x
  · exact hx
  · exact absurd (got_none fs x (fun f hf e => hx ⟨f, hf, e⟩)) h
/-- Nobody who stands behind one that has something left got anything. -/
theorem got_ahead (h : BInv B) {s o : Od} (hs : s ∈ B.os) (ho : o ∈ B.os) (hb : o.by = s.by) (hl : got B.fl s.id < s.am) (hg : 0 < got B.fl o.id) : s = o ∨ bet s o = false := by
  by_cases he : s = o
  · exact Or.inl he
  · right
    cases hq : bet s o
    · rfl
    · exfalso
      obtain ⟨f, hf, e⟩ := got_fill (fs := B.fl) (x := o.id) (by omega)
      have := first_whole h hf hs ho e.symm hb he hq
      have h2 := got_one B.fl (s.id, s.own, s.am) (fills_nodup h _ _) this
      have h3 : got B.fl s.id = s.am := h2
      omega
theorem left_more (h : BInv B) {s : Od} (hs : s ∈ B.os) (hl : got B.fl s.id < s.am) : (crs B.os).2 < amt (B.os.filter (if s.by then bAt s.pr else sAt s.pr)) := by
  rw [← side_true h s.by, sdS_gS]
  refine (gS_lt B.fl s.by (if s.by then bAt s.pr else sAt s.pr) B.os (fun o ho => got_bd h _ _ ho) (fun o ho hb hg => ?_)).2 ⟨s, hs, ?_, hl⟩ (fun o ho hg => ?_)
  · rcases got_ahead h hs ho hb hl hg with rfl | hq
    · cases hsb : s.by
      · simp [sAt, hsb]
      · simp [bAt, hsb]
    · unfold bet at hq
      cases hsb : s.by
      · rw [hsb] at hq hb
        simp only [Bool.false_and, Bool.not_false, Bool.true_and, Bool.false_or, Bool.or_eq_false_iff, decide_eq_false_iff_not] at hq
        simp [sAt, hb]; omega
      · rw [hsb] at hq hb
        simp only [Bool.true_and, Bool.not_true, Bool.false_and, Bool.or_false, Bool.or_eq_false_iff, decide_eq_false_iff_not] at hq
        simp [bAt, hb]; omega
  · cases hsb : s.by
    · simp [sAt, hsb]
    · simp [bAt, hsb]
  · cases hsb : s.by
    · rw [hsb] at hg; simp [sAt] at hg; exact hg.1
    · rw [hsb] at hg; simp [bAt] at hg; exact hg.1
theorem clr_mem (h : BInv B) {o : Od} (ho : o ∈ B.clr.os) : ∃ q ∈ B.os, o.by = q.by ∧ o.pr = q.pr ∧ got B.fl q.id < q.am := by
  rw [clr_os] at ho
  obtain ⟨h1, h2⟩ := List.mem_filter.1 ho
  obtain ⟨q, hq, rfl⟩ := List.mem_map.1 h1
  have h3 : (q.setAm (q.am - got B.fl q.id)).am = q.am - got B.fl q.id := rfl
  rw [h3] at h2
  have hb := got_bd h (crs B.os).1 (crs B.os).2 hq
  have hb' : 0 ≤ got B.fl q.id ∧ got B.fl q.id ≤ q.am := hb
  refine ⟨q, hq, rfl, rfl, ?_⟩
  simp at h2
  omega
/-- Behind a clearing no buyer would pay what a seller asks. -/
theorem clr_apart (h : BInv B) {x y : Od} (hx : x ∈ B.clr.os) (hy : y ∈ B.clr.os) (bx : x.by = true) (by_ : y.by = false) : x.pr < y.pr := by
  obtain ⟨q, hq, q1, q2, q3⟩ := clr_mem h hx
  obtain ⟨s, hs, s1, s2, s3⟩ := clr_mem h hy
  rw [q1] at bx
  rw [s1] at by_
  rw [q2, s2]
  by_cases hlt : q.pr < s.pr
  · exact hlt
  · exfalso
    have k1 := left_more h hq q3
    have k2 := left_more h hs s3
    rw [bx] at k1
    rw [by_] at k2
    simp only [if_true, Bool.false_eq_true, if_false] at k1 k2
    have k3 := (crs_most h.may s.pr).1
    have e0 : (crs B.os) = B.os.foldl (crS B.os) (0, 0) := by unfold crs; rw [jdg_book h]
    rw [← e0] at k3
    have k4 : amt (B.os.filter (bAt q.pr)) ≤ amt (B.os.filter (bAt s.pr)) := amt_sub B.os (fun o ho => may_am1 (h.may o ho)) (fun o _ ho => by
      unfold bAt at ho ⊢
      simp only [Bool.and_eq_true, decide_eq_true_eq] at ho ⊢
      exact ⟨ho.1, by omega⟩)
    unfold trd at k3
    omega
theorem amt_zero {l : List Od} (h : ∀ o ∈ l, False) : amt l = 0 := by
  cases l with
  | nil => rfl
  | cons o l => exact (h o (List.mem_cons_self ..)).elim
theorem clr_trd (h : BInv B) (x : Int) : trd B.clr.os x = 0 := by
  have hn := trd_nn h.clr.may x
  by_cases h0 : ∃ o ∈ B.clr.os, bAt x o = true
  · obtain ⟨o, ho, hb⟩ := h0
    have hz : amt (B.clr.os.filter (sAt x)) = 0 := amt_zero fun s hs => by
      obtain ⟨h1, h2⟩ := List.mem_filter.1 hs
      unfold bAt at hb
      unfold sAt at h2
      simp only [Bool.and_eq_true, Bool.not_eq_true', decide_eq_true_eq] at hb h2
      have := clr_apart h ho h1 hb.1 h2.1
      omega
    unfold trd at hn ⊢
    rw [hz] at hn ⊢
    omega
  · have hz : amt (B.clr.os.filter (bAt x)) = 0 := amt_zero fun s hs => by
      obtain ⟨h1, h2⟩ := List.mem_filter.1 hs
      exact h0 ⟨s, h1, h2⟩
    unfold trd at hn ⊢
    rw [hz] at hn ⊢
    omega
theorem clr_crs (h : BInv B) : crs B.clr.os = (0, 0) := by
  have hh := crs_hits h.clr.may
  have e0 : (crs B.clr.os) = B.clr.os.foldl (crS B.clr.os) (0, 0) := by unfold crs; rw [jdg_book h.clr]
  rw [← e0] at hh
  have hn := crs_nn h.clr
  have h2 : (crs B.clr.os).2 = 0 := by
    by_cases hp : 0 < (crs B.clr.os).2
    · have := hh.1 hp
      rw [clr_trd h] at this
      omega
    · omega
  have h1 := hh.2.1 h2
  exact Prod.ext h1 h2
theorem clr_fl (h : BInv B) : B.clr.fl = [] := by
  unfold Bo.fl fills
  rw [clr_crs h, fll_none (by decide), fll_none (by decide)]
  rfl
theorem clr_clr (h : BInv B) : B.clr.clr = B.clr := by
  have e : B.clr.clr.os = B.clr.os := by
    rw [clr_os B.clr, clr_fl h]
    have e1 : (B.clr.os.map fun o => o.setAm (o.am - got [] o.id)) = B.clr.os := by
      conv => rhs; rw [← List.map_id B.clr.os]
      refine List.map_congr_left fun o _ => ?_
      simp only [got, Int.sub_zero]
      exact setAm_self o
    rw [e1, List.filter_eq_self]
    intro o ho
    have := may_am1 (h.clr.may o ho)
    simp; omega
  have e2 : B.clr.clr = ⟨B.clr.nx, B.clr.clr.os⟩ := rfl
  rw [e2, e]
end Go.Proofs.Ytfeaifbeabmkhaa
