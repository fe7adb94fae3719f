/- A clearing buys as much as it sells; what each order gets: as plain data. -/
import Derived.Test.YtfeaifbeabmkhaaCaFi
import Derived.Test.YtfeaifbeabmkhaaCaBe
namespace Go.Proofs.Ytfeaifbeabmkhaa
open Go.Sort
set_option linter.unusedSimpArgs false
set_option linter.unusedVariables false

/-- All pieces of fills. -/
def totF : List Fi → Int
  | [] => 0
  | f :: l => f.2.2 + totF l
theorem fll_tot : ∀ (s : List Od) (n : Int), (∀ o ∈ s, 1 ≤ o.am) → 0 ≤ n → totF (fll s n) = min (amt s) n
  | [], n, h, hn => by simp only [fll, totF, amt]; omega
  | o :: s, n, h, hn => by
    have ho := h o (List.mem_cons_self ..)
    have hs := amt_nn s (fun q hq => h q (List.mem_cons_of_mem _ hq))
    rw [fll]
    split
    · rename_i hm
      simp only [totF, amt]
      omega
    · rw [totF, fll_tot s _ (fun q hq => h q (List.mem_cons_of_mem _ hq)) (by omega), amt]
      show min o.am n + min (amt s) (n - min o.am n) = min (o.am + amt s) n
      omega
/-- What a fill adds to a side. -/
def sdR (b : Bool) (f : Fi) : List Od → Int
  | [] => 0
  | o :: l => (if o.id = f.1 ∧ o.by = b then f.2.2 else 0) + sdR b f l
def sdS (os : List Od) (b : Bool) : List Fi → Int
  | [] => 0
  | f :: l => sdR b f os + sdS os b l
theorem sdR_app (b : Bool) (f : Fi) : ∀ l m : List Od, sdR b f (l ++ m) = sdR b f l + sdR b f m
  | [], m => by simp [sdR]
  | o :: l, m => by simp only [List.cons_append, sdR, sdR_app b f l m]; omega
theorem sdS_app (os : List Od) (b : Bool) : ∀ l m : List Fi, sdS os b (l ++ m) = sdS os b l + sdS os b m
  | [], m => by simp [sdS]
  | f :: l, m => by simp only [List.cons_append, sdS, sdS_app os b l m]; omega
theorem sdR_bd (b : Bool) (f : Fi) (h : 0 ≤ f.2.2 ∧ f.2.2 ≤ 1048576) : ∀ l : List Od, 0 ≤ sdR b f l ∧ sdR b f l ≤ l.length * 1048576
  | [] => by simp [sdR]
  | o :: l => by
    have := sdR_bd b f h l
    simp only [sdR, List.length_cons]
    split <;> (push_cast; omega)
theorem sdS_bd (os : List Od) (b : Bool) (ho : os.length ≤ 64) : ∀ l : List Fi, (∀ f ∈ l, 0 ≤ f.2.2 ∧ f.2.2 ≤ 1048576) → 0 ≤ sdS os b l ∧ sdS os b l ≤ l.length * 67108864
  | [], _ => by simp [sdS]
  | f :: l, h => by
    have h1 := sdS_bd os b ho l (fun g hg => h g (List.mem_cons_of_mem _ hg))
    have h2 := sdR_bd b f (h f (List.mem_cons_self ..)) os
    simp only [sdS, List.length_cons]
    push_cast
    omega
theorem sdR_none (b : Bool) (f : Fi) : ∀ l : List Od, (∀ o ∈ l, o.id ≠ f.1) → sdR b f l = 0
  | [], _ => rfl
  | o :: l, h => by
    rw [sdR, if_neg (fun e => h o (List.mem_cons_self ..) e.1), sdR_none b f l (fun q hq => h q (List.mem_cons_of_mem _ hq))]
    rfl
theorem sdR_one (b : Bool) (f : Fi) (o : Od) (hf : f.1 = o.id) : ∀ l : List Od, l.Pairwise (fun a b => a.id ≠ b.id) → o ∈ l → sdR b f l = if o.by = b then f.2.2 else 0
  | [], _, h => by cases h
  | q :: l, hp, h => by
    obtain ⟨h1, h2⟩ := List.pairwise_cons.1 hp
    rw [sdR]
    rcases List.mem_cons.1 h with e | e
    · subst e
      rw [sdR_none b f l (fun r hr e => h1 r hr (by rw [e, hf]))]
      by_cases hb : o.by = b
      · rw [if_pos ⟨hf.symm, hb⟩, if_pos hb]; omega
      · rw [if_neg (fun e => hb e.2), if_neg hb]; rfl
    · rw [sdR_one b f o hf l h2 e, if_neg (fun e2 => h1 o e (by rw [e2.1, hf]))]
      omega
variable {B : Bo}
theorem sdS_side (h : BInv B) (b c : Bool) : ∀ l : List Fi, (∀ f ∈ l, ∃ o ∈ B.os, f.1 = o.id ∧ o.by = c) → sdS B.os b l = if c = b then totF l else 0
  | [], _ => by simp [sdS, totF]
  | f :: l, hl => by
    obtain ⟨o, ho, hf, hc⟩ := hl f (List.mem_cons_self ..)
    rw [sdS, sdR_one b f o hf B.os h.ids ho, sdS_side h b c l (fun g hg => hl g (List.mem_cons_of_mem _ hg)), hc, totF]
    split <;> omega
theorem fll_side (g : Od → Bool) (lt : Od → Od → Bool) (n : Int) {f : Fi} (hf : f ∈ fll (stab lt (B.os.filter g)) n) : ∃ o ∈ B.os, g o = true ∧ f.1 = o.id ∧ f.2.1 = o.own ∧ 0 < f.2.2 ∧ f.2.2 ≤ o.am := by
  obtain ⟨o, ho, h1⟩ := fll_mem _ _ f hf
  have := (stab_perm (lt := lt) (B.os.filter g)).mem_iff.1 ho
  obtain ⟨h2, h3⟩ := List.mem_filter.1 this
  exact ⟨o, h2, h3, h1⟩
theorem crs_nn (h : BInv B) : 0 ≤ (crs B.os).2 := by
  have h1 := (crs_most h.may 0).1
  have h2 := trd_nn h.may 0
  unfold crs
  rw [jdg_book h]
  omega
theorem side_true (h : BInv B) (b : Bool) : sdS B.os b B.fl = (crs B.os).2 := by
  have hn := crs_nn h
  have hh := crs_hits h.may
  have e0 : (crs B.os) = B.os.foldl (crS B.os) (0, 0) := by unfold crs; rw [jdg_book h]
  rw [← e0] at hh
  unfold Bo.fl fills
  rw [jdg_book h, sdS_app]
  have a1 : ∀ o ∈ B.os, 1 ≤ o.am := fun o ho => may_am1 (h.may o ho)
  have k1 : ∀ (g : Od → Bool) (lt : Od → Od → Bool), totF (fll (stab lt (B.os.filter g)) (crs B.os).2) = min (amt (B.os.filter g)) (crs B.os).2 := fun g lt => by
    rw [fll_tot _ _ (fun o ho => a1 o (List.mem_filter.1 ((stab_perm (lt := lt) (B.os.filter g)).mem_iff.1 ho)).1) hn, amt_perm (stab_perm _)]
  have k2 : ∀ g : Od → Bool, 0 ≤ amt (B.os.filter g) := fun g => amt_nn _ (fun o ho => a1 o (List.mem_filter.1 ho).1)
  have kb := k2 (bAt (crs B.os).1)
  have ks := k2 (sAt (crs B.os).1)
  have ht : 0 < (crs B.os).2 → min (amt (B.os.filter (bAt (crs B.os).1))) (amt (B.os.filter (sAt (crs B.os).1))) = (crs B.os).2 := hh.1
  rw [sdS_side h b true _ (fun f hf => by
    obtain ⟨o, ho, hg, h1, _⟩ := fll_side _ _ _ hf
    exact ⟨o, ho, h1, by unfold bAt at hg; simp at hg; exact hg.1⟩), sdS_side h b false _ (fun f hf => by
    obtain ⟨o, ho, hg, h1, _⟩ := fll_side _ _ _ hf
    exact ⟨o, ho, h1, by unfold sAt at hg; simp at hg; exact hg.1⟩), k1, k1]
  generalize (crs B.os).2 = n at *
  generalize amt (B.os.filter (bAt (crs B.os).1)) = p at *
  generalize amt (B.os.filter (sAt (crs B.os).1)) = q at *
  cases b
  · simp only [Bool.true_eq_false, if_false, if_true]
    by_cases h0 : 0 < n
    · have := ht h0; omega
    · omega
  · simp only [Bool.false_eq_true, if_false, if_true]
    by_cases h0 : 0 < n
    · have := ht h0; omega
    · omega
/-- What a fill of an order keeps to. -/
theorem fl_of (h : BInv B) {f : Fi} (hf : f ∈ B.fl) {o : Od} (ho : o ∈ B.os) (e : f.1 = o.id) : 1 ≤ f.2.2 ∧ f.2.2 ≤ o.am ∧ f.2.1 = o.own ∧ (o.by = true → (crs B.os).1 ≤ o.pr) ∧ (o.by = false → o.pr ≤ (crs B.os).1) := by
  unfold Bo.fl fills at hf
  rw [jdg_book h] at hf
  rcases List.mem_append.1 hf with hf | hf
  · obtain ⟨q, hq, hg, h1, h2, h3, h4⟩ := fll_side _ _ _ hf
    obtain rfl := h.same hq ho (by rw [← h1, e])
    unfold bAt at hg
    simp only [Bool.and_eq_true, decide_eq_true_eq] at hg
    exact ⟨by omega, h4, h2, fun _ => hg.2, fun e => by rw [hg.1] at e; cases e⟩
  · obtain ⟨q, hq, hg, h1, h2, h3, h4⟩ := fll_side _ _ _ hf
    obtain rfl := h.same hq ho (by rw [← h1, e])
    unfold sAt at hg
    simp only [Bool.and_eq_true, Bool.not_eq_true', decide_eq_true_eq] at hg
    exact ⟨by omega, h4, h2, (fun e => by rw [hg.1] at e; cases e), fun _ => hg.2⟩
theorem fl_am (h : BInv B) {f : Fi} (hf : f ∈ B.fl) : 0 ≤ f.2.2 ∧ f.2.2 ≤ 1048576 := by
  obtain ⟨o, ho, h1, h2, h3, h4⟩ := fills_mem h hf
  have := h.may o ho
  unfold mayB at this
  simp only [Bool.and_eq_true, decide_eq_true_eq] at this
  omega
theorem got_snoc {l : List Fi} {k : Nat} {f : Fi} (hf : l[k]? = some f) (x : Int) : got (l.take (k + 1)) x = got (l.take k) x + (if f.1 = x then f.2.2 else 0) := by
  rw [List.take_add_one, hf, got_app]
  simp [got]
theorem clr_get (h : BInv B) {o : Od} (ho : o ∈ B.os) : (got B.fl o.id < o.am → gtB B.clr.os o.id = (o.setAm (o.am - got B.fl o.id), true)) ∧ (got B.fl o.id = o.am → gtB B.clr.os o.id = ((0, 0, 0, 0, 0, false), false)) := by
  refine ⟨fun hg => ?_, fun hg => ?_⟩
  · have hm : o.setAm (o.am - got B.fl o.id) ∈ B.clr.os := by
      rw [clr_os]
      refine List.mem_filter.2 ⟨List.mem_map.2 ⟨o, ho, rfl⟩, ?_⟩
      have h3 : (o.setAm (o.am - got B.fl o.id)).am = o.am - got B.fl o.id := rfl
      rw [h3]
      simp; omega
    rcases fnd_cases B.clr.os o.id with ⟨f1, f2⟩ | ⟨i, q, f1, f2, f3, f4⟩
    · exact absurd (show (o.setAm (o.am - got B.fl o.id)).id = o.id from rfl) (f2 (o.setAm (o.am - got B.fl o.id)) hm)
    · rw [gtB_some f1 f2 f3]
      rw [h.clr.same (List.mem_of_getElem? f2) hm f3]
  · refine gtB_none fun q hq0 e => ?_
    rw [clr_os] at hq0
    obtain ⟨h1, h2⟩ := List.mem_filter.1 hq0
    obtain ⟨q, hq, rfl⟩ := List.mem_map.1 h1
    have e' : q.id = o.id := e
    obtain rfl := h.same hq ho e'
    have h3 : (q.setAm (q.am - got B.fl q.id)).am = q.am - got B.fl q.id := rfl
    rw [h3, hg] at h2
    simp at h2
theorem clr_len (B : Bo) : B.clr.os.length ≤ B.os.length := by
  rw [clr_os]
  refine Nat.le_trans (List.length_filter_le _ _) ?_
  rw [List.length_map]
  exact Nat.le_refl _
end Go.Proofs.Ytfeaifbeabmkhaa
