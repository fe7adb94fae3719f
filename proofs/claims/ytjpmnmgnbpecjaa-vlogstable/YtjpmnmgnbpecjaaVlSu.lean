/- Checkpoints as they are counted; what Stable tells against it. No walk. -/
import Derived.Test.YtjpmnmgnbpecjaaVlSt
namespace Go.Proofs.Ytjpmnmgnbpecjaa
open Go.Shelf Go.RowKit Go.Lib Go.Sort
set_option linter.unusedSimpArgs false
set_option linter.unusedVariables false
def hit (l : Vts) (k j : Nat) : Bool := decide (0 < lastSeq l k) && (decide (lastSeq l j = lastSeq l k) && decide (lastDig l j = lastDig l k))
def cntS (l : Vts) (k : Nat) : Nat → Nat
  | 0 => 0
  | j + 1 => cntS l k j + (if hit l k j = true then 1 else 0)
def nct (l : Vts) : Nat → Nat
  | 0 => 0
  | k + 1 => nct l k + (if 5 ≤ cntS l k 7 then 1 else 0)
theorem cntS_le (l : Vts) (k : Nat) : ∀ j, cntS l k j ≤ j
  | 0 => Nat.le_refl _
  | j + 1 => by have := cntS_le l k j; unfold cntS; split <;> omega
theorem nct_le (l : Vts) : ∀ k, nct l k ≤ k
  | 0 => Nat.le_refl _
  | k + 1 => by have := nct_le l k; unfold nct; split <;> omega
theorem cntS_none {l : Vts} {k : Nat} (h : ¬ 0 < lastSeq l k) : ∀ j, cntS l k j = 0
  | 0 => rfl
  | j + 1 => by unfold cntS; rw [cntS_none h j]; simp [hit, h]
theorem cntS_alk {l : Vts} {k : Nat} (h : 0 < lastSeq l k) : ∀ j, cntS l k j = (((List.range j).filterMap (agr l (lastSeq l k, lastDig l k))).length)
  | 0 => rfl
  | j + 1 => by
    unfold cntS
    rw [cntS_alk h j, List.range_succ, List.filterMap_append, List.length_append]
    congr 1
    have e : hit l k j = (agr l (lastSeq l k, lastDig l k) j).isSome := by
      unfold hit agr says
      rw [decide_eq_true h, Bool.true_and]
      have h1 : lastSeq l (j : Int) = match vget l (j : Int) with | some v => v.1 | none => 0 := rfl
      have h2 : lastDig l (j : Int) = match vget l (j : Int) with | some v => v.2.1 | none => ⟨#[]⟩ := rfl
      rw [h1, h2]
      cases hv : vget l (j : Int) with
      | none =>
        simp only
        rw [decide_eq_false (by omega)]
        rfl
      | some v =>
        simp only
        by_cases q1 : v.1 = lastSeq l (k : Int)
        · by_cases q2 : v.2.1 = lastDig l (k : Int)
          · simp [q1, q2]
          · simp [q1, q2]
        · simp [q1]
    rw [e]
    cases hf : agr l (lastSeq l k, lastDig l k) j with
    | none => simp [hf]
    | some m => simp [hf]
theorem disj_len {f g : Nat → Option Sgn} (h : ∀ i, (f i).isSome = true → (g i).isSome = true → False) : ∀ l : List Nat, (l.filterMap f).length + (l.filterMap g).length ≤ l.length
  | [] => by simp
  | x :: l => by
    have ih := disj_len h l
    rw [List.filterMap_cons, List.filterMap_cons]
    cases hf : f x with
    | none =>
      cases hg : g x with
      | none => simp only [List.length_cons]; omega
      | some b => simp only [List.length_cons]; omega
    | some a =>
      cases hg : g x with
      | none => simp only [List.length_cons]; omega
      | some b => exact (h x (by rw [hf]; rfl) (by rw [hg]; rfl)).elim
/-- Two claims on which five of seven agree are one. -/
theorem two_five {l : Vts} {c d : Int × ByteArray} (h1 : 5 ≤ (alk 7 l c).length) (h2 : 5 ≤ (alk 7 l d).length) : c = d := by
  apply Decidable.byContradiction
  intro hne
  have := disj_len (f := agr l c) (g := agr l d) (fun i a b => by
    unfold agr at a b
    cases hv : vget l (i : Int) with
    | none => rw [hv] at a; cases a
    | some v =>
      rw [hv] at a b
      simp only at a b
      by_cases s1 : says c v = true
      · by_cases s2 : says d v = true
        · unfold says at s1 s2
          simp only [Bool.and_eq_true, decide_eq_true_eq] at s1 s2
          exact hne (Prod.ext (s1.1.symm.trans s2.1) (s1.2.symm.trans s2.2))
        · rw [if_neg s2] at b; cases b
      · rw [if_neg s1] at a; cases a) (List.range 7)
  unfold alk at h1 h2
  simp at this
  omega
theorem nct_pos {l : Vts} : ∀ {K k : Nat}, k < K → 5 ≤ cntS l k 7 → 0 < nct l K
  | 0, k, h, _ => by omega
  | K + 1, k, h, h5 => by
    unfold nct
    by_cases e : k = K
    · subst e; rw [if_pos h5]; omega
    · have := nct_pos (l := l) (K := K) (k := k) (by omega) h5
      omega
theorem nct_zero {l : Vts} : ∀ {K : Nat}, (∀ k, k < K → ¬ 5 ≤ cntS l k 7) → nct l K = 0
  | 0, _ => rfl
  | K + 1, h => by
    unfold nct
    rw [if_neg (h K (by omega)), nct_zero (fun k hk => h k (by omega))]
theorem last_of {l : Vts} {k : Int} {v : Vt} (h : vget l k = some v) : lastSeq l k = v.1 ∧ lastDig l k = v.2.1 := by
  unfold lastSeq lastDig
  rw [h]
  exact ⟨rfl, rfl⟩
theorem stb_pure {w : World} {L : Lv} {s : Int} {r : ByteArray} {v : Value} (h : StbV w L s r v) (hn : L.n = 7) (hlo : L.lo = 0) (hv : VOk 7 L.ck) : (∀ k : Nat, k < 7 → 5 ≤ cntS L.ck k 7 → lastSeq L.ck k = s ∧ lastDig L.ck k = r) ∧ (nct L.ck 7 = 0 ↔ s = 0) ∧ ∃ ll, Sgr w 0 v ll ∧ ll.Pairwise (fun x y => x.1 < y.1) ∧ (ll.length = 0 ∧ s = 0 ∨ ll.length = 5 ∧ ¬ s = 0) := by
  have hq : quo 7 = 5 := rfl
  rcases h with ⟨h1, h2, h3, h4⟩ | ⟨x, ⟨hx, hx2, hx3⟩, h2, h3, h4⟩
  · have hno : ∀ k : Nat, k < 7 → ¬ 5 ≤ cntS L.ck k 7 := fun k hk h5 => by
      by_cases hp : 0 < lastSeq L.ck k
      · rw [cntS_alk hp] at h5
        cases hg : vget L.ck (k : Int) with
        | none => unfold lastSeq at hp; rw [hg] at hp; exact absurd hp (by decide)
        | some u =>
          obtain ⟨e1, e2⟩ := last_of hg
          refine h4 ((k : Int), u) ⟨vget_mem hg, by rw [hlo, ← e1]; exact hp, ?_⟩
          rw [hn, qrm_some, hq, ← e1, ← e2]
          exact h5
      · rw [cntS_none hp] at h5; omega
    refine ⟨fun k hk h5 => absurd h5 (hno k hk), ⟨fun _ => h1, fun _ => nct_zero hno⟩, [], ?_, List.Pairwise.nil, Or.inl ⟨rfl, h1⟩⟩
    exact Or.inl ⟨h3, rfl⟩
  · rw [hn] at h4 hx3
    rw [qrm_some, hq] at hx3
    rw [hlo] at hx2
    obtain ⟨k0, k1, _⟩ := hv.2 x hx
    have hg : vget L.ck ((x.1.toNat : Nat) : Int) = some x.2 := by rw [show ((x.1.toNat : Nat) : Int) = x.1 by omega]; exact vget_of_mem hv.1 hx
    obtain ⟨e1, e2⟩ := last_of hg
    have h5 : 5 ≤ cntS L.ck x.1.toNat 7 := by rw [cntS_alk (by rw [e1]; exact hx2), e1, e2]; exact hx3
    have hpos := nct_pos (l := L.ck) (K := 7) (k := x.1.toNat) (by omega) h5
    refine ⟨fun k hk h6 => ?_, ⟨fun e => by omega, fun e => by omega⟩, _, h4, (alk_rises hv).sublist (List.take_sublist _ _), Or.inr ⟨by rw [List.length_take, hq]; omega, by omega⟩⟩
    by_cases hp : 0 < lastSeq L.ck k
    · rw [cntS_alk hp] at h6
      have := two_five h6 hx3
      injection this with q1 q2
      exact ⟨by rw [q1, h2], by rw [q2, h3]⟩
    · rw [cntS_none hp] at h6; omega
theorem last_put (l : Vts) (m k : Int) (v : Vt) : lastSeq (vput l m v) k = (if k = m then v.1 else lastSeq l k) ∧ lastDig (vput l m v) k = (if k = m then v.2.1 else lastDig l k) := by
  unfold lastSeq lastDig
  by_cases e : k = m
  · subst e; rw [vget_put_same, if_pos rfl, if_pos rfl]; exact ⟨rfl, rfl⟩
  · rw [vget_put_other l m k v e, if_neg e, if_neg e]; exact ⟨rfl, rfl⟩
theorem check_cases (L : Lv) (m : Sgn) (q : Int) (d : ByteArray) : (L.check m 5 q d = ({ L with ck := vput L.ck m.1 (q, d, m) }, 0) ∧ 0 ≤ m.1 ∧ m.1 < L.n) ∨ ∃ e, L.check m 5 q d = (L, e) ∧ ¬ e = 0 := by
  unfold Lv.check
  split
  · exact Or.inr ⟨1, rfl, by decide⟩
  · rename_i g
    have hm : 0 ≤ m.1 ∧ m.1 < L.n := Decidable.byContradiction fun e => g (Or.inl e)
    split
    · exact Or.inr ⟨100, rfl, by decide⟩
    · split
      · exact Or.inr ⟨102, rfl, by decide⟩
      · split
        · exact Or.inr ⟨101, rfl, by decide⟩
        · exact Or.inl ⟨rfl, hm⟩
/-- The numbers and digests that were noted, in two rows. -/
def SR (w : World) (sb : Nat) (l : Vts) : Prop := ∃ cs ds, Blk w sb cs 52 ∧ Blk w (sb + 1) ds 53 ∧ cs.size = 7 ∧ ds.size = 7 ∧ ∀ k : Nat, k < 7 → cs[k]? = some (.int .i64 (lastSeq l k)) ∧ ds[k]? = some (.string (lastDig l k))
theorem SR.keep {w w' : World} {sb : Nat} {l : Vts} (h : SR w sb l) (h1 : w'.heap[sb]? = w.heap[sb]?) (h2 : w'.heap[sb + 1]? = w.heap[sb + 1]?) : SR w' sb l := by
  obtain ⟨cs, ds, X, Y, h3⟩ := h
  exact ⟨cs, ds, h1.trans X, h2.trans Y, h3⟩
theorem SR.lt {w : World} {sb : Nat} {l : Vts} (h : SR w sb l) : sb + 1 < w.heap.size := by
  obtain ⟨cs, ds, X, Y, h3⟩ := h
  exact Y.lt
theorem SR.below {w w' : World} {sb : Nat} {l : Vts} (h : SR w sb l) (hb : Below w.heap.size w w') : SR w' sb l := h.keep (hb.block _ (by have := h.lt; omega)) (hb.block _ h.lt)
theorem SR.stp {w w' : World} {p sb : Nat} {mp mp' : Nat → Option Nat} {M : Lv} {l : Vts} (h : SR w sb l) (hs : Stp p mp w mp' w') (hl : Lg w p mp M) (hp : p < sb) : SR w' sb l := by
  obtain ⟨cs, ds, X, Y, h3⟩ := h
  exact ⟨cs, ds, hs.keep hl X (by omega), hs.keep hl Y (by omega), h3⟩
theorem SR.note {w : World} {sb : Nat} {l : Vts} (h : SR w sb l) {k : Nat} (hk : k < 7) (q : Int) (d : ByteArray) (m : Sgn) : SR ((w.setCell ⟨sb, k, none⟩ (.int .i64 q)).setCell ⟨sb + 1, k, none⟩ (.string d)) sb (vput l (k : Int) (q, d, m)) := by
  obtain ⟨cs, ds, X, Y, h1, h2, h3⟩ := h
  refine ⟨_, _, (heap_setCell_other _ _ _ _ (by show sb ≠ sb + 1; omega)).trans (X.set k (.int .i64 q)), Blk.set (show Blk (w.setCell ⟨sb, k, none⟩ (.int .i64 q)) (sb + 1) ds _ from (heap_setCell_other _ _ _ _ (by show sb + 1 ≠ sb; omega)).trans Y) k (.string d), by simpa using h1, by simpa using h2, fun j hj => ?_⟩
  obtain ⟨e1, e2⟩ := last_put l (k : Int) (j : Int) (q, d, m)
  rw [e1, e2, set_at _ (by omega), set_at _ (by omega)]
  by_cases e : j = k
  · subst e; rw [if_pos rfl, if_pos rfl, if_pos rfl, if_pos rfl]; exact ⟨rfl, rfl⟩
  · rw [if_neg e, if_neg e, if_neg (by omega), if_neg (by omega)]
    exact h3 j hj
theorem SR.cells {w : World} {sb : Nat} {l : Vts} (h : SR w sb l) {k : Nat} (hk : k < 7) : w.cell? ⟨sb, k, none⟩ = some (.int .i64 (lastSeq l k)) ∧ w.cell? ⟨sb + 1, k, none⟩ = some (.string (lastDig l k)) := by
  obtain ⟨cs, ds, X, Y, h1, h2, h3⟩ := h
  exact ⟨X.cell (h3 k hk).1, Y.cell (h3 k hk).2⟩
end Go.Proofs.Ytjpmnmgnbpecjaa
