/- What stays true of every slot of a log; the kept proofs by places. No walk. -/
import Derived.Test.YtjpmnmgnbpecjaaVlSa
namespace Go.Proofs.Ytjpmnmgnbpecjaa
set_option linter.unusedSimpArgs false
set_option linter.unusedVariables false

/-- What is true of a slot at a number z, in a log of n and a view; bodies are such as S allows. -/
structure SInv (S : ByteArray → Prop) (n : Nat) (vw z : Int) (s : Slot) : Prop where
  ps : ¬ s.pd = ⟨#[]⟩ → s.ps = z
  pf : 0 < s.fs → s.fs = z ∧ s.fk = 11 ∧ s.fv ≤ vw ∧ ¬ s.fd = ⟨#[]⟩ ∧ s.fl.length = quo n ∧ s.fl.Pairwise (fun x y => x.1 < y.1) ∧ ∀ m ∈ s.fl, 0 ≤ m.1 ∧ m.1 < n ∧ S m.2.1
  fr : ∀ x ∈ s.pr, S x.2.2.2.2.1
  ok : VOk n s.pr
def KInv (S : ByteArray → Prop) (L : Lv) : Prop := ∀ k, k < 8 → SInv S L.n L.vw (L.num k) (L.sl k)
theorem SInv.none (S : ByteArray → Prop) (n : Nat) (vw z : Int) : SInv S n vw z noSlot :=
  ⟨fun h => absurd rfl h, fun h => absurd h (by decide), fun x hx => (by cases hx), VOk.nil n⟩
theorem KInv.new (S : ByteArray → Prop) (n : Nat) : KInv S (Lv.new n) := fun k _ => SInv.none S n 0 _
theorem num_pla {L : Lv} {q : Int} (h : L.wi q = true) : L.num (pla q) = q := by
  unfold Lv.wi at h
  rw [Bool.and_eq_true, decide_eq_true_eq, decide_eq_true_eq] at h
  unfold Lv.num pla
  omega
theorem num_in (L : Lv) {k : Nat} (hk : k < 8) : L.lo < L.num k ∧ L.num k ≤ L.lo + 8 ∧ pla (L.num k) = k := by
  unfold Lv.num pla
  omega
theorem SInv.prove {S : ByteArray → Prop} {n : Nat} {vw z : Int} {s : Slot} (h : SInv S n vw z s) : SInv S n vw z (s.prove n vw) := by
  unfold Slot.prove
  split
  · exact h
  · rename_i hc
    have hp : s.prep n = true := by
      cases e : s.prep n with
      | true => rfl
      | false => exact absurd (Or.inr e) hc
    have hpd := prep_pd hp
    have hq : quo n ≤ (alk n s.pr (s.ps, s.pd)).length := by
      unfold Slot.prep at hp
      rw [Bool.and_eq_true] at hp
      exact (qrm_some _ _ _).1 hp.2
    refine ⟨h.ps, fun _ => ⟨h.ps hpd, rfl, Int.le_refl _, hpd, ?_, ?_, fun m hm => ?_⟩, h.fr, h.ok⟩
    · show ((alk n s.pr (s.ps, s.pd)).take (quo n)).length = quo n
      rw [List.length_take]; omega
    · exact (alk_rises h.ok).sublist (List.take_sublist _ _)
    · have hm2 := List.mem_of_mem_take hm
      have hf := alk_from h.ok m hm2
      obtain ⟨x, hx, _, e⟩ := (mem_alk h.ok m).1 hm2
      exact ⟨hf.1, hf.2, by rw [← e]; exact h.fr x hx⟩
theorem KInv.set {S : ByteArray → Prop} {L : Lv} (h : KInv S L) {j : Nat} {s : Slot} (hs : SInv S L.n L.vw (L.num j) s) : KInv S (L.set j s) := fun k hk => by
  show SInv S L.n L.vw (L.num k) (if k = j then s else L.sl k)
  split
  · rename_i e; subst e; exact hs
  · exact h k hk
theorem propose_kinv {S : ByteArray → Prop} {L : Lv} (h : KInv S L) (vw q : Int) (d b : ByteArray) : KInv S (L.propose vw q d b).1 := by
  unfold Lv.propose
  split
  · exact h
  · split
    · exact h
    · rename_i hw
      split
      · exact h
      · split
        · exact h
        · have hq : L.wi q = true := by
            cases e : L.wi q with
            | true => rfl
            | false => exact absurd (Or.inl e) hw
          have hk := h (pla q) (pla_lt q)
          refine h.set (SInv.prove ⟨fun _ => (num_pla hq).symm, hk.pf, hk.fr, hk.ok⟩)
theorem vote_kinv {S : ByteArray → Prop} {L : Lv} (h : KInv S L) (m : Sgn) (hm : S m.2.1) (kd vw q : Int) (d : ByteArray) : KInv S (L.vote m kd vw q d).1 := by
  unfold Lv.vote
  split
  · exact h
  · rename_i g0
    have hf : 0 ≤ m.1 ∧ m.1 < L.n := Decidable.byContradiction fun e => g0 (Or.inl e)
    split
    · exact h
    · split
      · split <;> exact h
      · have hk := h (pla q) (pla_lt q)
        refine h.set (SInv.prove ?_)
        unfold Slot.put
        split
        · refine ⟨hk.ps, hk.pf, fun x hx => ?_, hk.ok.put hf.1 hf.2 rfl⟩
          rcases vput_keys _ _ _ x hx with rfl | hx
          · exact hm
          · exact hk.fr x hx
        · exact ⟨hk.ps, hk.pf, hk.fr, hk.ok⟩
theorem check_kinv {S : ByteArray → Prop} {L : Lv} (h : KInv S L) (m : Sgn) (kd q : Int) (d : ByteArray) : KInv S (L.check m kd q d).1 := by
  unfold Lv.check
  repeat' split
  all_goals exact h
theorem enter_kinv {S : ByteArray → Prop} {L : Lv} (h : KInv S L) (v : Int) : KInv S (L.enter v).1 := by
  unfold Lv.enter
  split
  · exact h
  · rename_i hv
    intro k hk
    have hs := h k hk
    refine ⟨fun e => absurd rfl e, fun e => ?_, fun x hx => (by cases hx), VOk.nil _⟩
    obtain ⟨a, b, c, d⟩ := hs.pf e
    exact ⟨a, b, by show (L.sl k).fv ≤ v; omega, d⟩
theorem num_cut (L : Lv) {q : Int} (hq : L.lo < q) {k : Nat} (hk : k < 8) (h : ¬ L.num k ≤ q) : Lv.num { L with lo := q, sl := fun j => if L.num j ≤ q then noSlot else L.sl j } k = L.num k := by
  unfold Lv.num at *
  simp only
  omega
theorem cut_kinv {S : ByteArray → Prop} {L : Lv} (h : KInv S L) (q : Int) : KInv S (L.cut q).1 := by
  unfold Lv.cut
  split
  · exact h
  · rename_i hc
    intro k hk
    by_cases e : L.num k ≤ q
    · show SInv S L.n L.vw _ (if L.num k ≤ q then noSlot else L.sl k)
      rw [if_pos e]
      exact SInv.none S _ _ _
    · have hn := num_cut L (q := q) (by omega) hk e
      have hs := h k hk
      show SInv S L.n L.vw _ (if L.num k ≤ q then noSlot else L.sl k)
      rw [if_neg e, hn]
      exact hs
theorem act_kinv {S : ByteArray → Prop} {L : Lv} (h : KInv S L) (a : Ac) (ha : S a.tx) : KInv S (L.act a).1 := by
  unfold Lv.act
  split
  · exact enter_kinv h _
  · split
    · exact propose_kinv h _ _ _ _
    · split
      · exact vote_kinv h _ ha _ _ _ _
      · split
        · exact vote_kinv h _ ha _ _ _ _
        · split
          · exact check_kinv h _ _ _ _
          · exact cut_kinv h _
theorem runs_kinv {S : ByteArray → Prop} (l : List Ac) : ∀ (L : Lv), KInv S L → (∀ a ∈ l, S a.tx) → KInv S (runs L l) := by
  induction l with
  | nil => intro L h _; exact h
  | cons a l ih =>
    intro L h ha
    exact ih _ (act_kinv h a (ha a List.mem_cons_self)) (fun x hx => ha x (List.mem_cons_of_mem _ hx))

/-- The places by rising numbers are all places. -/
theorem places_perm (L : Lv) : ((List.range 8).map fun (i : Nat) => pla (L.lo + 1 + (i : Int))).Perm (List.range 8) := by
  have e : ∀ i ∈ List.range 8, pla (L.lo + 1 + (i : Int)) = (pla (L.lo + 1) + i) % 8 := by
    intro i hi
    have : i < 8 := by simpa using hi
    unfold pla
    omega
  rw [List.map_congr_left e]
  have h8 := pla_lt (L.lo + 1)
  generalize pla (L.lo + 1) = r at *
  have : ∀ r, r < 8 → ((List.range 8).map fun i => (r + i) % 8).Perm (List.range 8) := by decide
  exact this r h8
theorem kept_len (L : Lv) (P : Slot → Bool) : (L.kept.filter P).length = ((List.range 8).filter fun j => decide (0 < (L.sl j).fs) && P (L.sl j)).length := by
  have h := ((places_perm L).map L.sl).filter (fun s => decide (0 < s.fs) && P s)
  have h2 := h.length_eq
  rw [List.map_map] at h2
  have e1 : L.kept.filter P = ((List.range 8).map (L.sl ∘ fun (i : Nat) => pla (L.lo + 1 + (i : Int)))).filter (fun s => decide (0 < s.fs) && P s) := by
    unfold Lv.kept
    rw [List.filter_filter]
    congr 1
    funext s
    rw [Bool.and_comm]
  rw [e1, h2, List.filter_map, List.length_map]
  rfl
/-- As many are kept behind a cut as stood above it. -/
theorem cut_kept {S : ByteArray → Prop} {L : Lv} (h : KInv S L) {q : Int} (h1 : L.lo < q) (h2 : q ≤ 1073741824) (h3 : q % 4 = 0) : (L.cut q).1.kept.length = (L.kept.filter fun s => decide (q < s.fs)).length := by
  have e0 : (L.cut q).1.kept = (L.cut q).1.kept.filter (fun _ => true) := (List.filter_eq_self.2 fun _ _ => rfl).symm
  rw [e0, kept_len, kept_len]
  congr 1
  refine List.filter_congr fun j hj => ?_
  have hj8 : j < 8 := by simpa using hj
  have hs := h j hj8
  have e : ((L.cut q).1.sl j) = if L.num j ≤ q then noSlot else L.sl j := by
    unfold Lv.cut
    rw [if_neg (by omega)]
  rw [e, Bool.and_true]
  by_cases hc : L.num j ≤ q
  · rw [if_pos hc]
    by_cases hf : 0 < (L.sl j).fs
    · have := (hs.pf hf).1
      have : ¬ q < (L.sl j).fs := by omega
      simp [noSlot, this]
    · simp [noSlot, hf]
  · rw [if_neg hc]
    by_cases hf : 0 < (L.sl j).fs
    · have := (hs.pf hf).1
      have : q < (L.sl j).fs := by omega
      simp [hf, this]
    · simp [hf]
end Go.Proofs.Ytjpmnmgnbpecjaa
