/- What is prepared or committed stays so: the log's side alone. -/
import Derived.Test.YtjpmnmgnbpecjaaVlWd
namespace Go.Proofs.Ytjpmnmgnbpecjaa
set_option linter.unusedSimpArgs false
set_option linter.unusedVariables false

theorem filterMap_le {α : Type} {f g : Nat → Option α} (h : ∀ i, (f i).isSome = true → (g i).isSome = true) : ∀ l : List Nat, (l.filterMap f).length ≤ (l.filterMap g).length
  | [] => by simp
  | x :: l => by
    have ih := filterMap_le h l
    rw [List.filterMap_cons, List.filterMap_cons]
    cases hf : f x with
    | none =>
      cases hg : g x with
      | none => exact ih
      | some b => simp only [List.length_cons]; omega
    | some a =>
      have := h x (by rw [hf]; rfl)
      cases hg : g x with
      | none => rw [hg] at this; cases this
      | some b => simp only [List.length_cons]; omega
theorem alk_put {n : Nat} {l : Vts} {k : Int} (hk : vget l k = none) (v : Vt) (c : Int × ByteArray) : (alk n l c).length ≤ (alk n (vput l k v) c).length := by
  unfold alk
  refine filterMap_le (fun i hi => ?_) _
  unfold agr at hi ⊢
  by_cases e : (i : Int) = k
  · rw [e, hk] at hi; cases hi
  · rw [vget_put_other l k i v e]; exact hi
theorem qrm_some (n : Nat) (l : Vts) (c : Int × ByteArray) : (qrm n l c).isSome = true ↔ quo n ≤ (alk n l c).length := by
  unfold qrm
  split
  · constructor
    · intro h; cases h
    · intro h; omega
  · constructor
    · intro _; omega
    · intro _; rfl
theorem qrm_put {n : Nat} {l : Vts} {k : Int} (hk : vget l k = none) (v : Vt) (c : Int × ByteArray) (h : (qrm n l c).isSome = true) : (qrm n (vput l k v) c).isSome = true := by
  rw [qrm_some] at h ⊢
  exact Nat.le_trans h (alk_put hk v c)
theorem prove_core (n : Nat) (vw : Int) (s : Slot) : (s.prove n vw).ps = s.ps ∧ (s.prove n vw).pd = s.pd ∧ (s.prove n vw).ba = s.ba ∧ (s.prove n vw).pr = s.pr ∧ (s.prove n vw).co = s.co := by
  unfold Slot.prove
  split <;> exact ⟨rfl, rfl, rfl, rfl, rfl⟩
theorem prove_prep (n : Nat) (vw : Int) (s : Slot) : (s.prove n vw).prep n = s.prep n := by
  obtain ⟨h1, h2, _, h3, _⟩ := prove_core n vw s
  unfold Slot.prep
  rw [h1, h2, h3]
theorem prove_comm (n : Nat) (vw : Int) (s : Slot) : (s.prove n vw).comm n = s.comm n := by
  obtain ⟨h1, h2, _, _, h3⟩ := prove_core n vw s
  unfold Slot.comm
  rw [prove_prep, h1, h2, h3]
/-- All that is prepared or committed in the one is so in the other. -/
def Kpp (L L' : Lv) : Prop := L'.lo = L.lo ∧ L'.n = L.n ∧ ∀ k, ((L.sl k).prep L.n = true → (L'.sl k).prep L.n = true) ∧ ((L.sl k).comm L.n = true → (L'.sl k).comm L.n = true)
theorem Kpp.refl (L : Lv) : Kpp L L := ⟨rfl, rfl, fun _ => ⟨id, id⟩⟩
theorem Kpp.trans {A B C : Lv} (h : Kpp A B) (g : Kpp B C) : Kpp A C := by
  obtain ⟨h1, h2, h3⟩ := h
  obtain ⟨g1, g2, g3⟩ := g
  refine ⟨g1.trans h1, g2.trans h2, fun k => ⟨fun x => ?_, fun x => ?_⟩⟩
  · have := (g3 k).1; rw [h2] at this; exact this ((h3 k).1 x)
  · have := (g3 k).2; rw [h2] at this; exact this ((h3 k).2 x)
theorem Kpp.set (L : Lv) (k : Nat) (s : Slot) (h1 : (L.sl k).prep L.n = true → s.prep L.n = true) (h2 : (L.sl k).comm L.n = true → s.comm L.n = true) : Kpp L (L.set k s) :=
  ⟨rfl, rfl, fun j => by
    unfold Lv.set
    simp only
    split
    · rename_i e; subst e; exact ⟨h1, h2⟩
    · exact ⟨id, id⟩⟩
theorem comm_prep {n : Nat} {s : Slot} (h : s.comm n = true) : s.prep n = true := by
  unfold Slot.comm at h
  rw [Bool.and_eq_true] at h
  exact h.1
theorem prep_pd {n : Nat} {s : Slot} (h : s.prep n = true) : ¬ s.pd = ⟨#[]⟩ := by
  unfold Slot.prep at h
  rw [Bool.and_eq_true] at h
  simpa using h.1
theorem propose_kpp (L : Lv) (vw q : Int) (d b : ByteArray) : Kpp L (L.propose vw q d b).1 := by
  unfold Lv.propose
  split
  · exact Kpp.refl L
  · split
    · exact Kpp.refl L
    · split
      · exact Kpp.refl L
      · split
        · exact Kpp.refl L
        · rename_i h
          refine Kpp.set L _ _ (fun x => absurd (prep_pd x) h) (fun x => absurd (prep_pd (comm_prep x)) h)
theorem put_prep {n : Nat} {s : Slot} {kd k : Int} (hk : vget (s.vts kd) k = none) (v : Vt) : (s.prep n = true → (s.put kd k v).prep n = true) ∧ (s.comm n = true → (s.put kd k v).comm n = true) := by
  unfold Slot.vts at hk
  unfold Slot.put
  by_cases e : kd = 3
  · rw [if_pos e] at hk ⊢
    have h1 : s.prep n = true → Slot.prep n { s with pr := vput s.pr k v } = true := fun x => by
      unfold Slot.prep at x ⊢
      rw [Bool.and_eq_true] at x ⊢
      exact ⟨x.1, qrm_put hk v _ x.2⟩
    refine ⟨h1, fun x => ?_⟩
    unfold Slot.comm at x ⊢
    rw [Bool.and_eq_true] at x ⊢
    exact ⟨h1 x.1, x.2⟩
  · rw [if_neg e] at hk ⊢
    refine ⟨fun x => x, fun x => ?_⟩
    unfold Slot.comm at x ⊢
    rw [Bool.and_eq_true] at x ⊢
    exact ⟨x.1, qrm_put hk v _ x.2⟩
theorem vote_kpp (L : Lv) (m : Sgn) (kd vw q : Int) (d : ByteArray) : Kpp L (L.vote m kd vw q d).1 := by
  unfold Lv.vote
  split
  · exact Kpp.refl L
  · split
    · exact Kpp.refl L
    · split
      · split <;> exact Kpp.refl L
      · rename_i hk
        obtain ⟨h1, h2⟩ := put_prep (n := L.n) hk (q, d, m)
        refine Kpp.set L _ _ (fun x => ?_) (fun x => ?_)
        · rw [prove_prep]; exact h1 x
        · rw [prove_comm]; exact h2 x
theorem check_kpp (L : Lv) (m : Sgn) (kd q : Int) (d : ByteArray) : Kpp L (L.check m kd q d).1 := by
  unfold Lv.check
  repeat' split
  all_goals exact ⟨rfl, rfl, fun _ => ⟨id, id⟩⟩
theorem act_kpp (L : Lv) (a : Ac) (h0 : ¬ arn a.kind 6 = 0) (h5 : ¬ arn a.kind 6 = 5) : Kpp L (L.act a).1 := by
  obtain ⟨h1, h2⟩ := arn_ok a.kind 6 (by decide)
  unfold Lv.act
  rw [if_neg h0]
  split
  · exact propose_kpp _ _ _ _ _
  · split
    · exact vote_kpp _ _ _ _ _ _
    · split
      · exact vote_kpp _ _ _ _ _ _
      · split
        · exact check_kpp _ _ _ _ _
        · omega
/-- Acts that neither enter a view nor cut. -/
def Lv.mild (L : Lv) (a : Ac) : Lv := if arn a.kind 6 = 0 ∨ arn a.kind 6 = 5 then L else (L.act a).1
theorem mild_kpp (L : Lv) (a : Ac) : Kpp L (L.mild a) := by
  unfold Lv.mild
  split
  · exact Kpp.refl L
  · rename_i h; exact act_kpp L a (fun e => h (Or.inl e)) (fun e => h (Or.inr e))
/-- What is told of a number. -/
def Lv.prepAt (L : Lv) (q : Int) : Bool := L.wi q && (L.sl (pla q)).prep L.n
def Lv.commAt (L : Lv) (q : Int) : Bool := L.wi q && (L.sl (pla q)).comm L.n
theorem Kpp.prepAt {L L' : Lv} (h : Kpp L L') (q : Int) (hq : L.prepAt q = true) : L'.prepAt q = true := by
  obtain ⟨h1, h2, h3⟩ := h
  unfold Lv.prepAt Lv.wi at *
  rw [h1, h2]
  rw [Bool.and_eq_true] at hq ⊢
  exact ⟨hq.1, (h3 _).1 hq.2⟩
theorem Kpp.commAt {L L' : Lv} (h : Kpp L L') (q : Int) (hq : L.commAt q = true) : L'.commAt q = true := by
  obtain ⟨h1, h2, h3⟩ := h
  unfold Lv.commAt Lv.wi at *
  rw [h1, h2]
  rw [Bool.and_eq_true] at hq ⊢
  exact ⟨hq.1, (h3 _).2 hq.2⟩
theorem comm_prepAt {L : Lv} {q : Int} (hq : L.commAt q = true) : L.prepAt q = true := by
  unfold Lv.commAt at hq
  unfold Lv.prepAt
  rw [Bool.and_eq_true] at hq ⊢
  exact ⟨hq.1, comm_prep hq.2⟩
end Go.Proofs.Ytjpmnmgnbpecjaa
