/- Proofs as plain functions on bytes. -/
import Derived.Test.YtocphdikppeijaaWx46
import Derived.Test.YtocphdikppeijaaWx25
namespace Go.Proofs.Ytocphdikppeijaa
open Go.RowKit
set_option linter.unusedVariables false
set_option linter.unusedSimpArgs false

def rdSides (s : ByteArray) (a : Nat) : Except Int (List ByteArray × Nat) := rdCnt s (rdText s) a 13
def rdPt (s : ByteArray) (a : Nat) : Except Int (Pt × Nat) :=
  match rdInt s a with
  | .error e => .error e
  | .ok (n, a1) =>
    match rdText s a1 with
    | .error e => .error e
    | .ok (k, a2) =>
      match rdText s a2 with
      | .error e => .error e
      | .ok (v, a3) =>
        match rdSides s a3 with
        | .error e => .error e
        | .ok (l, a4) => .ok (⟨n, k, v, l⟩, a4)
def rdPts (s : ByteArray) (a : Nat) : Except Int (List Pt × Nat) := rdCnt s (rdPt s) a 2
def rdPf (s : ByteArray) (a : Nat) : Except Int (Pf × Nat) :=
  match rdInt s a with
  | .error e => .error e
  | .ok (n, a1) =>
    match rdPts s a1 with
    | .error e => .error e
    | .ok (l, a2) => .ok (⟨n, l⟩, a2)
def ofPfR (s : ByteArray) : Except Int Pf :=
  if 1048576 < s.size then .error 4
  else match rdPf s 0 with
    | .error e => .error e
    | .ok (p, nx) => if nx < s.size then .error 12 else if pfOk p = true then .ok p else .error 14

def okSide (t : ByteArray) : Prop := t.size ≤ 1048576
structure okPt (x : Pt) : Prop where
  i : 0 ≤ x.idx ∧ x.idx ≤ 9007199254740992
  k : x.key.size ≤ 1048576
  v : x.dat.size ≤ 1048576
  n : x.sides.length ≤ 13
  s : ∀ t ∈ x.sides, okSide t
structure okPf (p : Pf) : Prop where
  c : 0 ≤ p.cnt ∧ p.cnt ≤ 9007199254740992
  n : p.paths.length ≤ 2
  l : ∀ x ∈ p.paths, okPt x

theorem rdSides_le {s : ByteArray} {a nx : Nat} {l : List ByteArray} (h : rdSides s a = .ok (l, nx)) : a ≤ nx ∧ nx ≤ s.size ∧ l.length ≤ 13 ∧ ∀ t ∈ l, okSide t :=
  rdCnt_le okSide (fun a x nx _ h => by have := rdText_le h; exact this) h

theorem rdPt_le {s : ByteArray} {a nx : Nat} {x : Pt} (h : rdPt s a = .ok (x, nx)) : a ≤ nx ∧ nx ≤ s.size ∧ okPt x := by
  unfold rdPt at h
  cases h1 : rdInt s a with
  | error e => rw [h1] at h; cases h
  | ok p =>
    obtain ⟨n, a1⟩ := p
    have l1 := rdInt_le h1
    rw [h1] at h
    simp only at h
    cases h2 : rdText s a1 with
    | error e => rw [h2] at h; cases h
    | ok p =>
      obtain ⟨k, a2⟩ := p
      have l2 := rdText_le h2
      rw [h2] at h
      simp only at h
      cases h3 : rdText s a2 with
      | error e => rw [h3] at h; cases h
      | ok p =>
        obtain ⟨v, a3⟩ := p
        have l3 := rdText_le h3
        rw [h3] at h
        simp only at h
        cases h4 : rdSides s a3 with
        | error e => rw [h4] at h; cases h
        | ok p =>
          obtain ⟨l, a4⟩ := p
          have l4 := rdSides_le h4
          rw [h4] at h
          simp only [Except.ok.injEq, Prod.mk.injEq] at h
          obtain ⟨rfl, rfl⟩ := h
          exact ⟨by omega, l4.2.1, ⟨by simp only; omega, l2.2.2, l3.2.2, l4.2.2.1, l4.2.2.2⟩⟩

theorem rdPts_le {s : ByteArray} {a nx : Nat} {l : List Pt} (h : rdPts s a = .ok (l, nx)) : a ≤ nx ∧ nx ≤ s.size ∧ l.length ≤ 2 ∧ ∀ x ∈ l, okPt x :=
  rdCnt_le okPt (fun a x nx _ h => rdPt_le h) h

theorem rdPf_le {s : ByteArray} {a nx : Nat} {p : Pf} (h : rdPf s a = .ok (p, nx)) : a ≤ nx ∧ nx ≤ s.size ∧ okPf p := by
  unfold rdPf at h
  cases h1 : rdInt s a with
  | error e => rw [h1] at h; cases h
  | ok q =>
    obtain ⟨n, a1⟩ := q
    have l1 := rdInt_le h1
    rw [h1] at h
    simp only at h
    cases h2 : rdPts s a1 with
    | error e => rw [h2] at h; cases h
    | ok q =>
      obtain ⟨l, a2⟩ := q
      have l2 := rdPts_le h2
      rw [h2] at h
      simp only [Except.ok.injEq, Prod.mk.injEq] at h
      obtain ⟨rfl, rfl⟩ := h
      exact ⟨by omega, l2.2.1, ⟨by simp only; omega, l2.2.2.1, l2.2.2.2⟩⟩

abbrev PtT := Nat × (ByteArray × (ByteArray × List ByteArray))
def toPt (p : PtT) : Pt := ⟨(p.1 : Int), p.2.1, p.2.2.1, p.2.2.2⟩
def ofPt (x : Pt) : PtT := (x.idx.toNat, x.key, x.dat, x.sides)
def rdPtL (l : List UInt8) : Except Int (Pt × Nat) := mapR toPt (seqR (rdP 8 0 0) (seqR rdTP (seqR rdTP (cntR rdTP 13))) l)
theorem codecPt : Codec ptB rdPtL okPt := by
  have h := (codecNum.seq (codecText.seq (codecText.seq (codecText.cnt 13 (by decide))))).iso toPt ofPt okPt
    (fun x hx => by
      obtain ⟨h1, h2, h3, h4, h5⟩ := hx
      refine ⟨?_, by simp only [ofPt]; omega, h2, h3, h4, h5⟩
      obtain ⟨i, k, v, l⟩ := x
      simp only at h1
      simp only [toPt, ofPt, Pt.mk.injEq, and_true]
      omega)
    (fun p hp => by
      obtain ⟨h1, h2, h3, h4, h5⟩ := hp
      refine ⟨?_, ⟨by simp only [toPt]; omega, h2, h3, h4, h5⟩⟩
      simp [toPt, ofPt])
  exact h
def toPf (p : Nat × List Pt) : Pf := ⟨(p.1 : Int), p.2⟩
def rdPfL (l : List UInt8) : Except Int (Pf × Nat) := mapR toPf (seqR (rdP 8 0 0) (cntR rdPtL 2) l)
theorem codecPf : Codec pfB rdPfL okPf := by
  have h := (codecNum.seq (codecPt.cnt 2 (by decide))).iso toPf (fun p => (p.cnt.toNat, p.paths)) okPf
    (fun x hx => by
      obtain ⟨h1, h2, h3⟩ := hx
      refine ⟨?_, by simp only; omega, h2, h3⟩
      obtain ⟨i, l⟩ := x
      simp only at h1
      simp only [toPf, Pf.mk.injEq, and_true]
      omega)
    (fun p hp => by
      obtain ⟨h1, h2, h3⟩ := hp
      refine ⟨?_, ⟨by simp only [toPf]; omega, h2, h3⟩⟩
      simp [toPf])
  exact h

theorem rdSides_list (s : ByteArray) (a : Nat) (ha : a ≤ s.size) : rdSides s a = shiftR a (cntR rdTP 13 (s.data.toList.drop a)) :=
  rdCnt_list s (rdText s) rdTP (rdText_list s) (fun l x c h => (codecText.back _ _ _ h).2.2.2) a 13 ha

theorem rdPt_list (s : ByteArray) (a : Nat) (ha : a ≤ s.size) : rdPt s a = shiftR a (rdPtL (s.data.toList.drop a)) := by
  unfold rdPt rdPtL seqR
  rw [rdInt_list]
  cases e0 : rdP 8 0 0 (s.data.toList.drop a) with
  | error er => simp [shiftR, mapR]
  | ok p =>
  obtain ⟨k, c0⟩ := p
  have n0 := (codecNum.back _ _ _ e0).2.2.2
  rw [List.length_drop, bytes_len] at n0
  simp only [shiftR, seqR]
  rw [rdText_list s (a + c0) (by omega), ← List.drop_drop]
  cases e1 : rdTP ((s.data.toList.drop a).drop c0) with
  | error er => simp [shiftR, mapR]
  | ok p =>
  obtain ⟨v, c1⟩ := p
  have n1 := (codecText.back _ _ _ e1).2.2.2
  rw [List.length_drop, List.length_drop, bytes_len] at n1
  simp only [shiftR, seqR]
  rw [rdText_list s (a + c0 + c1) (by omega), ← List.drop_drop, ← List.drop_drop]
  cases e2 : rdTP (((s.data.toList.drop a).drop c0).drop c1) with
  | error er => simp [shiftR, mapR]
  | ok p =>
  obtain ⟨q, c2⟩ := p
  have n2 := (codecText.back _ _ _ e2).2.2.2
  rw [List.length_drop, List.length_drop, List.length_drop, bytes_len] at n2
  simp only [shiftR, seqR]
  rw [rdSides_list s (a + c0 + c1 + c2) (by omega), ← List.drop_drop, ← List.drop_drop, ← List.drop_drop]
  cases e3 : cntR rdTP 13 ((((s.data.toList.drop a).drop c0).drop c1).drop c2) with
  | error er => simp [shiftR, mapR]
  | ok p =>
  obtain ⟨l, c3⟩ := p
  simp only [shiftR, mapR, toPt, Except.ok.injEq, Prod.mk.injEq, true_and]
  omega

theorem rdPf_list (s : ByteArray) (a : Nat) (ha : a ≤ s.size) : rdPf s a = shiftR a (rdPfL (s.data.toList.drop a)) := by
  unfold rdPf rdPfL seqR
  rw [rdInt_list]
  cases e0 : rdP 8 0 0 (s.data.toList.drop a) with
  | error er => simp [shiftR, mapR]
  | ok p =>
  obtain ⟨k, c0⟩ := p
  have n0 := (codecNum.back _ _ _ e0).2.2.2
  rw [List.length_drop, bytes_len] at n0
  simp only [shiftR]
  unfold rdPts
  rw [rdCnt_list s (rdPt s) rdPtL (rdPt_list s) (fun l x c h => (codecPt.back _ _ _ h).2.2.2) (a + c0) 2 (by omega), ← List.drop_drop]
  cases e1 : cntR rdPtL 2 ((s.data.toList.drop a).drop c0) with
  | error er => simp [shiftR, mapR]
  | ok p =>
  obtain ⟨l, c1⟩ := p
  simp only [shiftR, mapR, toPf, Except.ok.injEq, Prod.mk.injEq, true_and]
  omega

theorem rdSides_nz {s : ByteArray} {a : Nat} {er : Int} (ha : a ≤ s.size) (h : rdSides s a = .error er) : er ≠ 0 := by
  rw [rdSides_list s a ha] at h
  cases e : cntR rdTP 13 (s.data.toList.drop a) with
  | error er' => rw [e] at h; simp only [shiftR, Except.error.injEq] at h; subst h; exact nz_cnt nz_text _ _ _ e
  | ok p => rw [e] at h; cases h
theorem rdPt_nz {s : ByteArray} {a : Nat} {er : Int} (ha : a ≤ s.size) (h : rdPt s a = .error er) : er ≠ 0 := by
  rw [rdPt_list s a ha] at h
  cases e : rdPtL (s.data.toList.drop a) with
  | error er' => rw [e] at h; simp only [shiftR, Except.error.injEq] at h; subst h; exact nz_map _ (nz_seq (nz_num _ _ _) (nz_seq nz_text (nz_seq nz_text (nz_cnt nz_text 13)))) _ _ e
  | ok p => rw [e] at h; cases h

theorem okPt_of {x : Pt} (h : ptOk x = true) : okPt x := by
  simp only [ptOk, Bool.and_eq_true, decide_eq_true_eq] at h
  obtain ⟨h1, h2, h3, h4, h5⟩ := h
  refine ⟨by omega, by omega, by omega, h4, fun t ht => ?_⟩
  have := List.all_eq_true.1 h5 t ht
  simp only [sdOk, decide_eq_true_eq] at this
  unfold okSide; omega
theorem okPf_of {p : Pf} (h : pfOk p = true) : okPf p := by
  simp only [pfOk, Bool.and_eq_true, decide_eq_true_eq] at h
  obtain ⟨h1, h2, h3⟩ := h
  exact ⟨by omega, h2, fun x hx => okPt_of (List.all_eq_true.1 h3 x hx)⟩

theorem of_pf {p : Pf} (h : pfOk p = true) : ofPfR ⟨(pfB p).toArray⟩ = .ok p := by
  have hl := pfB_len h
  have hr := rdPf_list ⟨(pfB p).toArray⟩ 0 (Nat.zero_le _)
  simp only [List.drop_zero, List.toList_toArray] at hr
  have ht := codecPf.there p [] (okPf_of h)
  rw [List.append_nil] at ht
  rw [ht] at hr
  unfold ofPfR
  rw [arr_size, if_neg (by omega), hr]
  simp only [shiftR, Nat.zero_add]
  rw [if_neg (by omega), if_pos h]
end Go.Proofs.Ytocphdikppeijaa
