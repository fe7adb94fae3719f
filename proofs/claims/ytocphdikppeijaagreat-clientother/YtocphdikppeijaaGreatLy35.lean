/- Records and things that repeat, as plain functions on bytes. -/
import Derived.Test.YtocphdikppeijaaGreatLy11
import Derived.Test.YtocphdikppeijaaGreatLy16
import Derived.Test.YtocphdikppeijaaGreatLy17
namespace Go.Proofs.YtocphdikppeijaaGreat
open Go.RowKit
set_option linter.unusedVariables false
set_option linter.unusedSimpArgs false

/-- So many of a thing, one behind the other. -/
def rdRep {α : Type} (rd : Nat → Except Int (α × Nat)) : Nat → Nat → List α → Except Int (List α × Nat)
  | 0, a, acc => .ok (acc, a)
  | k + 1, a, acc =>
    match rd a with
    | .error e => .error e
    | .ok (x, a1) => rdRep rd k a1 (acc ++ [x])

theorem rdRep_list {α : Type} (s : ByteArray) (rd : Nat → Except Int (α × Nat)) (r : List UInt8 → Except Int (α × Nat))
    (hrd : ∀ a, a ≤ s.size → rd a = shiftR a (r (s.data.toList.drop a))) (hle : ∀ l x c, r l = .ok (x, c) → c ≤ l.length) :
    ∀ (k a : Nat) (acc : List α), a ≤ s.size → rdRep rd k a acc = shiftR a (mapR (acc ++ ·) (repR r k (s.data.toList.drop a))) := by
  intro k
  induction k with
  | zero => intro a acc ha; simp [rdRep, repR, mapR, shiftR]
  | succ k ih =>
    intro a acc ha
    simp only [rdRep, repR]
    rw [hrd a ha]
    cases e : r (s.data.toList.drop a) with
    | error er => simp [shiftR, mapR]
    | ok p =>
      obtain ⟨m, c⟩ := p
      have n1 := hle _ _ _ e
      rw [List.length_drop, bytes_len] at n1
      simp only [shiftR]
      rw [ih (a + c) (acc ++ [m]) (by omega), ← List.drop_drop]
      cases e2 : repR r k ((s.data.toList.drop a).drop c) with
      | error er => simp [shiftR, mapR]
      | ok p =>
        obtain ⟨xs, d⟩ := p
        simp only [shiftR, mapR, Except.ok.injEq, Prod.mk.injEq]
        exact ⟨by simp, by omega⟩

theorem rdRep_le {α : Type} (n : Nat) (rd : Nat → Except Int (α × Nat)) (P : α → Prop) (hle : ∀ a x nx, a ≤ n → rd a = .ok (x, nx) → a ≤ nx ∧ nx ≤ n ∧ P x) :
    ∀ (k a : Nat) (acc l : List α) (nx : Nat), a ≤ n → rdRep rd k a acc = .ok (l, nx) → a ≤ nx ∧ nx ≤ n ∧ l.length = acc.length + k ∧ ((∀ x ∈ acc, P x) → ∀ x ∈ l, P x) := by
  intro k
  induction k with
  | zero => intro a acc l nx ha h; simp only [rdRep, Except.ok.injEq, Prod.mk.injEq] at h; obtain ⟨rfl, rfl⟩ := h; exact ⟨Nat.le_refl _, ha, by omega, fun h => h⟩
  | succ k ih =>
    intro a acc l nx ha h
    simp only [rdRep] at h
    cases h1 : rd a with
    | error e => rw [h1] at h; cases h
    | ok p =>
      obtain ⟨m, a1⟩ := p
      have l1 := hle _ _ _ ha h1
      rw [h1] at h
      simp only at h
      obtain ⟨j1, j2, j3, j4⟩ := ih a1 (acc ++ [m]) l nx l1.2.1 h
      refine ⟨by omega, j2, by simp at j3; omega, fun hacc => j4 (fun x hx => ?_)⟩
      rcases List.mem_append.1 hx with h2 | h2
      · exact hacc x h2
      · simp at h2; subst h2; exact l1.2.2

/-- A count of at most so many, and these. -/
def rdCnt {α : Type} (s : ByteArray) (rd : Nat → Except Int (α × Nat)) (a most : Nat) : Except Int (List α × Nat) :=
  match rdCount s a most with
  | .error e => .error e
  | .ok (n, a1) => rdRep rd n a1 []

theorem rdCnt_list {α : Type} (s : ByteArray) (rd : Nat → Except Int (α × Nat)) (r : List UInt8 → Except Int (α × Nat))
    (hrd : ∀ a, a ≤ s.size → rd a = shiftR a (r (s.data.toList.drop a))) (hle : ∀ l x c, r l = .ok (x, c) → c ≤ l.length) (a most : Nat) (ha : a ≤ s.size) :
    rdCnt s rd a most = shiftR a (cntR r most (s.data.toList.drop a)) := by
  unfold rdCnt rdCount cntR
  rw [rdInt_list]
  cases e : rdP 8 0 0 (s.data.toList.drop a) with
  | error er => simp [shiftR]
  | ok p =>
    obtain ⟨n, c⟩ := p
    obtain ⟨_, _, _, n1⟩ := codecNum.back _ _ _ e
    rw [List.length_drop, bytes_len] at n1
    simp only [shiftR]
    by_cases h : most < n
    · simp only [h, if_true]
    · simp only [h, if_false]
      rw [rdRep_list s rd r hrd hle n (a + c) [] (by omega), ← List.drop_drop]
      cases e2 : repR r n ((s.data.toList.drop a).drop c) with
      | error er => simp [shiftR, mapR]
      | ok p =>
        obtain ⟨xs, d⟩ := p
        simp only [shiftR, mapR, Except.ok.injEq, Prod.mk.injEq]
        exact ⟨by simp, by omega⟩

theorem rdCount_le {s : ByteArray} {a most n nx : Nat} (h : rdCount s a most = .ok (n, nx)) : a ≤ nx ∧ nx ≤ s.size ∧ n ≤ most := by
  unfold rdCount at h
  cases h1 : rdInt s a with
  | error e => rw [h1] at h; cases h
  | ok p =>
    obtain ⟨n', a1⟩ := p
    have l1 := rdInt_le h1
    rw [h1] at h
    simp only at h
    by_cases hm : most < n'
    · simp only [hm, if_true] at h; cases h
    · simp only [hm, if_false, Except.ok.injEq, Prod.mk.injEq] at h; omega

theorem rdCnt_le {α : Type} {s : ByteArray} {rd : Nat → Except Int (α × Nat)} (P : α → Prop) (hle : ∀ a x nx, a ≤ s.size → rd a = .ok (x, nx) → a ≤ nx ∧ nx ≤ s.size ∧ P x) {a most nx : Nat} {l : List α}
    (h : rdCnt s rd a most = .ok (l, nx)) : a ≤ nx ∧ nx ≤ s.size ∧ l.length ≤ most ∧ ∀ x ∈ l, P x := by
  unfold rdCnt at h
  cases h1 : rdCount s a most with
  | error e => rw [h1] at h; cases h
  | ok p =>
    obtain ⟨n, a1⟩ := p
    have l1 := rdCount_le h1
    rw [h1] at h
    obtain ⟨j1, j2, j3, j4⟩ := rdRep_le s.size rd P hle n a1 [] l nx l1.2.1 h
    exact ⟨by omega, j2, by simp at j3; omega, j4 (by simp)⟩

theorem rdInt_nz {s : ByteArray} {a : Nat} {er : Int} (h : rdInt s a = .error er) : er ≠ 0 := by
  rw [rdInt_list] at h
  cases e : rdP 8 0 0 (s.data.toList.drop a) with
  | error er' => rw [e] at h; simp only [shiftR, Except.error.injEq] at h; subst h; exact nz_num _ _ _ _ _ e
  | ok p => rw [e] at h; cases h
theorem rdText_nz {s : ByteArray} {a : Nat} {er : Int} (h : rdText s a = .error er) : er ≠ 0 := by
  unfold rdText at h
  cases e : rdInt s a with
  | error er' => rw [e] at h; simp only [Except.error.injEq] at h; subst h; exact rdInt_nz e
  | ok p =>
    obtain ⟨n, nx⟩ := p
    rw [e] at h
    simp only at h
    split at h
    · simp at h; omega
    · split at h
      · simp at h; omega
      · cases h

def rdRc (s : ByteArray) (a : Nat) : Except Int (Rc × Nat) :=
  match rdText s a with
  | .error e => .error e
  | .ok (k, a1) =>
    match rdText s a1 with
    | .error e => .error e
    | .ok (v, a2) => .ok (⟨k, v⟩, a2)

theorem rdRc_le {s : ByteArray} {a nx : Nat} {m : Rc} (h : rdRc s a = .ok (m, nx)) : a ≤ nx ∧ nx ≤ s.size ∧ m.key.size ≤ 1048576 ∧ m.dat.size ≤ 1048576 := by
  unfold rdRc at h
  cases h1 : rdText s a with
  | error e => rw [h1] at h; cases h
  | ok p =>
    obtain ⟨k, a1⟩ := p
    have l1 := rdText_le h1
    rw [h1] at h
    simp only at h
    cases h2 : rdText s a1 with
    | error e => rw [h2] at h; cases h
    | ok p =>
      obtain ⟨v, a2⟩ := p
      have l2 := rdText_le h2
      rw [h2] at h
      simp only [Except.ok.injEq, Prod.mk.injEq] at h
      obtain ⟨rfl, rfl⟩ := h
      exact ⟨by omega, l2.2.1, l1.2.2, l2.2.2⟩

def rdRcL (l : List UInt8) : Except Int (Rc × Nat) := mapR (fun p : ByteArray × ByteArray => (⟨p.1, p.2⟩ : Rc)) (seqR rdTP rdTP l)
def okRc (m : Rc) : Prop := m.key.size ≤ 1048576 ∧ m.dat.size ≤ 1048576
theorem codecRc : Codec rcB rdRcL okRc :=
  (codecText.seq codecText).iso (fun p : ByteArray × ByteArray => (⟨p.1, p.2⟩ : Rc)) (fun m => (m.key, m.dat)) okRc (fun m hm => ⟨rfl, hm⟩) (fun p hp => ⟨rfl, hp⟩)
theorem rdRc_list (s : ByteArray) (a : Nat) (ha : a ≤ s.size) : rdRc s a = shiftR a (rdRcL (s.data.toList.drop a)) := by
  unfold rdRc rdRcL seqR
  rw [rdText_list s a ha]
  cases e : rdTP (s.data.toList.drop a) with
  | error er => simp [shiftR, mapR]
  | ok p =>
    obtain ⟨t, c⟩ := p
    have n1 := (codecText.back _ _ _ e).2.2.2
    rw [List.length_drop, bytes_len] at n1
    simp only [shiftR]
    rw [rdText_list s (a + c) (by omega), ← List.drop_drop]
    cases e3 : rdTP ((s.data.toList.drop a).drop c) with
    | error er => simp [shiftR, mapR]
    | ok p =>
      obtain ⟨u, c3⟩ := p
      simp only [shiftR, mapR, Except.ok.injEq, Prod.mk.injEq]
      exact ⟨trivial, by omega⟩
theorem rdRc_nz {s : ByteArray} {a : Nat} {er : Int} (h : rdRc s a = .error er) : er ≠ 0 := by
  unfold rdRc at h
  cases h1 : rdText s a with
  | error e => rw [h1] at h; simp only [Except.error.injEq] at h; subst h; exact rdText_nz h1
  | ok p =>
    obtain ⟨k, a1⟩ := p
    rw [h1] at h
    simp only at h
    cases h2 : rdText s a1 with
    | error e => rw [h2] at h; simp only [Except.error.injEq] at h; subst h; exact rdText_nz h2
    | ok p => rw [h2] at h; cases h

/-- Records read at a place. -/
def rdRcs (s : ByteArray) (a most : Nat) : Except Int (List Rc × Nat) := rdCnt s (rdRc s) a most
theorem rdRcs_le {s : ByteArray} {a most nx : Nat} {l : List Rc} (h : rdRcs s a most = .ok (l, nx)) : a ≤ nx ∧ nx ≤ s.size ∧ l.length ≤ most ∧ ∀ m ∈ l, okRc m :=
  rdCnt_le okRc (fun a x nx _ h => by have := rdRc_le h; exact ⟨this.1, this.2.1, this.2.2.1, this.2.2.2⟩) h
theorem rdRcs_list (s : ByteArray) (a most : Nat) (ha : a ≤ s.size) : rdRcs s a most = shiftR a (cntR rdRcL most (s.data.toList.drop a)) :=
  rdCnt_list s (rdRc s) rdRcL (rdRc_list s) (fun l x c h => (codecRc.back _ _ _ h).2.2.2) a most ha

end Go.Proofs.YtocphdikppeijaaGreat

namespace Go.Proofs.YtocphdikppeijaaGreat
open Go.RowKit
set_option linter.unusedVariables false
set_option linter.unusedSimpArgs false

theorem infoRecord : (Tryz.prog.info? 41).map (fun i => (i.zero, i.size, i.bytes)) = some (some (.agg #[.string ⟨#[]⟩, .string ⟨#[]⟩]), 2, 32) := by kernel_rfl

/-- What reading records gives. -/
def ReadsRc (r : Except Int (List Rc × Nat)) (b : Nat) (s : ByteArray) (w : World) (e : Ending) (w' : World) : Prop :=
  match r with
  | .ok (l, nx) => ∃ v, e = .returned v ∧ w'.ownsRow w.heap.size 41 2 v l.length (rcCells l) ∧ Off b w w' ∧ Rdr w' b s nx
  | .error er => e = .panicked (gu er) ∧ Off b w w'

theorem own_slice {w : World} {base n z : Nat} {t : TypeId} {v : Value} {xs : List Value} (h : w.ownsRow base t z v n xs) : ∃ p c, v = .slice p n c := by
  rcases h.2 with ⟨rfl, h'⟩ | ⟨g, cap, cur, rfl, _⟩
  · rw [h']; exact ⟨none, 0, rfl⟩
  · exact ⟨_, _, rfl⟩

theorem grown_set (w : World) (p : Addr) (u : Value) : w.grownBy (w.setCell p u) (some p.block) :=
  ⟨rfl, rfl, rfl, by simp [World.setCell], fun k _ hn => Below.heap_setCell _ _ _ _ (fun e => hn (by rw [e]))⟩

end Go.Proofs.YtocphdikppeijaaGreat

namespace Go.Proofs.YtocphdikppeijaaGreat
open Go.RowKit
set_option linter.unusedVariables false
set_option linter.unusedSimpArgs false

def rdSides (s : ByteArray) (a : Nat) : Except Int (List ByteArray × Nat) := rdCnt s (rdText s) a 13
def rdPt (s : ByteArray) (a : Nat) : Except Int (Pt × Nat) :=
  match rdInt s a with
  | .error e => .error e
  | .ok (n, a1) =>
    match rdText s a1 with
    | .error e => .error e
    | .ok (k, a2) =>
      match rdText s a2 with
      | .error e => .error e
      | .ok (v, a3) =>
        match rdSides s a3 with
        | .error e => .error e
        | .ok (l, a4) => .ok (⟨n, k, v, l⟩, a4)
def rdPts (s : ByteArray) (a : Nat) : Except Int (List Pt × Nat) := rdCnt s (rdPt s) a 2
def rdPf (s : ByteArray) (a : Nat) : Except Int (Pf × Nat) :=
  match rdInt s a with
  | .error e => .error e
  | .ok (n, a1) =>
    match rdPts s a1 with
    | .error e => .error e
    | .ok (l, a2) => .ok (⟨n, l⟩, a2)
def ofPfR (s : ByteArray) : Except Int Pf :=
  if 1048576 < s.size then .error 4
  else match rdPf s 0 with
    | .error e => .error e
    | .ok (p, nx) => if nx < s.size then .error 12 else if pfOk p = true then .ok p else .error 14

def okSide (t : ByteArray) : Prop := t.size ≤ 1048576
structure okPt (x : Pt) : Prop where
  i : 0 ≤ x.idx ∧ x.idx ≤ 9007199254740992
  k : x.key.size ≤ 1048576
  v : x.dat.size ≤ 1048576
  n : x.sides.length ≤ 13
  s : ∀ t ∈ x.sides, okSide t
structure okPf (p : Pf) : Prop where
  c : 0 ≤ p.cnt ∧ p.cnt ≤ 9007199254740992
  n : p.paths.length ≤ 2
  l : ∀ x ∈ p.paths, okPt x

theorem rdSides_le {s : ByteArray} {a nx : Nat} {l : List ByteArray} (h : rdSides s a = .ok (l, nx)) : a ≤ nx ∧ nx ≤ s.size ∧ l.length ≤ 13 ∧ ∀ t ∈ l, okSide t :=
  rdCnt_le okSide (fun a x nx _ h => by have := rdText_le h; exact this) h

theorem rdPt_le {s : ByteArray} {a nx : Nat} {x : Pt} (h : rdPt s a = .ok (x, nx)) : a ≤ nx ∧ nx ≤ s.size ∧ okPt x := by
  unfold rdPt at h
  cases h1 : rdInt s a with
  | error e => rw [h1] at h; cases h
  | ok p =>
    obtain ⟨n, a1⟩ := p
    have l1 := rdInt_le h1
    rw [h1] at h
    simp only at h
    cases h2 : rdText s a1 with
    | error e => rw [h2] at h; cases h
    | ok p =>
      obtain ⟨k, a2⟩ := p
      have l2 := rdText_le h2
      rw [h2] at h
      simp only at h
      cases h3 : rdText s a2 with
      | error e => rw [h3] at h; cases h
      | ok p =>
        obtain ⟨v, a3⟩ := p
        have l3 := rdText_le h3
        rw [h3] at h
        simp only at h
        cases h4 : rdSides s a3 with
        | error e => rw [h4] at h; cases h
        | ok p =>
          obtain ⟨l, a4⟩ := p
          have l4 := rdSides_le h4
          rw [h4] at h
          simp only [Except.ok.injEq, Prod.mk.injEq] at h
          obtain ⟨rfl, rfl⟩ := h
          exact ⟨by omega, l4.2.1, ⟨by simp only; omega, l2.2.2, l3.2.2, l4.2.2.1, l4.2.2.2⟩⟩

theorem rdPts_le {s : ByteArray} {a nx : Nat} {l : List Pt} (h : rdPts s a = .ok (l, nx)) : a ≤ nx ∧ nx ≤ s.size ∧ l.length ≤ 2 ∧ ∀ x ∈ l, okPt x :=
  rdCnt_le okPt (fun a x nx _ h => rdPt_le h) h

theorem rdPf_le {s : ByteArray} {a nx : Nat} {p : Pf} (h : rdPf s a = .ok (p, nx)) : a ≤ nx ∧ nx ≤ s.size ∧ okPf p := by
  unfold rdPf at h
  cases h1 : rdInt s a with
  | error e => rw [h1] at h; cases h
  | ok q =>
    obtain ⟨n, a1⟩ := q
    have l1 := rdInt_le h1
    rw [h1] at h
    simp only at h
    cases h2 : rdPts s a1 with
    | error e => rw [h2] at h; cases h
    | ok q =>
      obtain ⟨l, a2⟩ := q
      have l2 := rdPts_le h2
      rw [h2] at h
      simp only [Except.ok.injEq, Prod.mk.injEq] at h
      obtain ⟨rfl, rfl⟩ := h
      exact ⟨by omega, l2.2.1, ⟨by simp only; omega, l2.2.2.1, l2.2.2.2⟩⟩

abbrev PtT := Nat × (ByteArray × (ByteArray × List ByteArray))
def toPt (p : PtT) : Pt := ⟨(p.1 : Int), p.2.1, p.2.2.1, p.2.2.2⟩
def ofPt (x : Pt) : PtT := (x.idx.toNat, x.key, x.dat, x.sides)
def rdPtL (l : List UInt8) : Except Int (Pt × Nat) := mapR toPt (seqR (rdP 8 0 0) (seqR rdTP (seqR rdTP (cntR rdTP 13))) l)
theorem codecPt : Codec ptB rdPtL okPt := by
  have h := (codecNum.seq (codecText.seq (codecText.seq (codecText.cnt 13 (by decide))))).iso toPt ofPt okPt
    (fun x hx => by
      obtain ⟨h1, h2, h3, h4, h5⟩ := hx
      refine ⟨?_, by simp only [ofPt]; omega, h2, h3, h4, h5⟩
      obtain ⟨i, k, v, l⟩ := x
      simp only at h1
      simp only [toPt, ofPt, Pt.mk.injEq, and_true]
      omega)
    (fun p hp => by
      obtain ⟨h1, h2, h3, h4, h5⟩ := hp
      refine ⟨?_, ⟨by simp only [toPt]; omega, h2, h3, h4, h5⟩⟩
      simp [toPt, ofPt])
  exact h
def toPf (p : Nat × List Pt) : Pf := ⟨(p.1 : Int), p.2⟩
def rdPfL (l : List UInt8) : Except Int (Pf × Nat) := mapR toPf (seqR (rdP 8 0 0) (cntR rdPtL 2) l)
theorem codecPf : Codec pfB rdPfL okPf := by
  have h := (codecNum.seq (codecPt.cnt 2 (by decide))).iso toPf (fun p => (p.cnt.toNat, p.paths)) okPf
    (fun x hx => by
      obtain ⟨h1, h2, h3⟩ := hx
      refine ⟨?_, by simp only; omega, h2, h3⟩
      obtain ⟨i, l⟩ := x
      simp only at h1
      simp only [toPf, Pf.mk.injEq, and_true]
      omega)
    (fun p hp => by
      obtain ⟨h1, h2, h3⟩ := hp
      refine ⟨?_, ⟨by simp only [toPf]; omega, h2, h3⟩⟩
      simp [toPf])
  exact h

theorem rdSides_list (s : ByteArray) (a : Nat) (ha : a ≤ s.size) : rdSides s a = shiftR a (cntR rdTP 13 (s.data.toList.drop a)) :=
  rdCnt_list s (rdText s) rdTP (rdText_list s) (fun l x c h => (codecText.back _ _ _ h).2.2.2) a 13 ha

theorem rdPt_list (s : ByteArray) (a : Nat) (ha : a ≤ s.size) : rdPt s a = shiftR a (rdPtL (s.data.toList.drop a)) := by
  unfold rdPt rdPtL seqR
  rw [rdInt_list]
  cases e0 : rdP 8 0 0 (s.data.toList.drop a) with
  | error er => simp [shiftR, mapR]
  | ok p =>
  obtain ⟨k, c0⟩ := p
  have n0 := (codecNum.back _ _ _ e0).2.2.2
  rw [List.length_drop, bytes_len] at n0
  simp only [shiftR, seqR]
  rw [rdText_list s (a + c0) (by omega), ← List.drop_drop]
  cases e1 : rdTP ((s.data.toList.drop a).drop c0) with
  | error er => simp [shiftR, mapR]
  | ok p =>
  obtain ⟨v, c1⟩ := p
  have n1 := (codecText.back _ _ _ e1).2.2.2
  rw [List.length_drop, List.length_drop, bytes_len] at n1
  simp only [shiftR, seqR]
  rw [rdText_list s (a + c0 + c1) (by omega), ← List.drop_drop, ← List.drop_drop]
  cases e2 : rdTP (((s.data.toList.drop a).drop c0).drop c1) with
  | error er => simp [shiftR, mapR]
  | ok p =>
  obtain ⟨q, c2⟩ := p
  have n2 := (codecText.back _ _ _ e2).2.2.2
  rw [List.length_drop, List.length_drop, List.length_drop, bytes_len] at n2
  simp only [shiftR, seqR]
  rw [rdSides_list s (a + c0 + c1 + c2) (by omega), ← List.drop_drop, ← List.drop_drop, ← List.drop_drop]
  cases e3 : cntR rdTP 13 ((((s.data.toList.drop a).drop c0).drop c1).drop c2) with
  | error er => simp [shiftR, mapR]
  | ok p =>
  obtain ⟨l, c3⟩ := p
  simp only [shiftR, mapR, toPt, Except.ok.injEq, Prod.mk.injEq, true_and]
  omega

theorem rdPf_list (s : ByteArray) (a : Nat) (ha : a ≤ s.size) : rdPf s a = shiftR a (rdPfL (s.data.toList.drop a)) := by
  unfold rdPf rdPfL seqR
  rw [rdInt_list]
  cases e0 : rdP 8 0 0 (s.data.toList.drop a) with
  | error er => simp [shiftR, mapR]
  | ok p =>
  obtain ⟨k, c0⟩ := p
  have n0 := (codecNum.back _ _ _ e0).2.2.2
  rw [List.length_drop, bytes_len] at n0
  simp only [shiftR]
  unfold rdPts
  rw [rdCnt_list s (rdPt s) rdPtL (rdPt_list s) (fun l x c h => (codecPt.back _ _ _ h).2.2.2) (a + c0) 2 (by omega), ← List.drop_drop]
  cases e1 : cntR rdPtL 2 ((s.data.toList.drop a).drop c0) with
  | error er => simp [shiftR, mapR]
  | ok p =>
  obtain ⟨l, c1⟩ := p
  simp only [shiftR, mapR, toPf, Except.ok.injEq, Prod.mk.injEq, true_and]
  omega

theorem rdSides_nz {s : ByteArray} {a : Nat} {er : Int} (ha : a ≤ s.size) (h : rdSides s a = .error er) : er ≠ 0 := by
  rw [rdSides_list s a ha] at h
  cases e : cntR rdTP 13 (s.data.toList.drop a) with
  | error er' => rw [e] at h; simp only [shiftR, Except.error.injEq] at h; subst h; exact nz_cnt nz_text _ _ _ e
  | ok p => rw [e] at h; cases h
theorem rdPt_nz {s : ByteArray} {a : Nat} {er : Int} (ha : a ≤ s.size) (h : rdPt s a = .error er) : er ≠ 0 := by
  rw [rdPt_list s a ha] at h
  cases e : rdPtL (s.data.toList.drop a) with
  | error er' => rw [e] at h; simp only [shiftR, Except.error.injEq] at h; subst h; exact nz_map _ (nz_seq (nz_num _ _ _) (nz_seq nz_text (nz_seq nz_text (nz_cnt nz_text 13)))) _ _ e
  | ok p => rw [e] at h; cases h

theorem okPt_of {x : Pt} (h : ptOk x = true) : okPt x := by
  simp only [ptOk, Bool.and_eq_true, decide_eq_true_eq] at h
  obtain ⟨h1, h2, h3, h4, h5⟩ := h
  refine ⟨by omega, by omega, by omega, h4, fun t ht => ?_⟩
  have := List.all_eq_true.1 h5 t ht
  simp only [sdOk, decide_eq_true_eq] at this
  unfold okSide; omega
theorem okPf_of {p : Pf} (h : pfOk p = true) : okPf p := by
  simp only [pfOk, Bool.and_eq_true, decide_eq_true_eq] at h
  obtain ⟨h1, h2, h3⟩ := h
  exact ⟨by omega, h2, fun x hx => okPt_of (List.all_eq_true.1 h3 x hx)⟩

theorem of_pf {p : Pf} (h : pfOk p = true) : ofPfR ⟨(pfB p).toArray⟩ = .ok p := by
  have hl := pfB_len h
  have hr := rdPf_list ⟨(pfB p).toArray⟩ 0 (Nat.zero_le _)
  simp only [List.drop_zero, List.toList_toArray] at hr
  have ht := codecPf.there p [] (okPf_of h)
  rw [List.append_nil] at ht
  rw [ht] at hr
  unfold ofPfR
  rw [arr_size, if_neg (by omega), hr]
  simp only [shiftR, Nat.zero_add]
  rw [if_neg (by omega), if_pos h]
end Go.Proofs.YtocphdikppeijaaGreat
