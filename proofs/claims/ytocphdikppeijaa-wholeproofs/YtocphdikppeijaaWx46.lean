/- Records and things that repeat, as plain functions on bytes. -/
import Derived.Test.YtocphdikppeijaaWx19
import Derived.Test.YtocphdikppeijaaWx24
import Derived.Test.YtocphdikppeijaaWx25
namespace Go.Proofs.Ytocphdikppeijaa
open Go.RowKit
set_option linter.unusedVariables false
set_option linter.unusedSimpArgs false

/-- So many of a thing, one behind the other. -/
def rdRep {α : Type} (rd : Nat → Except Int (α × Nat)) : Nat → Nat → List α → Except Int (List α × Nat)
  | 0, a, acc => .ok (acc, a)
  | k + 1, a, acc =>
    match rd a with
    | .error e => .error e
    | .ok (x, a1) => rdRep rd k a1 (acc ++ [x])

theorem rdRep_list {α : Type} (s : ByteArray) (rd : Nat → Except Int (α × Nat)) (r : List UInt8 → Except Int (α × Nat))
    (hrd : ∀ a, a ≤ s.size → rd a = shiftR a (r (s.data.toList.drop a))) (hle : ∀ l x c, r l = .ok (x, c) → c ≤ l.length) :
    ∀ (k a : Nat) (acc : List α), a ≤ s.size → rdRep rd k a acc = shiftR a (mapR (acc ++ ·) (repR r k (s.data.toList.drop a))) := by
  intro k
  induction k with
  | zero => intro a acc ha; simp [rdRep, repR, mapR, shiftR]
  | succ k ih =>
    intro a acc ha
    simp only [rdRep, repR]
    rw [hrd a ha]
    cases e : r (s.data.toList.drop a) with
    | error er => simp [shiftR, mapR]
    | ok p =>
      obtain ⟨m, c⟩ := p
      have n1 := hle _ _ _ e
      rw [List.length_drop, bytes_len] at n1
      simp only [shiftR]
      rw [ih (a + c) (acc ++ [m]) (by omega), ← List.drop_drop]
      cases e2 : repR r k ((s.data.toList.drop a).drop c) with
      | error er => simp [shiftR, mapR]
      | ok p =>
        obtain ⟨xs, d⟩ := p
        simp only [shiftR, mapR, Except.ok.injEq, Prod.mk.injEq]
        exact ⟨by simp, by omega⟩

theorem rdRep_le {α : Type} (n : Nat) (rd : Nat → Except Int (α × Nat)) (P : α → Prop) (hle : ∀ a x nx, a ≤ n → rd a = .ok (x, nx) → a ≤ nx ∧ nx ≤ n ∧ P x) :
    ∀ (k a : Nat) (acc l : List α) (nx : Nat), a ≤ n → rdRep rd k a acc = .ok (l, nx) → a ≤ nx ∧ nx ≤ n ∧ l.length = acc.length + k ∧ ((∀ x ∈ acc, P x) → ∀ x ∈ l, P x) := by
  intro k
  induction k with
  | zero => intro a acc l nx ha h; simp only [rdRep, Except.ok.injEq, Prod.mk.injEq] at h; obtain ⟨rfl, rfl⟩ := h; exact ⟨Nat.le_refl _, ha, by omega, fun h => h⟩
  | succ k ih =>
    intro a acc l nx ha h
    simp only [rdRep] at h
    cases h1 : rd a with
    | error e => rw [h1] at h; cases h
    | ok p =>
      obtain ⟨m, a1⟩ := p
      have l1 := hle _ _ _ ha h1
      rw [h1] at h
      simp only at h
      obtain ⟨j1, j2, j3, j4⟩ := ih a1 (acc ++ [m]) l nx l1.2.1 h
      refine ⟨by omega, j2, by simp at j3; omega, fun hacc => j4 (fun x hx => ?_)⟩
      rcases List.mem_append.1 hx with h2 | h2
      · exact hacc x h2
      · simp at h2; subst h2; exact l1.2.2

/-- A count of at most so many, and these. -/
def rdCnt {α : Type} (s : ByteArray) (rd : Nat → Except Int (α × Nat)) (a most : Nat) : Except Int (List α × Nat) :=
  match rdCount s a most with
  | .error e => .error e
  | .ok (n, a1) => rdRep rd n a1 []

theorem rdCnt_list {α : Type} (s : ByteArray) (rd : Nat → Except Int (α × Nat)) (r : List UInt8 → Except Int (α × Nat))
    (hrd : ∀ a, a ≤ s.size → rd a = shiftR a (r (s.data.toList.drop a))) (hle : ∀ l x c, r l = .ok (x, c) → c ≤ l.length) (a most : Nat) (ha : a ≤ s.size) :
    rdCnt s rd a most = shiftR a (cntR r most (s.data.toList.drop a)) := by
  unfold rdCnt rdCount cntR
  rw [rdInt_list]
  cases e : rdP 8 0 0 (s.data.toList.drop a) with
  | error er => simp [shiftR]
  | ok p =>
    obtain ⟨n, c⟩ := p
    obtain ⟨_, _, _, n1⟩ := codecNum.back _ _ _ e
    rw [List.length_drop, bytes_len] at n1
    simp only [shiftR]
    by_cases h : most < n
    · simp only [h, if_true]
    · simp only [h, if_false]
      rw [rdRep_list s rd r hrd hle n (a + c) [] (by omega), ← List.drop_drop]
      cases e2 : repR r n ((s.data.toList.drop a).drop c) with
      | error er => simp [shiftR, mapR]
      | ok p =>
        obtain ⟨xs, d⟩ := p
        simp only [shiftR, mapR, Except.ok.injEq, Prod.mk.injEq]
        exact ⟨by simp, by omega⟩

theorem rdCount_le {s : ByteArray} {a most n nx : Nat} (h : rdCount s a most = .ok (n, nx)) : a ≤ nx ∧ nx ≤ s.size ∧ n ≤ most := by
  unfold rdCount at h
  cases h1 : rdInt s a with
  | error e => rw [h1] at h; cases h
  | ok p =>
    obtain ⟨n', a1⟩ := p
    have l1 := rdInt_le h1
    rw [h1] at h
    simp only at h
    by_cases hm : most < n'
    · simp only [hm, if_true] at h; cases h
    · simp only [hm, if_false, Except.ok.injEq, Prod.mk.injEq] at h; omega

theorem rdCnt_le {α : Type} {s : ByteArray} {rd : Nat → Except Int (α × Nat)} (P : α → Prop) (hle : ∀ a x nx, a ≤ s.size → rd a = .ok (x, nx) → a ≤ nx ∧ nx ≤ s.size ∧ P x) {a most nx : Nat} {l : List α}
    (h : rdCnt s rd a most = .ok (l, nx)) : a ≤ nx ∧ nx ≤ s.size ∧ l.length ≤ most ∧ ∀ x ∈ l, P x := by
  unfold rdCnt at h
  cases h1 : rdCount s a most with
  | error e => rw [h1] at h; cases h
  | ok p =>
    obtain ⟨n, a1⟩ := p
    have l1 := rdCount_le h1
    rw [h1] at h
    obtain ⟨j1, j2, j3, j4⟩ := rdRep_le s.size rd P hle n a1 [] l nx l1.2.1 h
    exact ⟨by omega, j2, by simp at j3; omega, j4 (by simp)⟩

theorem rdInt_nz {s : ByteArray} {a : Nat} {er : Int} (h : rdInt s a = .error er) : er ≠ 0 := by
  rw [rdInt_list] at h
  cases e : rdP 8 0 0 (s.data.toList.drop a) with
  | error er' => rw [e] at h; simp only [shiftR, Except.error.injEq] at h; subst h; exact nz_num _ _ _ _ _ e
  | ok p => rw [e] at h; cases h
theorem rdText_nz {s : ByteArray} {a : Nat} {er : Int} (h : rdText s a = .error er) : er ≠ 0 := by
  unfold rdText at h
  cases e : rdInt s a with
  | error er' => rw [e] at h; simp only [Except.error.injEq] at h; subst h; exact rdInt_nz e
  | ok p =>
    obtain ⟨n, nx⟩ := p
    rw [e] at h
    simp only at h
    split at h
    · simp at h; omega
    · split at h
      · simp at h; omega
      · cases h

def rdRc (s : ByteArray) (a : Nat) : Except Int (Rc × Nat) :=
  match rdText s a with
  | .error e => .error e
  | .ok (k, a1) =>
    match rdText s a1 with
    | .error e => .error e
    | .ok (v, a2) => .ok (⟨k, v⟩, a2)

theorem rdRc_le {s : ByteArray} {a nx : Nat} {m : Rc} (h : rdRc s a = .ok (m, nx)) : a ≤ nx ∧ nx ≤ s.size ∧ m.key.size ≤ 1048576 ∧ m.dat.size ≤ 1048576 := by
  unfold rdRc at h
  cases h1 : rdText s a with
  | error e => rw [h1] at h; cases h
  | ok p =>
    obtain ⟨k, a1⟩ := p
    have l1 := rdText_le h1
    rw [h1] at h
    simp only at h
    cases h2 : rdText s a1 with
    | error e => rw [h2] at h; cases h
    | ok p =>
      obtain ⟨v, a2⟩ := p
      have l2 := rdText_le h2
      rw [h2] at h
      simp only [Except.ok.injEq, Prod.mk.injEq] at h
      obtain ⟨rfl, rfl⟩ := h
      exact ⟨by omega, l2.2.1, l1.2.2, l2.2.2⟩

def rdRcL (l : List UInt8) : Except Int (Rc × Nat) := mapR (fun p : ByteArray × ByteArray => (⟨p.1, p.2⟩ : Rc)) (seqR rdTP rdTP l)
def okRc (m : Rc) : Prop := m.key.size ≤ 1048576 ∧ m.dat.size ≤ 1048576
theorem codecRc : Codec rcB rdRcL okRc :=
  (codecText.seq codecText).iso (fun p : ByteArray × ByteArray => (⟨p.1, p.2⟩ : Rc)) (fun m => (m.key, m.dat)) okRc (fun m hm => ⟨rfl, hm⟩) (fun p hp => ⟨rfl, hp⟩)
theorem rdRc_list (s : ByteArray) (a : Nat) (ha : a ≤ s.size) : rdRc s a = shiftR a (rdRcL (s.data.toList.drop a)) := by
  unfold rdRc rdRcL seqR
  rw [rdText_list s a ha]
  cases e : rdTP (s.data.toList.drop a) with
  | error er => simp [shiftR, mapR]
  | ok p =>
    obtain ⟨t, c⟩ := p
    have n1 := (codecText.back _ _ _ e).2.2.2
    rw [List.length_drop, bytes_len] at n1
    simp only [shiftR]
    rw [rdText_list s (a + c) (by omega), ← List.drop_drop]
    cases e3 : rdTP ((s.data.toList.drop a).drop c) with
    | error er => simp [shiftR, mapR]
    | ok p =>
      obtain ⟨u, c3⟩ := p
      simp only [shiftR, mapR, Except.ok.injEq, Prod.mk.injEq]
      exact ⟨trivial, by omega⟩
theorem rdRc_nz {s : ByteArray} {a : Nat} {er : Int} (h : rdRc s a = .error er) : er ≠ 0 := by
  unfold rdRc at h
  cases h1 : rdText s a with
  | error e => rw [h1] at h; simp only [Except.error.injEq] at h; subst h; exact rdText_nz h1
  | ok p =>
    obtain ⟨k, a1⟩ := p
    rw [h1] at h
    simp only at h
    cases h2 : rdText s a1 with
    | error e => rw [h2] at h; simp only [Except.error.injEq] at h; subst h; exact rdText_nz h2
    | ok p => rw [h2] at h; cases h

/-- Records read at a place. -/
def rdRcs (s : ByteArray) (a most : Nat) : Except Int (List Rc × Nat) := rdCnt s (rdRc s) a most
theorem rdRcs_le {s : ByteArray} {a most nx : Nat} {l : List Rc} (h : rdRcs s a most = .ok (l, nx)) : a ≤ nx ∧ nx ≤ s.size ∧ l.length ≤ most ∧ ∀ m ∈ l, okRc m :=
  rdCnt_le okRc (fun a x nx _ h => by have := rdRc_le h; exact ⟨this.1, this.2.1, this.2.2.1, this.2.2.2⟩) h
theorem rdRcs_list (s : ByteArray) (a most : Nat) (ha : a ≤ s.size) : rdRcs s a most = shiftR a (cntR rdRcL most (s.data.toList.drop a)) :=
  rdCnt_list s (rdRc s) rdRcL (rdRc_list s) (fun l x c h => (codecRc.back _ _ _ h).2.2.2) a most ha

end Go.Proofs.Ytocphdikppeijaa

namespace Go.Proofs.Ytocphdikppeijaa
open Go.RowKit
set_option linter.unusedVariables false
set_option linter.unusedSimpArgs false

theorem infoRecord : (Try.prog.info? 43).map (fun i => (i.zero, i.size, i.bytes)) = some (some (.agg #[.string ⟨#[]⟩, .string ⟨#[]⟩]), 2, 32) := by kernel_rfl

/-- What reading records gives. -/
def ReadsRc (r : Except Int (List Rc × Nat)) (b : Nat) (s : ByteArray) (w : World) (e : Ending) (w' : World) : Prop :=
  match r with
  | .ok (l, nx) => ∃ v, e = .returned v ∧ w'.ownsRow w.heap.size 43 2 v l.length (rcCells l) ∧ Off b w w' ∧ Rdr w' b s nx
  | .error er => e = .panicked (gu er) ∧ Off b w w'

theorem own_slice {w : World} {base n z : Nat} {t : TypeId} {v : Value} {xs : List Value} (h : w.ownsRow base t z v n xs) : ∃ p c, v = .slice p n c := by
  rcases h.2 with ⟨rfl, h'⟩ | ⟨g, cap, cur, rfl, _⟩
  · rw [h']; exact ⟨none, 0, rfl⟩
  · exact ⟨_, _, rfl⟩

theorem grown_set (w : World) (p : Addr) (u : Value) : w.grownBy (w.setCell p u) (some p.block) :=
  ⟨rfl, rfl, rfl, by simp [World.setCell], fun k _ hn => Below.heap_setCell _ _ _ _ (fun e => hn (by rw [e]))⟩

end Go.Proofs.Ytocphdikppeijaa
