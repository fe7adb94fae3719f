/- Records and things that repeat, as plain functions on bytes. -/
import Derived.Test.YtdaonkgcdheplaaPure5
namespace Go.Proofs.Ytdaonkgcdheplaa
open Go.RowKit
set_option linter.unusedVariables false
set_option linter.unusedSimpArgs false

/-- So many of a thing, one behind the other. -/
def rdRep {α : Type} (rd : Nat → Except Int (α × Nat)) : Nat → Nat → List α → Except Int (List α × Nat)
  | 0, a, acc => .ok (acc, a)
  | k + 1, a, acc =>
    match rd a with
    | .error e => .error e
    | .ok (x, a1) => rdRep rd k a1 (acc ++ [x])

theorem rdRep_list {α : Type} (s : ByteArray) (rd : Nat → Except Int (α × Nat)) (r : List UInt8 → Except Int (α × Nat))
    (hrd : ∀ a, a ≤ s.size → rd a = shiftR a (r (s.data.toList.drop a))) (hle : ∀ l x c, r l = .ok (x, c) → c ≤ l.length) :
    ∀ (k a : Nat) (acc : List α), a ≤ s.size → rdRep rd k a acc = shiftR a (mapR (acc ++ ·) (repR r k (s.data.toList.drop a))) := by
  intro k
  induction k with
  | zero => intro a acc ha; simp [rdRep, repR, mapR, shiftR]
  | succ k ih =>
    intro a acc ha
    simp only [rdRep, repR]
    rw [hrd a ha]
    cases e : r (s.data.toList.drop a) with
    | error er => simp [shiftR, mapR]
    | ok p =>
      obtain ⟨m, c⟩ := p
      have n1 := hle _ _ _ e
      rw [List.length_drop, bytes_len] at n1
      simp only [shiftR]
      rw [ih (a + c) (acc ++ [m]) (by omega), ← List.drop_drop]
      cases e2 : repR r k ((s.data.toList.drop a).drop c) with
      | error er => simp [shiftR, mapR]
      | ok p =>
        obtain ⟨xs, d⟩ := p
        simp only [shiftR, mapR, Except.ok.injEq, Prod.mk.injEq]
        exact ⟨by simp, by omega⟩

theorem rdRep_le {α : Type} (n : Nat) (rd : Nat → Except Int (α × Nat)) (P : α → Prop) (hle : ∀ a x nx, a ≤ n → rd a = .ok (x, nx) → a ≤ nx ∧ nx ≤ n ∧ P x) :
    ∀ (k a : Nat) (acc l : List α) (nx : Nat), a ≤ n → rdRep rd k a acc = .ok (l, nx) → a ≤ nx ∧ nx ≤ n ∧ l.length = acc.length + k ∧ ((∀ x ∈ acc, P x) → ∀ x ∈ l, P x) := by
  intro k
  induction k with
  | zero => intro a acc l nx ha h; simp only [rdRep, Except.ok.injEq, Prod.mk.injEq] at h; obtain ⟨rfl, rfl⟩ := h; exact ⟨Nat.le_refl _, ha, by omega, fun h => h⟩
  | succ k ih =>
    intro a acc l nx ha h
    simp only [rdRep] at h
    cases h1 : rd a with
    | error e => rw [h1] at h; cases h
    | ok p =>
      obtain ⟨m, a1⟩ := p
      have l1 := hle _ _ _ ha h1
      rw [h1] at h
      simp only at h
      obtain ⟨j1, j2, j3, j4⟩ := ih a1 (acc ++ [m]) l nx l1.2.1 h
      refine ⟨by omega, j2, by simp at j3; omega, fun hacc => j4 (fun x hx => ?_)⟩
      rcases List.mem_append.1 hx with h2 | h2
      · exact hacc x h2
      · simp at h2; subst h2; exact l1.2.2

/-- A count of at most so many, and these. -/
def rdCnt {α : Type} (s : ByteArray) (rd : Nat → Except Int (α × Nat)) (a most : Nat) : Except Int (List α × Nat) :=
  match rdCount s a most with
  | .error e => .error e
  | .ok (n, a1) => rdRep rd n a1 []

theorem rdCnt_list {α : Type} (s : ByteArray) (rd : Nat → Except Int (α × Nat)) (r : List UInt8 → Except Int (α × Nat))
    (hrd : ∀ a, a ≤ s.size → rd a = shiftR a (r (s.data.toList.drop a))) (hle : ∀ l x c, r l = .ok (x, c) → c ≤ l.length) (a most : Nat) (ha : a ≤ s.size) :
    rdCnt s rd a most = shiftR a (cntR r most (s.data.toList.drop a)) := by
  unfold rdCnt rdCount cntR
  rw [rdInt_list]
  cases e : rdP 8 0 0 (s.data.toList.drop a) with
  | error er => simp [shiftR]
  | ok p =>
    obtain ⟨n, c⟩ := p
    obtain ⟨_, _, _, n1⟩ := codecNum.back _ _ _ e
    rw [List.length_drop, bytes_len] at n1
    simp only [shiftR]
    by_cases h : most < n
    · simp only [h, if_true]
    · simp only [h, if_false]
      rw [rdRep_list s rd r hrd hle n (a + c) [] (by omega), ← List.drop_drop]
      cases e2 : repR r n ((s.data.toList.drop a).drop c) with
      | error er => simp [shiftR, mapR]
      | ok p =>
        obtain ⟨xs, d⟩ := p
        simp only [shiftR, mapR, Except.ok.injEq, Prod.mk.injEq]
        exact ⟨by simp, by omega⟩

theorem rdCount_le {s : ByteArray} {a most n nx : Nat} (h : rdCount s a most = .ok (n, nx)) : a ≤ nx ∧ nx ≤ s.size ∧ n ≤ most := by
  unfold rdCount at h
  cases h1 : rdInt s a with
  | error e => rw [h1] at h; cases h
  | ok p =>
    obtain ⟨n', a1⟩ := p
    have l1 := rdInt_le h1
    rw [h1] at h
    simp only at h
    by_cases hm : most < n'
    · simp only [hm, if_true] at h; cases h
    · simp only [hm, if_false, Except.ok.injEq, Prod.mk.injEq] at h; omega

theorem rdCnt_le {α : Type} {s : ByteArray} {rd : Nat → Except Int (α × Nat)} (P : α → Prop) (hle : ∀ a x nx, a ≤ s.size → rd a = .ok (x, nx) → a ≤ nx ∧ nx ≤ s.size ∧ P x) {a most nx : Nat} {l : List α}
    (h : rdCnt s rd a most = .ok (l, nx)) : a ≤ nx ∧ nx ≤ s.size ∧ l.length ≤ most ∧ ∀ x ∈ l, P x := by
  unfold rdCnt at h
  cases h1 : rdCount s a most with
  | error e => rw [h1] at h; cases h
  | ok p =>
    obtain ⟨n, a1⟩ := p
    have l1 := rdCount_le h1
    rw [h1] at h
    obtain ⟨j1, j2, j3, j4⟩ := rdRep_le s.size rd P hle n a1 [] l nx l1.2.1 h
    exact ⟨by omega, j2, by simp at j3; omega, j4 (by simp)⟩

theorem rdInt_nz {s : ByteArray} {a : Nat} {er : Int} (h : rdInt s a = .error er) : er ≠ 0 := by
  rw [rdInt_list] at h
  cases e : rdP 8 0 0 (s.data.toList.drop a) with
  | error er' => rw [e] at h; simp only [shiftR, Except.error.injEq] at h; subst h; exact nz_num _ _ _ _ _ e
  | ok p => rw [e] at h; cases h
theorem rdText_nz {s : ByteArray} {a : Nat} {er : Int} (h : rdText s a = .error er) : er ≠ 0 := by
  unfold rdText at h
  cases e : rdInt s a with
  | error er' => rw [e] at h; simp only [Except.error.injEq] at h; subst h; exact rdInt_nz e
  | ok p =>
    obtain ⟨n, nx⟩ := p
    rw [e] at h
    simp only at h
    split at h
    · simp at h; omega
    · split at h
      · simp at h; omega
      · cases h

structure Rc where
  key : ByteArray
  dat : ByteArray

def Rc.val (m : Rc) : Value := .agg #[.string m.key, .string m.dat]
def rcCells (l : List Rc) : List Value := l.flatMap fun m => [.string m.key, .string m.dat]
def rcB (m : Rc) : List UInt8 := txtB m.key ++ txtB m.dat
def rcsB (l : List Rc) : List UInt8 := enc l.length ++ l.flatMap rcB

def rdRc (s : ByteArray) (a : Nat) : Except Int (Rc × Nat) :=
  match rdText s a with
  | .error e => .error e
  | .ok (k, a1) =>
    match rdText s a1 with
    | .error e => .error e
    | .ok (v, a2) => .ok (⟨k, v⟩, a2)

theorem rdRc_le {s : ByteArray} {a nx : Nat} {m : Rc} (h : rdRc s a = .ok (m, nx)) : a ≤ nx ∧ nx ≤ s.size ∧ m.key.size ≤ 1048576 ∧ m.dat.size ≤ 1048576 := by
  unfold rdRc at h
  cases h1 : rdText s a with
  | error e => rw [h1] at h; cases h
  | ok p =>
    obtain ⟨k, a1⟩ := p
    have l1 := rdText_le h1
    rw [h1] at h
    simp only at h
    cases h2 : rdText s a1 with
    | error e => rw [h2] at h; cases h
    | ok p =>
      obtain ⟨v, a2⟩ := p
      have l2 := rdText_le h2
      rw [h2] at h
      simp only [Except.ok.injEq, Prod.mk.injEq] at h
      obtain ⟨rfl, rfl⟩ := h
      exact ⟨by omega, l2.2.1, l1.2.2, l2.2.2⟩

def rdRcL (l : List UInt8) : Except Int (Rc × Nat) := mapR (fun p : ByteArray × ByteArray => (⟨p.1, p.2⟩ : Rc)) (seqR rdTP rdTP l)
def okRc (m : Rc) : Prop := m.key.size ≤ 1048576 ∧ m.dat.size ≤ 1048576
theorem codecRc : Codec rcB rdRcL okRc :=
  (codecText.seq codecText).iso (fun p : ByteArray × ByteArray => (⟨p.1, p.2⟩ : Rc)) (fun m => (m.key, m.dat)) okRc (fun m hm => ⟨rfl, hm⟩) (fun p hp => ⟨rfl, hp⟩)
theorem rdRc_list (s : ByteArray) (a : Nat) (ha : a ≤ s.size) : rdRc s a = shiftR a (rdRcL (s.data.toList.drop a)) := by
  unfold rdRc rdRcL seqR
  rw [rdText_list s a ha]
  cases e : rdTP (s.data.toList.drop a) with
  | error er => simp [shiftR, mapR]
  | ok p =>
    obtain ⟨t, c⟩ := p
    have n1 := (codecText.back _ _ _ e).2.2.2
    rw [List.length_drop, bytes_len] at n1
    simp only [shiftR]
    rw [rdText_list s (a + c) (by omega), ← List.drop_drop]
    cases e3 : rdTP ((s.data.toList.drop a).drop c) with
    | error er => simp [shiftR, mapR]
    | ok p =>
      obtain ⟨u, c3⟩ := p
      simp only [shiftR, mapR, Except.ok.injEq, Prod.mk.injEq]
      exact ⟨trivial, by omega⟩
theorem rdRc_nz {s : ByteArray} {a : Nat} {er : Int} (h : rdRc s a = .error er) : er ≠ 0 := by
  unfold rdRc at h
  cases h1 : rdText s a with
  | error e => rw [h1] at h; simp only [Except.error.injEq] at h; subst h; exact rdText_nz h1
  | ok p =>
    obtain ⟨k, a1⟩ := p
    rw [h1] at h
    simp only at h
    cases h2 : rdText s a1 with
    | error e => rw [h2] at h; simp only [Except.error.injEq] at h; subst h; exact rdText_nz h2
    | ok p => rw [h2] at h; cases h

/-- Records read at a place. -/
def rdRcs (s : ByteArray) (a most : Nat) : Except Int (List Rc × Nat) := rdCnt s (rdRc s) a most
theorem rdRcs_le {s : ByteArray} {a most nx : Nat} {l : List Rc} (h : rdRcs s a most = .ok (l, nx)) : a ≤ nx ∧ nx ≤ s.size ∧ l.length ≤ most ∧ ∀ m ∈ l, okRc m :=
  rdCnt_le okRc (fun a x nx _ h => by have := rdRc_le h; exact ⟨this.1, this.2.1, this.2.2.1, this.2.2.2⟩) h
theorem rdRcs_list (s : ByteArray) (a most : Nat) (ha : a ≤ s.size) : rdRcs s a most = shiftR a (cntR rdRcL most (s.data.toList.drop a)) :=
  rdCnt_list s (rdRc s) rdRcL (rdRc_list s) (fun l x c h => (codecRc.back _ _ _ h).2.2.2) a most ha

/-- One text below another. -/
def lsB (a b : ByteArray) : Bool := Op.bytesLess a.toList b.toList
theorem bytesLess_flip : ∀ (x y : List UInt8), (Op.bytesLess x y || x == y) = !Op.bytesLess y x
  | [], [] => rfl
  | [], b :: y => by simp [Op.bytesLess]
  | a :: x, [] => by simp [Op.bytesLess]
  | a :: x, b :: y => by
    have ih := bytesLess_flip x y
    simp only [Op.bytesLess, List.cons_beq_cons]
    by_cases h1 : a < b
    · have h2 : ¬ b < a := by rw [UInt8.lt_iff_toNat_lt] at *; omega
      have h3 : (b == a) = false := by
        rw [beq_eq_false_iff_ne]; rintro rfl; exact absurd h1 h2
      simp [h1, h2, h3]
    · by_cases h2 : a = b
      · subst h2
        have h3 : ¬ a < a := by rw [UInt8.lt_iff_toNat_lt]; omega
        simp [h3, ih]
      · have h3 : b < a := by
          have h4 : a.toNat ≠ b.toNat := fun e => h2 (UInt8.toNat_inj.1 e)
          rw [UInt8.lt_iff_toNat_lt] at *; omega
        have h5 : (a == b) = false := by rw [beq_eq_false_iff_ne]; exact h2
        simp [h1, h3, h5]
theorem lsB_flip (a b : ByteArray) : (Op.bytesLess a.toList b.toList || a.toList == b.toList) = !lsB b a := bytesLess_flip _ _

def rcBad (m : Rc) : Bool := decide (m.key.size = 0) || decide (64 < m.key.size) || decide (4096 < m.dat.size)
/-- Why records may not be, the key ahead given. -/
def riseF (last : ByteArray) : List Rc → Int
  | [] => 0
  | m :: l => if rcBad m = true then 14 else if lsB last m.key = true then riseF m.key l else 15
def riseR (l : List Rc) : Int := if 4096 < l.length then 2 else riseF ⟨#[]⟩ l

theorem riseF_ok : ∀ (l : List Rc) (last : ByteArray), riseF last l = 0 → ∀ m ∈ l, m.key.size ≤ 64 ∧ m.dat.size ≤ 4096 := by
  intro l
  induction l with
  | nil => intro last h m hm; cases hm
  | cons x l ih =>
    intro last h m hm
    simp only [riseF] at h
    split at h
    · omega
    · rename_i hb
      split at h
      · rcases List.mem_cons.1 hm with rfl | hm
        · simp only [rcBad, Bool.or_eq_true, decide_eq_true_eq] at hb; omega
        · exact ih _ h m hm
      · omega
theorem rcB_len (m : Rc) (h : m.key.size ≤ 64 ∧ m.dat.size ≤ 4096) : (rcB m).length ≤ 4180 := by
  have h1 := txtB_len m.key
  have h2 := txtB_len m.dat
  unfold rcB
  rw [List.length_append]; omega
theorem flatMap_len {α : Type} (f : α → List UInt8) (n : Nat) : ∀ (l : List α), (∀ m ∈ l, (f m).length ≤ n) → (l.flatMap f).length ≤ n * l.length
  | [], _ => by simp
  | x :: l, h => by
    have h1 := flatMap_len f n l (fun m hm => h m (by simp [hm]))
    have h2 := h x (by simp)
    rw [List.flatMap_cons, List.length_append, List.length_cons, Nat.mul_add, Nat.mul_one]; omega
theorem take_flat {α : Type} (f : α → List UInt8) (l : List α) (k : Nat) (h : k < l.length) : (l.take (k + 1)).flatMap f = (l.take k).flatMap f ++ f l[k] := by
  rw [List.take_succ_eq_append_getElem h, List.flatMap_append]; simp
end Go.Proofs.Ytdaonkgcdheplaa
