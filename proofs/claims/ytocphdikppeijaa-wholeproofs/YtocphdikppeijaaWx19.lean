/- Bodies and their bytes: there and back, a byte more, some fewer, and no second way. -/
import Derived.Test.YtocphdikppeijaaWx18
import Derived.Test.YtocphdikppeijaaWx17
import Derived.WalkKit
import Derived.ProofKit
namespace Go.Proofs.Ytocphdikppeijaa
open Go.RowKit
set_option linter.unusedVariables false
set_option linter.unusedSimpArgs false

theorem okSg_of (m : Sg) (h : sgOk m = true) : okSg m := by
  unfold sgOk at h
  simp only [Bool.and_eq_true, decide_eq_true_eq] at h
  exact ⟨⟨h.1.1.1, by omega⟩, h.1.2, by omega⟩

theorem okBd_of {b : Bd} (h : right b = 0) : okBd b := by
  obtain ⟨hk, hv, hsq, hc, hst, hdg, htx, hll, hal⟩ := right_ok h
  exact ⟨by omega, by omega, by omega, by omega, by omega, by omega, htx, hll, fun m hm => okSg_of m ((List.all_eq_true.1 hal) m hm)⟩

theorem arr_size (l : List UInt8) : (⟨l.toArray⟩ : ByteArray).size = l.length := by
  show l.toArray.size = _; simp

theorem rdBd_bytes (b : Bd) (post : List UInt8) (h : right b = 0) : rdBd ⟨(bdB b ++ post).toArray⟩ 0 = .ok (b, (bdB b).length) := by
  rw [rdBd_list _ 0 (Nat.zero_le _)]
  simp only [List.drop_zero, List.toList_toArray]
  rw [codecBd.there b post (okBd_of h)]
  simp [shiftR]

theorem of_bytes (b : Bd) (h : right b = 0) (hl : (bdB b).length ≤ 1048576) : ofR ⟨(bdB b).toArray⟩ = .ok b := by
  have hr := rdBd_bytes b [] h
  rw [List.append_nil] at hr
  unfold ofR
  rw [arr_size, if_neg (by omega), hr]
  simp only
  rw [if_neg (by omega), if_pos h]

theorem of_more (b : Bd) (more : List UInt8) (h : right b = 0) (hm : 0 < more.length) (hl : (bdB b).length + more.length ≤ 1048576) : ofR ⟨(bdB b ++ more).toArray⟩ = .error 12 := by
  unfold ofR
  rw [arr_size, List.length_append, if_neg (by omega), rdBd_bytes b more h]
  simp only
  rw [if_pos (by omega)]

theorem of_cut (b : Bd) (j : Nat) (h : right b = 0) (hl : (bdB b).length ≤ 1048576) (hj : j < (bdB b).length) : ofR ⟨((bdB b).take j).toArray⟩ = .error 10 := by
  unfold ofR
  rw [arr_size, List.length_take, if_neg (by omega), rdBd_list _ 0 (Nat.zero_le _)]
  simp only [List.drop_zero, List.toList_toArray]
  rw [codecBd.cut b j (okBd_of h) hj]
  simp [shiftR]

theorem of_canon {s : ByteArray} {b : Bd} (h : ofR s = .ok b) : right b = 0 ∧ bdB b = s.data.toList ∧ s.size ≤ 1048576 := by
  unfold ofR at h
  split at h
  · cases h
  · rename_i hs
    rw [rdBd_list _ 0 (Nat.zero_le _)] at h
    simp only [List.drop_zero] at h
    cases e : rdBdL s.data.toList with
    | error er => rw [e] at h; simp [shiftR] at h
    | ok p =>
      obtain ⟨b', c⟩ := p
      rw [e] at h
      simp only [shiftR] at h
      split at h
      · cases h
      · rename_i ht
        split at h
        · rename_i hr
          simp only [Except.ok.injEq] at h
          subst h
          obtain ⟨_, k, t, n⟩ := codecBd.back _ _ _ e
          rw [bytes_len] at n
          have hc : c = s.size := by omega
          rw [hc] at t
          rw [← bytes_len, List.take_length] at t
          exact ⟨hr, t.symm, by omega⟩
        · cases h

theorem bdB_inj {a b : Bd} (ha : right a = 0) (hb : right b = 0) (h : bdB a = bdB b) : a = b := by
  have h1 := codecBd.there a [] (okBd_of ha)
  have h2 := codecBd.there b [] (okBd_of hb)
  rw [h, h2] at h1
  simp only [Except.ok.injEq, Prod.mk.injEq] at h1
  exact h1.1.symm

/-- An error of the reader's is never OK. -/
theorem bdB_pos (b : Bd) : 0 < (bdB b).length := by
  unfold bdB
  have := enc_pos b.kind.toNat
  rw [List.length_append]; omega
end Go.Proofs.Ytocphdikppeijaa

namespace Go.Proofs.Ytocphdikppeijaa
open Go.RowKit
set_option linter.unusedVariables false
set_option linter.unusedSimpArgs false

def NZ {α : Type} (rd : List UInt8 → Except Int (α × Nat)) : Prop := ∀ l er, rd l = .error er → er ≠ 0

theorem nz_num : ∀ k i n, NZ (rdP k i n) := by
  intro k
  induction k with
  | zero => intro i n l er h; simp [rdP] at h; omega
  | succ k ih =>
    intro i n l er h
    cases l with
    | nil => simp [rdP] at h; omega
    | cons c l =>
      simp only [rdP] at h
      split at h
      · exact ih _ _ _ _ h
      · split at h
        · simp at h; omega
        · cases h
theorem nz_seq {α β : Type} {r1 : List UInt8 → Except Int (α × Nat)} {r2 : List UInt8 → Except Int (β × Nat)} (h1 : NZ r1) (h2 : NZ r2) : NZ (seqR r1 r2) := by
  intro l er h
  unfold seqR at h
  cases e1 : r1 l with
  | error e => rw [e1] at h; simp only [Except.error.injEq] at h; subst h; exact h1 _ _ e1
  | ok p =>
    obtain ⟨x, c⟩ := p
    rw [e1] at h
    simp only at h
    cases e2 : r2 (l.drop c) with
    | error e => rw [e2] at h; simp only [Except.error.injEq] at h; subst h; exact h2 _ _ e2
    | ok p => rw [e2] at h; cases h
theorem nz_map {α β : Type} {r : List UInt8 → Except Int (α × Nat)} (f : α → β) (h : NZ r) : NZ (fun l => mapR f (r l)) := by
  intro l er hh
  cases e : r l with
  | error e' => simp only [e, mapR, Except.error.injEq] at hh; subst hh; exact h _ _ e
  | ok p => simp only [e, mapR] at hh; cases hh
theorem nz_text : NZ rdTP := by
  intro l er h
  unfold rdTP at h
  cases e1 : rdP 8 0 0 l with
  | error e => rw [e1] at h; simp only [Except.error.injEq] at h; subst h; exact nz_num _ _ _ _ _ e1
  | ok p =>
    obtain ⟨n, c⟩ := p
    rw [e1] at h
    simp only at h
    split at h
    · simp at h; omega
    · split at h
      · simp at h; omega
      · cases h
theorem nz_rep {α : Type} {r : List UInt8 → Except Int (α × Nat)} (h : NZ r) : ∀ k, NZ (repR r k) := by
  intro k
  induction k with
  | zero => intro l er hh; simp [repR] at hh
  | succ k ih =>
    intro l er hh
    simp only [repR] at hh
    cases e1 : r l with
    | error e => rw [e1] at hh; simp only [Except.error.injEq] at hh; subst hh; exact h _ _ e1
    | ok p =>
      obtain ⟨x, c⟩ := p
      rw [e1] at hh
      simp only at hh
      cases e2 : repR r k (l.drop c) with
      | error e => rw [e2] at hh; simp only [Except.error.injEq] at hh; subst hh; exact ih _ _ e2
      | ok p => rw [e2] at hh; cases hh
theorem nz_cnt {α : Type} {r : List UInt8 → Except Int (α × Nat)} (h : NZ r) (most : Nat) : NZ (cntR r most) := by
  intro l er hh
  unfold cntR at hh
  cases e1 : rdP 8 0 0 l with
  | error e => rw [e1] at hh; simp only [Except.error.injEq] at hh; subst hh; exact nz_num _ _ _ _ _ e1
  | ok p =>
    obtain ⟨n, c⟩ := p
    rw [e1] at hh
    simp only at hh
    split at hh
    · simp at hh; omega
    · cases e2 : repR r n (l.drop c) with
      | error e => rw [e2] at hh; simp only [Except.error.injEq] at hh; subst hh; exact nz_rep h _ _ _ e2
      | ok p => rw [e2] at hh; cases hh
theorem nz_sg : NZ rdSgL := nz_map _ (nz_seq (nz_num _ _ _) (nz_seq nz_text nz_text))
theorem nz_bd : NZ rdBdL := nz_map _ (nz_seq (nz_num _ _ _) (nz_seq (nz_num _ _ _) (nz_seq (nz_num _ _ _) (nz_seq (nz_num _ _ _) (nz_seq (nz_num _ _ _) (nz_seq nz_text (nz_seq nz_text (nz_cnt nz_sg 64))))))))

theorem ofR_err {s : ByteArray} {er : Int} (h : ofR s = .error er) : er ≠ 0 := by
  unfold ofR at h
  split at h
  · simp at h; omega
  · rw [rdBd_list _ 0 (Nat.zero_le _)] at h
    cases e : rdBdL (s.data.toList.drop 0) with
    | error er' => rw [e] at h; simp only [shiftR, Except.error.injEq] at h; subst h; exact nz_bd _ _ e
    | ok p =>
      obtain ⟨b, c⟩ := p
      rw [e] at h
      simp only [shiftR] at h
      split at h
      · simp at h; omega
      · split at h
        · cases h
        · rename_i hr
          simp only [Except.error.injEq] at h
          subst h; exact hr
end Go.Proofs.Ytocphdikppeijaa

namespace Go.Proofs.Ytocphdikppeijaa
open Go.RowKit
set_option linter.unusedSimpArgs false
set_option linter.unusedVariables false

section
variable {α : Type} [DecidableEq α]
/-- Where a key stands, counted from i on. -/
def seek (k : α) : List α → Nat → Option Nat
  | [], _ => none
  | x :: xs, i => if k = x then some i else seek k xs (i + 1)
/-- A list with a key noted, if it is new. -/
def note (l : List α) (k : α) : List α := if k ∈ l then l else l ++ [k]
/-- A key's number, from 1 on. -/
def num (l : List α) (k : α) : Nat := (seek k l 0).getD 0 + 1

/-- Is a key there? -/
def isIn (l : List α) (k : α) : Bool := (seek k l 0).isSome
theorem seek_none (k : α) (l : List α) (i : Nat) (h : k ∉ l) : seek k l i = none := by
  induction l generalizing i with
  | nil => rfl
  | cons x xs ih =>
    simp only [List.mem_cons, not_or] at h
    simp [seek, h.1, ih _ h.2]
theorem seek_some (k : α) (l : List α) (i : Nat) (h : k ∈ l) : ∃ j, seek k l i = some (i + j) ∧ l[j]? = some k ∧ j < l.length := by
  induction l generalizing i with
  | nil => simp at h
  | cons x xs ih =>
    by_cases hx : k = x
    · exact ⟨0, by simp [seek, hx], by simp [hx], by simp⟩
    · have h2 : k ∈ xs := by simpa [hx] using h
      obtain ⟨j, h1, h3, h4⟩ := ih (i + 1) h2
      exact ⟨j + 1, by simp only [seek, if_neg hx, h1]; congr 1; omega, by simpa using h3, by simpa using h4⟩
theorem seek_isSome (k : α) (l : List α) (i : Nat) : (seek k l i).isSome = decide (k ∈ l) := by
  by_cases h : k ∈ l
  · obtain ⟨j, h1, _⟩ := seek_some k l i h
    simp [h1, h]
  · simp [seek_none k l i h, h]
theorem isIn_iff (l : List α) (k : α) : isIn l k = true ↔ k ∈ l := by unfold isIn; rw [seek_isSome]; simp
theorem isIn_false (l : List α) (k : α) : isIn l k = false ↔ k ∉ l := by rw [← isIn_iff]; simp
theorem seek_app (k : α) (l m : List α) (i : Nat) (h : k ∈ l) : seek k (l ++ m) i = seek k l i := by
  induction l generalizing i with
  | nil => simp at h
  | cons x xs ih =>
    by_cases hx : k = x
    · simp [seek, hx]
    · have h2 : k ∈ xs := by simpa [hx] using h
      simp [seek, hx, ih _ h2]
theorem seek_new (k : α) (l : List α) (i : Nat) (h : k ∉ l) : seek k (l ++ [k]) i = some (i + l.length) := by
  induction l generalizing i with
  | nil => simp [seek]
  | cons x xs ih =>
    simp only [List.mem_cons, not_or] at h
    simp only [List.cons_append, seek, if_neg h.1, ih _ h.2, List.length_cons]
    congr 1; omega
theorem mem_note (l : List α) (x y : α) : y ∈ note l x ↔ y ∈ l ∨ y = x := by
  unfold note
  split
  · rename_i h
    constructor
    · exact Or.inl
    · rintro (h1 | rfl)
      · exact h1
      · exact h
  · simp
theorem note_old {l : List α} {k : α} (h : k ∈ l) : note l k = l := if_pos h
theorem note_new {l : List α} {k : α} (h : k ∉ l) : note l k = l ++ [k] := if_neg h
theorem note_len (l : List α) (k : α) : (note l k).length ≤ l.length + 1 := by
  unfold note; split <;> simp
theorem num_note {l : List α} {k : α} (x : α) (h : k ∈ l) : num (note l x) k = num l k := by
  unfold note num
  split
  · rfl
  · rw [seek_app k l [x] 0 h]
theorem num_new {l : List α} {k : α} (h : k ∉ l) : num (note l k) k = l.length + 1 := by
  rw [note_new h]; unfold num; rw [seek_new k l 0 h]; simp
theorem num_at {l : List α} {k : α} (h : k ∈ l) : l[num l k - 1]? = some k ∧ num l k ≤ l.length ∧ 1 ≤ num l k := by
  obtain ⟨j, h1, h2, h3⟩ := seek_some k l 0 h
  unfold num; rw [h1]; simp only [Option.getD_some, Nat.zero_add, Nat.add_sub_cancel]
  exact ⟨h2, h3, by omega⟩
theorem num_inj {l : List α} {k k' : α} (h : k ∈ l) (h' : k' ∈ l) (e : num l k = num l k') : k = k' := by
  have a := (num_at h).1
  have b := (num_at h').1
  rw [e, b] at a
  injection a with a
  exact a.symm
theorem num_pos (l : List α) (k : α) : 1 ≤ num l k := by unfold num; omega
theorem num_le (l : List α) (k : α) : num l k ≤ l.length + 1 := by
  by_cases h : k ∈ l
  · have := (num_at h).2.1; omega
  · unfold num; rw [seek_none k l 0 h]; simp
end

/-- The eight bytes of a number, the highest first. -/
def eightL (n : Nat) : List UInt8 := [UInt8.ofNat (n / 256 ^ 7), UInt8.ofNat (n / 256 ^ 6), UInt8.ofNat (n / 256 ^ 5), UInt8.ofNat (n / 256 ^ 4), UInt8.ofNat (n / 256 ^ 3), UInt8.ofNat (n / 256 ^ 2), UInt8.ofNat (n / 256), UInt8.ofNat n]
def eightB (n : Nat) : ByteArray := ⟨(eightL n).toArray⟩
/-- A signature's bytes. -/
def sgnB (n : Nat) : ByteArray := ⟨(115 :: eightL n).toArray⟩
theorem eightL_inj {n m : Nat} (hn : n < 2 ^ 64) (hm : m < 2 ^ 64) (h : eightL n = eightL m) : n = m := by
  unfold eightL at h
  simp only [List.cons.injEq, and_true, ← UInt8.toNat_inj, UInt8.toNat_ofNat'] at h
  obtain ⟨h7, h6, h5, h4, h3, h2, h1, h0⟩ := h
  simp only [Nat.reducePow] at *
  omega
theorem eightB_inj {n m : Nat} (hn : n < 2 ^ 64) (hm : m < 2 ^ 64) (h : eightB n = eightB m) : n = m := by
  unfold eightB at h
  injection h with h
  injection h with h
  exact eightL_inj hn hm h
theorem sgnB_inj {n m : Nat} (hn : n < 2 ^ 64) (hm : m < 2 ^ 64) (h : sgnB n = sgnB m) : n = m := by
  unfold sgnB at h
  injection h with h
  injection h with h
  injection h with _ h
  exact eightL_inj hn hm h
theorem eightB_size (n : Nat) : (eightB n).size = 8 := rfl
theorem sgnB_size (n : Nat) : (sgnB n).size = 9 := rfl
theorem sgnB_cat (n : Nat) : (⟨#[115]⟩ : ByteArray) ++ eightB n = sgnB n := by
  apply ByteArray.ext
  simp [sgnB, eightB, ByteArray.data_append]
end Go.Proofs.Ytocphdikppeijaa
