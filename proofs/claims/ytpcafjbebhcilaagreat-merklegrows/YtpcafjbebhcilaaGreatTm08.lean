/- Texts as bytes, there and back. -/
import Derived.Test.YtpcafjbebhcilaaGreatTm07
import Derived.WalkKit
import Derived.ProofKit
namespace Go.Proofs.YtpcafjbebhcilaaGreat
open Go.RowKit
set_option linter.unusedVariables false
set_option linter.unusedSimpArgs false

def txtB (t : ByteArray) : List UInt8 := enc t.size ++ t.data.toList
theorem txtB_len (t : ByteArray) : (txtB t).length ≤ t.size + 10 := by
  unfold txtB
  have h := enc_le t.size
  have hsz : t.data.toList.length = t.size := by rw [Array.length_toList]; rfl
  rw [List.length_append]; omega
theorem bytes_len (t : ByteArray) : t.data.toList.length = t.size := by rw [Array.length_toList]; rfl
theorem bytes_eta (t : ByteArray) : (⟨t.data.toList.toArray⟩ : ByteArray) = t := by
  apply ByteArray.ext; simp

def rdTP (l : List UInt8) : Except Int (ByteArray × Nat) :=
  match rdP 8 0 0 l with
  | .error e => .error e
  | .ok (n, c) => if 1048576 < n then .error 4 else if l.length < c + n then .error 10 else .ok (⟨((l.drop c).take n).toArray⟩, c + n)

theorem codecText : Codec txtB rdTP (fun t => t.size ≤ 1048576) := by
  refine ⟨?_, ?_, ?_⟩
  · intro t post h
    unfold rdTP txtB
    have hb := bytes_len t
    rw [List.append_assoc, codecNum.there t.size _ (by omega)]
    simp only [List.drop_left]
    rw [if_neg (by omega), if_neg (by simp only [List.length_append]; omega)]
    have e : (t.data.toList ++ post).take t.size = t.data.toList := by rw [← hb]; simp
    rw [e, bytes_eta]
    simp only [List.length_append, hb]
  · intro l t c h
    unfold rdTP at h
    cases e1 : rdP 8 0 0 l with
    | error e => rw [e1] at h; cases h
    | ok p =>
      obtain ⟨n, c1⟩ := p
      rw [e1] at h
      simp only at h
      split at h
      · cases h
      · split at h
        · cases h
        · rename_i h1 h2
          simp only [Except.ok.injEq, Prod.mk.injEq] at h
          obtain ⟨rfl, rfl⟩ := h
          obtain ⟨o1, k1, t1, n1⟩ := codecNum.back _ _ _ e1
          have hlen : ((l.drop c1).take n).length = n := by rw [List.length_take, List.length_drop]; omega
          have hsz : (⟨((l.drop c1).take n).toArray⟩ : ByteArray).size = n := by
            show ((l.drop c1).take n).toArray.size = n
            simpa using hlen
          unfold txtB
          rw [hsz]
          refine ⟨by omega, ?_, ?_, by omega⟩
          · rw [List.length_append]
            simp only [hlen]
            omega
          · rw [List.take_add, t1]
  · intro t j h hj
    unfold rdTP txtB at *
    have hb := bytes_len t
    rw [List.length_append] at hj
    by_cases hc : j < (enc t.size).length
    · rw [List.take_append_of_le_length (by omega), codecNum.cut t.size j (by omega) hc]
    · have e : (enc t.size ++ t.data.toList).take j = enc t.size ++ t.data.toList.take (j - (enc t.size).length) := by
        rw [List.take_append, List.take_of_length_le (by omega)]
      rw [e, codecNum.there t.size _ (by omega)]
      simp only
      rw [if_neg (by omega), if_pos (by rw [List.length_append, List.length_take]; omega)]
theorem heap_alloc_last (w : World) (o : Obj) : (w.alloc o).heap[w.heap.size]? = some o := heap_alloc_new w o

theorem cellOf {w : World} {k o : Nat} {cs : Array Value} {t : TypeId} {fr : Nat × Nat} {v : Value} (h : w.heap[k]? = some (.cells cs t fr)) (hv : cs[o]? = some v) : w.cell? ⟨k, o, none⟩ = some v := by
  simp [World.cell?, h, hv]
end Go.Proofs.YtpcafjbebhcilaaGreat

namespace Go.Proofs.YtpcafjbebhcilaaGreat
open Go.RowKit
set_option linter.unusedSimpArgs false
set_option linter.unusedVariables false

section
variable {α : Type} [DecidableEq α]
/-- Where a key stands, counted from i on. -/
def seek (k : α) : List α → Nat → Option Nat
  | [], _ => none
  | x :: xs, i => if k = x then some i else seek k xs (i + 1)
/-- A list with a key noted, if it is new. -/
def note (l : List α) (k : α) : List α := if k ∈ l then l else l ++ [k]
/-- A key's number, from 1 on. -/
def num (l : List α) (k : α) : Nat := (seek k l 0).getD 0 + 1

/-- Is a key there? -/
def isIn (l : List α) (k : α) : Bool := (seek k l 0).isSome
theorem seek_none (k : α) (l : List α) (i : Nat) (h : k ∉ l) : seek k l i = none := by
  induction l generalizing i with
  | nil => rfl
  | cons x xs ih =>
    simp only [List.mem_cons, not_or] at h
    simp [seek, h.1, ih _ h.2]
theorem seek_some (k : α) (l : List α) (i : Nat) (h : k ∈ l) : ∃ j, seek k l i = some (i + j) ∧ l[j]? = some k ∧ j < l.length := by
  induction l generalizing i with
  | nil => simp at h
  | cons x xs ih =>
    by_cases hx : k = x
    · exact ⟨0, by simp [seek, hx], by simp [hx], by simp⟩
    · have h2 : k ∈ xs := by simpa [hx] using h
      obtain ⟨j, h1, h3, h4⟩ := ih (i + 1) h2
      exact ⟨j + 1, by simp only [seek, if_neg hx, h1]; congr 1; omega, by simpa using h3, by simpa using h4⟩
theorem seek_isSome (k : α) (l : List α) (i : Nat) : (seek k l i).isSome = decide (k ∈ l) := by
  by_cases h : k ∈ l
  · obtain ⟨j, h1, _⟩ := seek_some k l i h
    simp [h1, h]
  · simp [seek_none k l i h, h]
theorem isIn_iff (l : List α) (k : α) : isIn l k = true ↔ k ∈ l := by unfold isIn; rw [seek_isSome]; simp
theorem isIn_false (l : List α) (k : α) : isIn l k = false ↔ k ∉ l := by rw [← isIn_iff]; simp
theorem seek_app (k : α) (l m : List α) (i : Nat) (h : k ∈ l) : seek k (l ++ m) i = seek k l i := by
  induction l generalizing i with
  | nil => simp at h
  | cons x xs ih =>
    by_cases hx : k = x
    · simp [seek, hx]
    · have h2 : k ∈ xs := by simpa [hx] using h
      simp [seek, hx, ih _ h2]
theorem seek_new (k : α) (l : List α) (i : Nat) (h : k ∉ l) : seek k (l ++ [k]) i = some (i + l.length) := by
  induction l generalizing i with
  | nil => simp [seek]
  | cons x xs ih =>
    simp only [List.mem_cons, not_or] at h
    simp only [List.cons_append, seek, if_neg h.1, ih _ h.2, List.length_cons]
    congr 1; omega
theorem mem_note (l : List α) (x y : α) : y ∈ note l x ↔ y ∈ l ∨ y = x := by
  unfold note
  split
  · rename_i h
    constructor
    · exact Or.inl
    · rintro (h1 | rfl)
      · exact h1
      · exact h
  · simp
theorem note_old {l : List α} {k : α} (h : k ∈ l) : note l k = l := if_pos h
theorem note_new {l : List α} {k : α} (h : k ∉ l) : note l k = l ++ [k] := if_neg h
theorem note_len (l : List α) (k : α) : (note l k).length ≤ l.length + 1 := by
  unfold note; split <;> simp
theorem num_note {l : List α} {k : α} (x : α) (h : k ∈ l) : num (note l x) k = num l k := by
  unfold note num
  split
  · rfl
  · rw [seek_app k l [x] 0 h]
theorem num_new {l : List α} {k : α} (h : k ∉ l) : num (note l k) k = l.length + 1 := by
  rw [note_new h]; unfold num; rw [seek_new k l 0 h]; simp
theorem num_at {l : List α} {k : α} (h : k ∈ l) : l[num l k - 1]? = some k ∧ num l k ≤ l.length ∧ 1 ≤ num l k := by
  obtain ⟨j, h1, h2, h3⟩ := seek_some k l 0 h
  unfold num; rw [h1]; simp only [Option.getD_some, Nat.zero_add, Nat.add_sub_cancel]
  exact ⟨h2, h3, by omega⟩
theorem num_inj {l : List α} {k k' : α} (h : k ∈ l) (h' : k' ∈ l) (e : num l k = num l k') : k = k' := by
  have a := (num_at h).1
  have b := (num_at h').1
  rw [e, b] at a
  injection a with a
  exact a.symm
theorem num_pos (l : List α) (k : α) : 1 ≤ num l k := by unfold num; omega
theorem num_le (l : List α) (k : α) : num l k ≤ l.length + 1 := by
  by_cases h : k ∈ l
  · have := (num_at h).2.1; omega
  · unfold num; rw [seek_none k l 0 h]; simp
end

/-- The eight bytes of a number, the highest first. -/
def eightL (n : Nat) : List UInt8 := [UInt8.ofNat (n / 256 ^ 7), UInt8.ofNat (n / 256 ^ 6), UInt8.ofNat (n / 256 ^ 5), UInt8.ofNat (n / 256 ^ 4), UInt8.ofNat (n / 256 ^ 3), UInt8.ofNat (n / 256 ^ 2), UInt8.ofNat (n / 256), UInt8.ofNat n]
def eightB (n : Nat) : ByteArray := ⟨(eightL n).toArray⟩
/-- A signature's bytes. -/
def sgnB (n : Nat) : ByteArray := ⟨(115 :: eightL n).toArray⟩
theorem eightL_inj {n m : Nat} (hn : n < 2 ^ 64) (hm : m < 2 ^ 64) (h : eightL n = eightL m) : n = m := by
  unfold eightL at h
  simp only [List.cons.injEq, and_true, ← UInt8.toNat_inj, UInt8.toNat_ofNat'] at h
  obtain ⟨h7, h6, h5, h4, h3, h2, h1, h0⟩ := h
  simp only [Nat.reducePow] at *
  omega
theorem eightB_inj {n m : Nat} (hn : n < 2 ^ 64) (hm : m < 2 ^ 64) (h : eightB n = eightB m) : n = m := by
  unfold eightB at h
  injection h with h
  injection h with h
  exact eightL_inj hn hm h
theorem sgnB_inj {n m : Nat} (hn : n < 2 ^ 64) (hm : m < 2 ^ 64) (h : sgnB n = sgnB m) : n = m := by
  unfold sgnB at h
  injection h with h
  injection h with h
  injection h with _ h
  exact eightL_inj hn hm h
theorem eightB_size (n : Nat) : (eightB n).size = 8 := rfl
theorem sgnB_size (n : Nat) : (sgnB n).size = 9 := rfl
theorem sgnB_cat (n : Nat) : (⟨#[115]⟩ : ByteArray) ++ eightB n = sgnB n := by
  apply ByteArray.ext
  simp [sgnB, eightB, ByteArray.data_append]
end Go.Proofs.YtpcafjbebhcilaaGreat
