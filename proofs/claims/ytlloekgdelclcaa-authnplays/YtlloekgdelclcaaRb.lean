/- The document's book: two rows behind a block. -/
import Derived.Test.YtlloekgdelclcaaRbE
namespace Go.Proofs.Ytlloekgdelclcaa
open Go.RowKit
set_option linter.unusedSimpArgs false
set_option linter.unusedVariables false

def txC (T : List ByteArray) : List Value := T.map fun s => .string s
def wdC (S : List (Int × ByteArray)) : List Value := S.flatMap fun q => [.int .i64 q.1, .string q.2]
theorem txC_at (T : List ByteArray) (i : Nat) (h : i < T.length) : (txC T)[i]? = some (.string T[i]) := by simp [txC, h]
theorem txC_snoc (T : List ByteArray) (s : ByteArray) : txC (T ++ [s]) = txC T ++ [.string s] := by simp [txC]
theorem wdC_snoc (S : List (Int × ByteArray)) (q : Int × ByteArray) : wdC (S ++ [q]) = wdC S ++ [.int .i64 q.1, .string q.2] := by simp [wdC]
theorem wdC_len (S : List (Int × ByteArray)) : (wdC S).length = S.length * 2 := by
  induction S with
  | nil => rfl
  | cons a S ih => simp [wdC] at ih ⊢; omega
theorem wdC_at (S : List (Int × ByteArray)) (i : Nat) (h : i < S.length) : (wdC S)[i * 2]? = some (.int .i64 S[i].1) ∧ (wdC S)[i * 2 + 1]? = some (.string S[i].2) := by
  induction S generalizing i with
  | nil => simp at h
  | cons a S ih =>
    have e : wdC (a :: S) = .int .i64 a.1 :: .string a.2 :: wdC S := by simp [wdC]
    rw [e]
    cases i with
    | zero => exact ⟨rfl, rfl⟩
    | succ i =>
      have := ih i (by simpa using h)
      rw [show (i + 1) * 2 = i * 2 + 2 by omega]
      exact ⟨by simpa using this.1, by simpa using this.2⟩

/-- The document's book in memory: its block, the two rows. -/
structure RB (w : World) (base r : Nat) (tv sv : Value) (T : List ByteArray) (S : List (Int × ByteArray)) : Prop where
  blk : Blk w r #[tv, sv] 29
  rb : base ≤ r
  texts : w.ownsRow base 9 1 tv T.length (txC T)
  signed : w.ownsRow base 68 2 sv S.length (wdC S)
variable {p b x y base r : Nat} {tv sv : Value} {T T' : List ByteArray} {S S' : List (Int × ByteArray)}
theorem RB.below {w w' : World} (h : RB w base r tv sv T S) (k : Below w.heap.size w w') : RB w' base r tv sv T S := ⟨h.blk.below k, h.rb, own_below h.texts k, own_below h.signed k⟩
theorem RB.off2 {w w' : World} (h : RB w base r tv sv T S) (K : Book w p b x y T' S') (k : Off2 x y w w') : RB w' base r tv sv T S := by
  refine ⟨h.blk.off2 k (fun e => ?_) (fun e => ?_), h.rb, own_off2 K h.texts k, own_off2 K h.signed k⟩
  · have h1 := h.blk; unfold Blk at h1; rw [e, K.nums.mx] at h1; cases h1
  · have h1 := h.blk; unfold Blk at h1; rw [e, K.nums.my] at h1; cases h1

/-- All but a block and a row's are as they were. -/
structure Off3 (r : Nat) (row : Option Nat) (w w' : World) : Prop where
  os : w'.os = w.os
  tape : w'.tape = w.tape
  output : w'.output = w.output
  size : w.heap.size ≤ w'.heap.size
  block : ∀ k, k < w.heap.size → k ≠ r → row ≠ some k → w'.heap[k]? = w.heap[k]?
theorem Off3.of_below {row : Option Nat} {w w' : World} (h : Below w.heap.size w w') : Off3 r row w w' := ⟨h.os, h.tape, h.output, h.size, fun k hk _ _ => h.block k hk⟩
theorem Off3.trans {row : Option Nat} {w w1 w2 : World} (h : Off3 r row w w1) (k : Below w1.heap.size w1 w2) : Off3 r row w w2 :=
  ⟨k.os.trans h.os, k.tape.trans h.tape, k.output.trans h.output, Nat.le_trans h.size k.size, fun i hi ha hb => (k.block i (Nat.lt_of_lt_of_le hi h.size)).trans (h.block i hi ha hb)⟩
theorem Off3.belowB {row : Option Nat} {B : Nat} {w0 w w' : World} (h : Off3 r row w w') (hr : B ≤ r) (hrow : ∀ k, row = some k → B ≤ k) (k : Below B w0 w) (hB : B ≤ w.heap.size) : Below B w0 w' :=
  k.trans ⟨h.os, h.tape, h.output, h.size, fun i hi => h.block i (by omega) (by omega) (fun e => by have := hrow i e; omega)⟩
theorem RB.notIn {w : World} (h : RB w base r tv sv T S) (K : Book w p b x y T' S') : r ≠ p ∧ r ≠ b ∧ r ≠ x ∧ r ≠ y := by
  refine ⟨fun e => ?_, fun e => ?_, fun e => ?_, fun e => ?_⟩
  · have h1 := h.blk; have h2 := K.blk; unfold Blk at h1 h2; rw [e, h2] at h1; simp at h1
  · have h1 := h.blk; have h2 := K.nums.blk; unfold Blk at h1 h2; rw [e, h2] at h1; simp at h1
  · have h1 := h.blk; unfold Blk at h1; rw [e, K.nums.mx] at h1; cases h1
  · have h1 := h.blk; unfold Blk at h1; rw [e, K.nums.my] at h1; cases h1
theorem Book.off3 {row : Option Nat} {w w' : World} (K : Book w p b x y T S) (h : Off3 r row w w') (h1 : r ≠ p ∧ r ≠ b ∧ r ≠ x ∧ r ≠ y) (h2 : row ≠ some p ∧ row ≠ some b ∧ row ≠ some x ∧ row ≠ some y) : Book w' p b x y T S :=
  ⟨(h.block p K.lts.1 (Ne.symm h1.1) h2.1).trans K.blk, (h.block b K.lts.2.1 (Ne.symm h1.2.1) h2.2.1).trans K.nums.blk, (h.block x K.lts.2.2.1 (Ne.symm h1.2.2.1) h2.2.2.1).trans K.nums.mx, (h.block y K.lts.2.2.2 (Ne.symm h1.2.2.2) h2.2.2.2).trans K.nums.my, K.nums.ne⟩
/-- A row's block is not the book's. -/
theorem row_not {w : World} {e : TypeId} {z n : Nat} {v : Value} {xs : List Value} {cs : Array Value} {t : TypeId} (ho : w.ownsRow base e z v n xs) (hB : Blk w r cs t) (he : e ≠ t) : v.ownBlock ≠ some r := by
  intro hk
  obtain ⟨cur, hc⟩ := own_heap ho hk
  unfold Blk at hB; rw [hc] at hB
  simp only [Option.some.injEq, Obj.cells.injEq] at hB
  exact he hB.2.1
theorem setCell_by (w : World) (k o : Nat) (u : Value) : w.grownBy (w.setCell ⟨k, o, none⟩ u) (some k) :=
  ⟨rfl, rfl, rfl, by simp [World.setCell], fun i hi hn => heap_setCell_other w ⟨k, o, none⟩ i u (fun e => hn (by rw [e]))⟩
theorem own_set3 {w : World} {e : TypeId} {z n k o : Nat} {v u : Value} {xs : List Value} (ho : w.ownsRow base e z v n xs) (hk : v.ownBlock ≠ some k) : (w.setCell ⟨k, o, none⟩ u).ownsRow base e z v n xs :=
  ho.kept (setCell_by w k o u) (Or.inr hk)
theorem own_two3 {w : World} {base' : Nat} {e e' : TypeId} {z z' : Nat} {v v' : Value} {n n' : Nat} {xs xs' : List Value} (h : w.ownsRow base e z v n xs) (h' : w.ownsRow base' e' z' v' n' xs') (he : e ≠ e') : v.ownBlock = none ∨ v.ownBlock ≠ v'.ownBlock := by
  cases hv : v.ownBlock with
  | none => exact Or.inl rfl
  | some k =>
    refine Or.inr (fun e2 => ?_)
    obtain ⟨c1, h1⟩ := own_heap h hv
    obtain ⟨c2, h2⟩ := own_heap h' e2.symm
    rw [h1] at h2
    simp only [Option.some.injEq, Obj.cells.injEq] at h2
    exact he h2.2.1
theorem seek_first {α : Type} [DecidableEq α] (s : α) (l : List α) (i k : Nat) (h1 : ∀ j (h : j < l.length), j < k → l[j] ≠ s) (hk : k < l.length) (h2 : l[k] = s) : seek s l i = some (i + k) := by
  induction l generalizing i k with
  | nil => simp at hk
  | cons a l ih =>
    cases k with
    | zero => simp at h2; simp [seek, h2]
    | succ k =>
      have ha : ¬ s = a := fun e => h1 0 (by simp) (by omega) (by simp [e])
      have := ih (i + 1) k (fun j hj hjk => by have := h1 (j + 1) (by simpa using hj) (by omega); simpa using this) (by simpa using hk) (by simpa using h2)
      simp only [seek, if_neg ha, this]
      congr 1; omega
theorem seek_never {α : Type} [DecidableEq α] (s : α) (l : List α) (h1 : ∀ j (h : j < l.length), l[j] ≠ s) : s ∉ l := by
  intro h
  obtain ⟨j, hj, e⟩ := List.mem_iff_getElem.1 h
  exact h1 j hj e
theorem infoStrR : (Try.prog.info? 9).map (fun i => (i.zero, i.size, i.bytes)) = some (some (.string ⟨#[]⟩), 1, 16) := by kernel_rfl
theorem infoWordR : (Try.prog.info? 68).map (fun i => (i.zero, i.size, i.bytes)) = some (some (.agg #[.int .i64 0, .string ⟨#[]⟩]), 2, 24) := by kernel_rfl
theorem eqS (a c : ByteArray) : (a.toList == c.toList) = decide (a = c) := strEq a c
end Go.Proofs.Ytlloekgdelclcaa
