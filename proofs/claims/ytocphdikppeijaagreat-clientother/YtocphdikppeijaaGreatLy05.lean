/- What may be a body. -/
import Derived.Test.YtocphdikppeijaaGreatLy04
namespace Go.Proofs.YtocphdikppeijaaGreat
open Go.RowKit
set_option linter.unusedVariables false
set_option linter.unusedSimpArgs false

structure Sh where
  may : Nat
  must : Nat
  client : Nat
  every : Nat
  text : Nat
  list : Nat

def Sh.val (s : Sh) : Value := .agg #[.int .i64 s.may, .int .i64 s.must, .int .i64 s.client, .int .i64 s.every, .int .i64 s.text, .int .i64 s.list]

def shapeN : Nat → Option Sh
  | 1 => some ⟨44, 8, 15, 1, 256, 64⟩
  | 2 => some ⟨67, 2, 15, 1, 1048576, 4⟩
  | 3 => some ⟨19, 18, 15, 1, 1048576, 64⟩
  | 4 => some ⟨19, 18, 15, 1, 1048576, 64⟩
  | 5 => some ⟨18, 18, 15, 4, 1048576, 64⟩
  | 6 => some ⟨67, 1, 15, 4, 1048576, 64⟩
  | 7 => some ⟨65, 65, 15, 1, 1048576, 64⟩
  | 8 => some ⟨15, 0, 1, 1, 1048576, 64⟩
  | 9 => some ⟨114, 82, 15, 4, 1048576, 64⟩
  | 10 => some ⟨45, 8, 15, 1, 256, 64⟩
  | 11 => some ⟨115, 82, 15, 1, 1048576, 64⟩
  | 12 => some ⟨36, 0, 15, 1, 64, 64⟩
  | 13 => some ⟨114, 82, 15, 4, 1048576, 64⟩
  | _ => none

def shape (k : Int) : Option Sh := if 0 ≤ k then shapeN k.toNat else none

theorem shape_other (k : Int) (h : ¬ (1 ≤ k ∧ k ≤ 13)) : shape k = none := by
  unfold shape
  split
  · rename_i h0
    obtain ⟨n, rfl⟩ := Int.eq_ofNat_of_zero_le h0
    rw [Int.toNat_natCast]
    unfold shapeN
    split <;> first | omega | rfl
  · rfl

theorem shapeOf_none (k : Int) (w : World) (h : ¬ (1 ≤ k ∧ k ≤ 13)) :
    Calls Tryz.prog 109 #[.int .i64 k] w fun e w' => e = .returned (.tuple #[(⟨0, 0, 0, 0, 0, 0⟩ : Sh).val, .bool false]) ∧ Below w.heap.size w w' := by
  have h1 : (k == 1) = false := by rw [beq_eq_false_iff_ne]; omega
  have h2 : (k == 2) = false := by rw [beq_eq_false_iff_ne]; omega
  have h3 : (k == 3) = false := by rw [beq_eq_false_iff_ne]; omega
  have h4 : (k == 4) = false := by rw [beq_eq_false_iff_ne]; omega
  have h5 : (k == 5) = false := by rw [beq_eq_false_iff_ne]; omega
  have h6 : (k == 6) = false := by rw [beq_eq_false_iff_ne]; omega
  have h7 : (k == 7) = false := by rw [beq_eq_false_iff_ne]; omega
  have h8 : (k == 8) = false := by rw [beq_eq_false_iff_ne]; omega
  have h9 : (k == 9) = false := by rw [beq_eq_false_iff_ne]; omega
  have h10 : (k == 10) = false := by rw [beq_eq_false_iff_ne]; omega
  have h11 : (k == 11) = false := by rw [beq_eq_false_iff_ne]; omega
  have h12 : (k == 12) = false := by rw [beq_eq_false_iff_ne]; omega
  have h13 : (k == 13) = false := by rw [beq_eq_false_iff_ne]; omega
  go_enter Tryz.func109, Tryz.ntmps109
  go_wp2
  refine bodyPost_ret (v := .tuple #[(⟨0, 0, 0, 0, 0, 0⟩ : Sh).val, .bool false]) (by simp [results, Tryz.results109, go_sem, Sh.val]) rfl ⟨rfl, by go_grown⟩

theorem shapeOf_1 (w : World) :
    Calls Tryz.prog 109 #[.int .i64 1] w fun e w' => e = .returned (.tuple #[(⟨44, 8, 15, 1, 256, 64⟩ : Sh).val, .bool true]) ∧ Below w.heap.size w w' := by
  go_enter Tryz.func109, Tryz.ntmps109
  go_wp2
  refine bodyPost_ret (v := .tuple #[(⟨44, 8, 15, 1, 256, 64⟩ : Sh).val, .bool true]) (by simp [results, Tryz.results109, go_sem, Sh.val]) rfl ⟨rfl, by go_grown⟩

theorem shapeOf_2 (w : World) :
    Calls Tryz.prog 109 #[.int .i64 2] w fun e w' => e = .returned (.tuple #[(⟨67, 2, 15, 1, 1048576, 4⟩ : Sh).val, .bool true]) ∧ Below w.heap.size w w' := by
  go_enter Tryz.func109, Tryz.ntmps109
  go_wp2
  refine bodyPost_ret (v := .tuple #[(⟨67, 2, 15, 1, 1048576, 4⟩ : Sh).val, .bool true]) (by simp [results, Tryz.results109, go_sem, Sh.val]) rfl ⟨rfl, by go_grown⟩

theorem shapeOf_3 (w : World) :
    Calls Tryz.prog 109 #[.int .i64 3] w fun e w' => e = .returned (.tuple #[(⟨19, 18, 15, 1, 1048576, 64⟩ : Sh).val, .bool true]) ∧ Below w.heap.size w w' := by
  go_enter Tryz.func109, Tryz.ntmps109
  go_wp2
  refine bodyPost_ret (v := .tuple #[(⟨19, 18, 15, 1, 1048576, 64⟩ : Sh).val, .bool true]) (by simp [results, Tryz.results109, go_sem, Sh.val]) rfl ⟨rfl, by go_grown⟩

theorem shapeOf_4 (w : World) :
    Calls Tryz.prog 109 #[.int .i64 4] w fun e w' => e = .returned (.tuple #[(⟨19, 18, 15, 1, 1048576, 64⟩ : Sh).val, .bool true]) ∧ Below w.heap.size w w' := by
  go_enter Tryz.func109, Tryz.ntmps109
  go_wp2
  refine bodyPost_ret (v := .tuple #[(⟨19, 18, 15, 1, 1048576, 64⟩ : Sh).val, .bool true]) (by simp [results, Tryz.results109, go_sem, Sh.val]) rfl ⟨rfl, by go_grown⟩

theorem shapeOf_5 (w : World) :
    Calls Tryz.prog 109 #[.int .i64 5] w fun e w' => e = .returned (.tuple #[(⟨18, 18, 15, 4, 1048576, 64⟩ : Sh).val, .bool true]) ∧ Below w.heap.size w w' := by
  go_enter Tryz.func109, Tryz.ntmps109
  go_wp2
  refine bodyPost_ret (v := .tuple #[(⟨18, 18, 15, 4, 1048576, 64⟩ : Sh).val, .bool true]) (by simp [results, Tryz.results109, go_sem, Sh.val]) rfl ⟨rfl, by go_grown⟩

theorem shapeOf_6 (w : World) :
    Calls Tryz.prog 109 #[.int .i64 6] w fun e w' => e = .returned (.tuple #[(⟨67, 1, 15, 4, 1048576, 64⟩ : Sh).val, .bool true]) ∧ Below w.heap.size w w' := by
  go_enter Tryz.func109, Tryz.ntmps109
  go_wp2
  refine bodyPost_ret (v := .tuple #[(⟨67, 1, 15, 4, 1048576, 64⟩ : Sh).val, .bool true]) (by simp [results, Tryz.results109, go_sem, Sh.val]) rfl ⟨rfl, by go_grown⟩

theorem shapeOf_7 (w : World) :
    Calls Tryz.prog 109 #[.int .i64 7] w fun e w' => e = .returned (.tuple #[(⟨65, 65, 15, 1, 1048576, 64⟩ : Sh).val, .bool true]) ∧ Below w.heap.size w w' := by
  go_enter Tryz.func109, Tryz.ntmps109
  go_wp2
  refine bodyPost_ret (v := .tuple #[(⟨65, 65, 15, 1, 1048576, 64⟩ : Sh).val, .bool true]) (by simp [results, Tryz.results109, go_sem, Sh.val]) rfl ⟨rfl, by go_grown⟩

theorem shapeOf_8 (w : World) :
    Calls Tryz.prog 109 #[.int .i64 8] w fun e w' => e = .returned (.tuple #[(⟨15, 0, 1, 1, 1048576, 64⟩ : Sh).val, .bool true]) ∧ Below w.heap.size w w' := by
  go_enter Tryz.func109, Tryz.ntmps109
  go_wp2
  refine bodyPost_ret (v := .tuple #[(⟨15, 0, 1, 1, 1048576, 64⟩ : Sh).val, .bool true]) (by simp [results, Tryz.results109, go_sem, Sh.val]) rfl ⟨rfl, by go_grown⟩

theorem shapeOf_9 (w : World) :
    Calls Tryz.prog 109 #[.int .i64 9] w fun e w' => e = .returned (.tuple #[(⟨114, 82, 15, 4, 1048576, 64⟩ : Sh).val, .bool true]) ∧ Below w.heap.size w w' := by
  go_enter Tryz.func109, Tryz.ntmps109
  go_wp2
  refine bodyPost_ret (v := .tuple #[(⟨114, 82, 15, 4, 1048576, 64⟩ : Sh).val, .bool true]) (by simp [results, Tryz.results109, go_sem, Sh.val]) rfl ⟨rfl, by go_grown⟩

theorem shapeOf_10 (w : World) :
    Calls Tryz.prog 109 #[.int .i64 10] w fun e w' => e = .returned (.tuple #[(⟨45, 8, 15, 1, 256, 64⟩ : Sh).val, .bool true]) ∧ Below w.heap.size w w' := by
  go_enter Tryz.func109, Tryz.ntmps109
  go_wp2
  refine bodyPost_ret (v := .tuple #[(⟨45, 8, 15, 1, 256, 64⟩ : Sh).val, .bool true]) (by simp [results, Tryz.results109, go_sem, Sh.val]) rfl ⟨rfl, by go_grown⟩

theorem shapeOf_11 (w : World) :
    Calls Tryz.prog 109 #[.int .i64 11] w fun e w' => e = .returned (.tuple #[(⟨115, 82, 15, 1, 1048576, 64⟩ : Sh).val, .bool true]) ∧ Below w.heap.size w w' := by
  go_enter Tryz.func109, Tryz.ntmps109
  go_wp2
  refine bodyPost_ret (v := .tuple #[(⟨115, 82, 15, 1, 1048576, 64⟩ : Sh).val, .bool true]) (by simp [results, Tryz.results109, go_sem, Sh.val]) rfl ⟨rfl, by go_grown⟩

theorem shapeOf_12 (w : World) :
    Calls Tryz.prog 109 #[.int .i64 12] w fun e w' => e = .returned (.tuple #[(⟨36, 0, 15, 1, 64, 64⟩ : Sh).val, .bool true]) ∧ Below w.heap.size w w' := by
  go_enter Tryz.func109, Tryz.ntmps109
  go_wp2
  refine bodyPost_ret (v := .tuple #[(⟨36, 0, 15, 1, 64, 64⟩ : Sh).val, .bool true]) (by simp [results, Tryz.results109, go_sem, Sh.val]) rfl ⟨rfl, by go_grown⟩

theorem shapeOf_13 (w : World) :
    Calls Tryz.prog 109 #[.int .i64 13] w fun e w' => e = .returned (.tuple #[(⟨114, 82, 15, 4, 1048576, 64⟩ : Sh).val, .bool true]) ∧ Below w.heap.size w w' := by
  go_enter Tryz.func109, Tryz.ntmps109
  go_wp2
  refine bodyPost_ret (v := .tuple #[(⟨114, 82, 15, 4, 1048576, 64⟩ : Sh).val, .bool true]) (by simp [results, Tryz.results109, go_sem, Sh.val]) rfl ⟨rfl, by go_grown⟩

theorem shapeOf_calls (k : Int) (s : Sh) (w : World) (h : shape k = some s) :
    Calls Tryz.prog 109 #[.int .i64 k] w fun e w' => e = .returned (.tuple #[s.val, .bool true]) ∧ Below w.heap.size w w' := by
  by_cases hk : 1 ≤ k ∧ k ≤ 13
  · obtain ⟨n, rfl⟩ := Int.eq_ofNat_of_zero_le (show 0 ≤ k by omega)
    have hn : n = 1 ∨ n = 2 ∨ n = 3 ∨ n = 4 ∨ n = 5 ∨ n = 6 ∨ n = 7 ∨ n = 8 ∨ n = 9 ∨ n = 10 ∨ n = 11 ∨ n = 12 ∨ n = 13 := by omega
    rcases hn with rfl | rfl | rfl | rfl | rfl | rfl | rfl | rfl | rfl | rfl | rfl | rfl | rfl
    · simp [shape, shapeN] at h; subst h; exact shapeOf_1 w
    · simp [shape, shapeN] at h; subst h; exact shapeOf_2 w
    · simp [shape, shapeN] at h; subst h; exact shapeOf_3 w
    · simp [shape, shapeN] at h; subst h; exact shapeOf_4 w
    · simp [shape, shapeN] at h; subst h; exact shapeOf_5 w
    · simp [shape, shapeN] at h; subst h; exact shapeOf_6 w
    · simp [shape, shapeN] at h; subst h; exact shapeOf_7 w
    · simp [shape, shapeN] at h; subst h; exact shapeOf_8 w
    · simp [shape, shapeN] at h; subst h; exact shapeOf_9 w
    · simp [shape, shapeN] at h; subst h; exact shapeOf_10 w
    · simp [shape, shapeN] at h; subst h; exact shapeOf_11 w
    · simp [shape, shapeN] at h; subst h; exact shapeOf_12 w
    · simp [shape, shapeN] at h; subst h; exact shapeOf_13 w
  · rw [shape_other k hk] at h; cases h
end Go.Proofs.YtocphdikppeijaaGreat

namespace Go.Proofs.YtocphdikppeijaaGreat
open Go.RowKit
set_option linter.unusedVariables false
set_option linter.unusedSimpArgs false

theorem ret_int {k : IntKind} {a b : Int} (h : a = b) : Ending.returned (.int k a) = .returned (.int k b) := by rw [h]

structure Bd where
  kind : Int
  view : Int
  seq : Int
  client : Int
  stamp : Int
  digest : ByteArray
  text : ByteArray
  list : List Sg

def Bd.val (b : Bd) (lv : Value) : Value := .agg #[.int .i64 b.kind, .int .i64 b.view, .int .i64 b.seq, .int .i64 b.client, .int .i64 b.stamp, .string b.digest, .string b.text, lv]

theorem or_new (x i : Nat) (hi : i ≤ 61) (hx : x < 2 ^ i) : bits .or .i64 (x : Int) ((2 ^ i : Nat) : Int) = ((x + 2 ^ i : Nat) : Int) := by
  have h2 : 2 ^ i ≤ 2 ^ 61 := Nat.pow_le_pow_right (by decide) hi
  rw [(bits_nat .i64 63 (by decide) wraps_i64 x (2 ^ i) (by omega) (by omega)).2, Nat.or_comm, nat_join i (2 ^ i) x (Nat.mod_self _) hx, Nat.add_comm]

/-- The closure of fieldsOf: a bit more, if it is there. -/
theorem note_calls (p : Nat) (x i : Nat) (bit : Int) (t : Bool) (w : World) (hi : i ≤ 61) (hbit : bit = ((2 ^ i : Nat) : Int)) (hx : x < 2 ^ i)
    (hc : w.cell? ⟨p, 0, none⟩ = some (.int .i64 x)) (hf : w.frozen? ⟨p, 0, none⟩ = false) (hp : p < w.heap.size) :
    Calls Tryz.prog 124 #[.int .i64 bit, .bool t, .pointer (some ⟨p, 0, none⟩)] w fun e w' => e = .returned (.tuple #[]) ∧ Off p w w' ∧ w'.cell? ⟨p, 0, none⟩ = some (.int .i64 ((x + t.toNat * 2 ^ i : Nat) : Int)) ∧ w'.frozen? ⟨p, 0, none⟩ = false := by
  have ho := or_new x i hi hx
  rw [← hbit] at ho
  cases t with
  | false =>
    clear ho hbit
    go_enter Tryz.func124, Tryz.ntmps124
    go_wp2
    go_end0
    exact ⟨rfl, Off.refl _ _, by simpa using hc, hf⟩
  | true =>
    clear hbit
    rw [show x + true.toNat * 2 ^ i = x + 2 ^ i by simp]
    generalize x + 2 ^ i = y at *
    go_enter Tryz.func124, Tryz.ntmps124
    go_wp2
    go_end0
    refine ⟨rfl, (Off.refl _ _).setCell (p := ⟨p, 0, none⟩) rfl _, ?_, ?_⟩
    · rw [World.cell?_setCell_same _ _ _ hc]
    · rw [World.frozen?_setCell]; exact hf

structure BdAt (w : World) (n : Nat) (b : Bd) (lv : Value) : Prop where
  c0 : w.cell? ⟨n, 0, none⟩ = some (.int .i64 b.kind)
  c1 : w.cell? ⟨n, 1, none⟩ = some (.int .i64 b.view)
  c2 : w.cell? ⟨n, 2, none⟩ = some (.int .i64 b.seq)
  c3 : w.cell? ⟨n, 3, none⟩ = some (.int .i64 b.client)
  c4 : w.cell? ⟨n, 4, none⟩ = some (.int .i64 b.stamp)
  c5 : w.cell? ⟨n, 5, none⟩ = some (.string b.digest)
  c6 : w.cell? ⟨n, 6, none⟩ = some (.string b.text)
  c7 : w.cell? ⟨n, 7, none⟩ = some lv
  lt : n < w.heap.size

theorem BdAt.off {w w' : World} {n p : Nat} {b : Bd} {lv : Value} (h : BdAt w n b lv) (ho : Off p w w') (hp : n ≠ p) : BdAt w' n b lv :=
  ⟨(ho.cell (p := ⟨n, 0, none⟩) h.lt hp).trans h.c0, (ho.cell (p := ⟨n, 1, none⟩) h.lt hp).trans h.c1, (ho.cell (p := ⟨n, 2, none⟩) h.lt hp).trans h.c2,
   (ho.cell (p := ⟨n, 3, none⟩) h.lt hp).trans h.c3, (ho.cell (p := ⟨n, 4, none⟩) h.lt hp).trans h.c4, (ho.cell (p := ⟨n, 5, none⟩) h.lt hp).trans h.c5,
   (ho.cell (p := ⟨n, 6, none⟩) h.lt hp).trans h.c6, (ho.cell (p := ⟨n, 7, none⟩) h.lt hp).trans h.c7, Nat.lt_of_lt_of_le h.lt ho.size⟩
theorem BdAt.below {w w' : World} {n : Nat} {b : Bd} {lv : Value} (h : BdAt w n b lv) (ho : Below w.heap.size w w') : BdAt w' n b lv :=
  ⟨(ho.cell (p := ⟨n, 0, none⟩) h.lt).trans h.c0, (ho.cell (p := ⟨n, 1, none⟩) h.lt).trans h.c1, (ho.cell (p := ⟨n, 2, none⟩) h.lt).trans h.c2,
   (ho.cell (p := ⟨n, 3, none⟩) h.lt).trans h.c3, (ho.cell (p := ⟨n, 4, none⟩) h.lt).trans h.c4, (ho.cell (p := ⟨n, 5, none⟩) h.lt).trans h.c5,
   (ho.cell (p := ⟨n, 6, none⟩) h.lt).trans h.c6, (ho.cell (p := ⟨n, 7, none⟩) h.lt).trans h.c7, Nat.lt_of_lt_of_le h.lt ho.size⟩

theorem bdAt_new (w : World) (b : Bd) (lv : Value) (t : TypeId) :
    BdAt (w.alloc (.cells #[.int .i64 b.kind, .int .i64 b.view, .int .i64 b.seq, .int .i64 b.client, .int .i64 b.stamp, .string b.digest, .string b.text, lv] t)) w.heap.size b lv := by
  refine ⟨?_, ?_, ?_, ?_, ?_, ?_, ?_, ?_, ?_⟩ <;> simp [go_sem]

/-- Which fields are there, a bit each. -/
def flds (b : Bd) : Nat := 0 + (b.view != 0).toNat * 2 ^ 0 + (b.seq != 0).toNat * 2 ^ 1 + (b.client != 0).toNat * 2 ^ 2 + (b.stamp != 0).toNat * 2 ^ 3 + (!b.digest.toList.isEmpty).toNat * 2 ^ 4 + (!b.text.toList.isEmpty).toNat * 2 ^ 5 + (decide (0 < b.list.length)).toNat * 2 ^ 6

theorem toNat_le1 (t : Bool) : t.toNat ≤ 1 := by cases t <;> simp

set_option maxHeartbeats 1000000 in
theorem fieldsOf_calls (b : Bd) (p : Option Addr) (c : Nat) (w : World) (hl : b.list.length < 9223372036854775807) :
    Calls Tryz.prog 110 #[b.val (.slice p b.list.length c)] w fun e w' => e = .returned (.int .i64 (flds b)) ∧ Below w.heap.size w w' := by
  have hmf : ∀ (fn : Fn) (first cap : Array Value) (w : World), (Instr.makeFunc fn first cap).run Tryz.prog w = .ok (.func fn first cap) w := fun _ _ _ _ => rfl
  have hnew := bdAt_new w b (.slice p b.list.length c) 54
  unfold Bd.val
  go_enter Tryz.func110, Tryz.ntmps110
  have hB : Below w.heap.size w ((w.alloc (.cells #[.int .i64 b.kind, .int .i64 b.view, .int .i64 b.seq, .int .i64 b.client, .int .i64 b.stamp, .string b.digest, .string b.text, .slice p b.list.length c] 54)).alloc (.cells #[.int .i64 0] 176)) := by go_grown
  have hA0 := hnew.below (w' := (w.alloc (.cells #[.int .i64 b.kind, .int .i64 b.view, .int .i64 b.seq, .int .i64 b.client, .int .i64 b.stamp, .string b.digest, .string b.text, .slice p b.list.length c] 54)).alloc (.cells #[.int .i64 0] 176)) ((Below.refl _ _).alloc (Nat.le_refl _) _)
  go_wp2_with fail
  refine (note_calls (w.heap.size + 1) (0) 0 1 _ _ (by decide) (by decide) ?_ (by simp [go_sem]) (by simp [go_sem]) (by simp)).mono ?_
  · have n0 := toNat_le1 (b.view != 0); have n1 := toNat_le1 (b.seq != 0); have n2 := toNat_le1 (b.client != 0); have n3 := toNat_le1 (b.stamp != 0); have n4 := toNat_le1 (!b.digest.toList.isEmpty); have n5 := toNat_le1 (!b.text.toList.isEmpty); omega
  rintro e w1 ⟨rfl, ho1, hc1, hf1⟩
  have hA1 := hA0.off ho1 (by omega)
  have hz1 : w.heap.size + 1 < w1.heap.size := by have h1 := ho1.size; simp at h1; omega
  obtain ⟨a0, a1, a2, a3, a4, a5, a6, a7, a8⟩ := id hA1
  go_wp2_with fail
  clear a0 a1 a2 a3 a4 a5 a6 a7 a8
  refine (note_calls (w.heap.size + 1) (0 + (b.view != 0).toNat * 2 ^ 0) 1 2 _ _ (by decide) (by decide) ?_ hc1 hf1 (by have h1 := hz1; omega)).mono ?_
  · have n0 := toNat_le1 (b.view != 0); have n1 := toNat_le1 (b.seq != 0); have n2 := toNat_le1 (b.client != 0); have n3 := toNat_le1 (b.stamp != 0); have n4 := toNat_le1 (!b.digest.toList.isEmpty); have n5 := toNat_le1 (!b.text.toList.isEmpty); omega
  rintro e w2 ⟨rfl, ho2, hc2, hf2⟩
  have hA2 := hA1.off ho2 (by omega)
  have hz2 : w.heap.size + 1 < w2.heap.size := by have h1 := ho2.size; omega
  obtain ⟨a0, a1, a2, a3, a4, a5, a6, a7, a8⟩ := id hA2
  go_wp2_with fail
  clear a0 a1 a2 a3 a4 a5 a6 a7 a8
  refine (note_calls (w.heap.size + 1) (0 + (b.view != 0).toNat * 2 ^ 0 + (b.seq != 0).toNat * 2 ^ 1) 2 4 _ _ (by decide) (by decide) ?_ hc2 hf2 (by have h1 := hz2; omega)).mono ?_
  · have n0 := toNat_le1 (b.view != 0); have n1 := toNat_le1 (b.seq != 0); have n2 := toNat_le1 (b.client != 0); have n3 := toNat_le1 (b.stamp != 0); have n4 := toNat_le1 (!b.digest.toList.isEmpty); have n5 := toNat_le1 (!b.text.toList.isEmpty); omega
  rintro e w3 ⟨rfl, ho3, hc3, hf3⟩
  have hA3 := hA2.off ho3 (by omega)
  have hz3 : w.heap.size + 1 < w3.heap.size := by have h1 := ho3.size; omega
  obtain ⟨a0, a1, a2, a3, a4, a5, a6, a7, a8⟩ := id hA3
  go_wp2_with fail
  clear a0 a1 a2 a3 a4 a5 a6 a7 a8
  refine (note_calls (w.heap.size + 1) (0 + (b.view != 0).toNat * 2 ^ 0 + (b.seq != 0).toNat * 2 ^ 1 + (b.client != 0).toNat * 2 ^ 2) 3 8 _ _ (by decide) (by decide) ?_ hc3 hf3 (by have h1 := hz3; omega)).mono ?_
  · have n0 := toNat_le1 (b.view != 0); have n1 := toNat_le1 (b.seq != 0); have n2 := toNat_le1 (b.client != 0); have n3 := toNat_le1 (b.stamp != 0); have n4 := toNat_le1 (!b.digest.toList.isEmpty); have n5 := toNat_le1 (!b.text.toList.isEmpty); omega
  rintro e w4 ⟨rfl, ho4, hc4, hf4⟩
  have hA4 := hA3.off ho4 (by omega)
  have hz4 : w.heap.size + 1 < w4.heap.size := by have h1 := ho4.size; omega
  obtain ⟨a0, a1, a2, a3, a4, a5, a6, a7, a8⟩ := id hA4
  go_wp2_with fail
  clear a0 a1 a2 a3 a4 a5 a6 a7 a8
  refine (note_calls (w.heap.size + 1) (0 + (b.view != 0).toNat * 2 ^ 0 + (b.seq != 0).toNat * 2 ^ 1 + (b.client != 0).toNat * 2 ^ 2 + (b.stamp != 0).toNat * 2 ^ 3) 4 16 _ _ (by decide) (by decide) ?_ hc4 hf4 (by have h1 := hz4; omega)).mono ?_
  · have n0 := toNat_le1 (b.view != 0); have n1 := toNat_le1 (b.seq != 0); have n2 := toNat_le1 (b.client != 0); have n3 := toNat_le1 (b.stamp != 0); have n4 := toNat_le1 (!b.digest.toList.isEmpty); have n5 := toNat_le1 (!b.text.toList.isEmpty); omega
  rintro e w5 ⟨rfl, ho5, hc5, hf5⟩
  have hA5 := hA4.off ho5 (by omega)
  have hz5 : w.heap.size + 1 < w5.heap.size := by have h1 := ho5.size; omega
  obtain ⟨a0, a1, a2, a3, a4, a5, a6, a7, a8⟩ := id hA5
  go_wp2_with fail
  clear a0 a1 a2 a3 a4 a5 a6 a7 a8
  refine (note_calls (w.heap.size + 1) (0 + (b.view != 0).toNat * 2 ^ 0 + (b.seq != 0).toNat * 2 ^ 1 + (b.client != 0).toNat * 2 ^ 2 + (b.stamp != 0).toNat * 2 ^ 3 + (!b.digest.toList.isEmpty).toNat * 2 ^ 4) 5 32 _ _ (by decide) (by decide) ?_ hc5 hf5 (by have h1 := hz5; omega)).mono ?_
  · have n0 := toNat_le1 (b.view != 0); have n1 := toNat_le1 (b.seq != 0); have n2 := toNat_le1 (b.client != 0); have n3 := toNat_le1 (b.stamp != 0); have n4 := toNat_le1 (!b.digest.toList.isEmpty); have n5 := toNat_le1 (!b.text.toList.isEmpty); omega
  rintro e w6 ⟨rfl, ho6, hc6, hf6⟩
  have hA6 := hA5.off ho6 (by omega)
  have hz6 : w.heap.size + 1 < w6.heap.size := by have h1 := ho6.size; omega
  obtain ⟨a0, a1, a2, a3, a4, a5, a6, a7, a8⟩ := id hA6
  go_wp2_with fail
  clear a0 a1 a2 a3 a4 a5 a6 a7 a8
  refine (note_calls (w.heap.size + 1) (0 + (b.view != 0).toNat * 2 ^ 0 + (b.seq != 0).toNat * 2 ^ 1 + (b.client != 0).toNat * 2 ^ 2 + (b.stamp != 0).toNat * 2 ^ 3 + (!b.digest.toList.isEmpty).toNat * 2 ^ 4 + (!b.text.toList.isEmpty).toNat * 2 ^ 5) 6 64 _ _ (by decide) (by decide) ?_ hc6 hf6 (by have h1 := hz6; omega)).mono ?_
  · have n0 := toNat_le1 (b.view != 0); have n1 := toNat_le1 (b.seq != 0); have n2 := toNat_le1 (b.client != 0); have n3 := toNat_le1 (b.stamp != 0); have n4 := toNat_le1 (!b.digest.toList.isEmpty); have n5 := toNat_le1 (!b.text.toList.isEmpty); omega
  rintro e w7 ⟨rfl, ho7, hc7, hf7⟩
  have hA7 := hA6.off ho7 (by omega)
  have hz7 : w.heap.size + 1 < w7.heap.size := by have h1 := ho7.size; omega
  obtain ⟨a0, a1, a2, a3, a4, a5, a6, a7, a8⟩ := id hA7
  go_wp2
  go_ret
  refine ⟨ret_int (by simp [flds]), ?_⟩
  exact ((((((ho1.trans ho2).trans ho3).trans ho4).trans ho5).trans ho6).trans ho7).below (by omega) hB (by simp; omega)
end Go.Proofs.YtocphdikppeijaaGreat
