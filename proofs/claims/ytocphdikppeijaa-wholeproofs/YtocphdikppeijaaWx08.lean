/- What may be a body. -/
import Derived.Test.YtocphdikppeijaaWx07
namespace Go.Proofs.Ytocphdikppeijaa
open Go.RowKit
set_option linter.unusedVariables false
set_option linter.unusedSimpArgs false

structure Sh where
  may : Nat
  must : Nat
  client : Nat
  every : Nat
  text : Nat
  list : Nat

def Sh.val (s : Sh) : Value := .agg #[.int .i64 s.may, .int .i64 s.must, .int .i64 s.client, .int .i64 s.every, .int .i64 s.text, .int .i64 s.list]

def shapeN : Nat → Option Sh
  | 1 => some ⟨44, 8, 15, 1, 256, 64⟩
  | 2 => some ⟨67, 2, 15, 1, 1048576, 4⟩
  | 3 => some ⟨19, 18, 15, 1, 1048576, 64⟩
  | 4 => some ⟨19, 18, 15, 1, 1048576, 64⟩
  | 5 => some ⟨18, 18, 15, 4, 1048576, 64⟩
  | 6 => some ⟨67, 1, 15, 4, 1048576, 64⟩
  | 7 => some ⟨65, 65, 15, 1, 1048576, 64⟩
  | 8 => some ⟨15, 0, 1, 1, 1048576, 64⟩
  | 9 => some ⟨114, 82, 15, 4, 1048576, 64⟩
  | 10 => some ⟨45, 8, 15, 1, 256, 64⟩
  | 11 => some ⟨115, 82, 15, 1, 1048576, 64⟩
  | 12 => some ⟨36, 0, 15, 1, 64, 64⟩
  | 13 => some ⟨114, 82, 15, 4, 1048576, 64⟩
  | _ => none

def shape (k : Int) : Option Sh := if 0 ≤ k then shapeN k.toNat else none

theorem shape_other (k : Int) (h : ¬ (1 ≤ k ∧ k ≤ 13)) : shape k = none := by
  unfold shape
  split
  · rename_i h0
    obtain ⟨n, rfl⟩ := Int.eq_ofNat_of_zero_le h0
    rw [Int.toNat_natCast]
    unfold shapeN
    split <;> first | omega | rfl
  · rfl

theorem shapeOf_none (k : Int) (w : World) (h : ¬ (1 ≤ k ∧ k ≤ 13)) :
    Calls Try.prog 85 #[.int .i64 k] w fun e w' => e = .returned (.tuple #[(⟨0, 0, 0, 0, 0, 0⟩ : Sh).val, .bool false]) ∧ Below w.heap.size w w' := by
  have h1 : (k == 1) = false := by rw [beq_eq_false_iff_ne]; omega
  have h2 : (k == 2) = false := by rw [beq_eq_false_iff_ne]; omega
  have h3 : (k == 3) = false := by rw [beq_eq_false_iff_ne]; omega
  have h4 : (k == 4) = false := by rw [beq_eq_false_iff_ne]; omega
  have h5 : (k == 5) = false := by rw [beq_eq_false_iff_ne]; omega
  have h6 : (k == 6) = false := by rw [beq_eq_false_iff_ne]; omega
  have h7 : (k == 7) = false := by rw [beq_eq_false_iff_ne]; omega
  have h8 : (k == 8) = false := by rw [beq_eq_false_iff_ne]; omega
  have h9 : (k == 9) = false := by rw [beq_eq_false_iff_ne]; omega
  have h10 : (k == 10) = false := by rw [beq_eq_false_iff_ne]; omega
  have h11 : (k == 11) = false := by rw [beq_eq_false_iff_ne]; omega
  have h12 : (k == 12) = false := by rw [beq_eq_false_iff_ne]; omega
  have h13 : (k == 13) = false := by rw [beq_eq_false_iff_ne]; omega
  go_enter Try.func85, Try.ntmps85
  go_wp2
  refine bodyPost_ret (v := .tuple #[(⟨0, 0, 0, 0, 0, 0⟩ : Sh).val, .bool false]) (by simp [results, Try.results85, go_sem, Sh.val]) rfl ⟨rfl, by go_grown⟩

theorem shapeOf_1 (w : World) :
    Calls Try.prog 85 #[.int .i64 1] w fun e w' => e = .returned (.tuple #[(⟨44, 8, 15, 1, 256, 64⟩ : Sh).val, .bool true]) ∧ Below w.heap.size w w' := by
  go_enter Try.func85, Try.ntmps85
  go_wp2
  refine bodyPost_ret (v := .tuple #[(⟨44, 8, 15, 1, 256, 64⟩ : Sh).val, .bool true]) (by simp [results, Try.results85, go_sem, Sh.val]) rfl ⟨rfl, by go_grown⟩

theorem shapeOf_2 (w : World) :
    Calls Try.prog 85 #[.int .i64 2] w fun e w' => e = .returned (.tuple #[(⟨67, 2, 15, 1, 1048576, 4⟩ : Sh).val, .bool true]) ∧ Below w.heap.size w w' := by
  go_enter Try.func85, Try.ntmps85
  go_wp2
  refine bodyPost_ret (v := .tuple #[(⟨67, 2, 15, 1, 1048576, 4⟩ : Sh).val, .bool true]) (by simp [results, Try.results85, go_sem, Sh.val]) rfl ⟨rfl, by go_grown⟩

theorem shapeOf_3 (w : World) :
    Calls Try.prog 85 #[.int .i64 3] w fun e w' => e = .returned (.tuple #[(⟨19, 18, 15, 1, 1048576, 64⟩ : Sh).val, .bool true]) ∧ Below w.heap.size w w' := by
  go_enter Try.func85, Try.ntmps85
  go_wp2
  refine bodyPost_ret (v := .tuple #[(⟨19, 18, 15, 1, 1048576, 64⟩ : Sh).val, .bool true]) (by simp [results, Try.results85, go_sem, Sh.val]) rfl ⟨rfl, by go_grown⟩

theorem shapeOf_4 (w : World) :
    Calls Try.prog 85 #[.int .i64 4] w fun e w' => e = .returned (.tuple #[(⟨19, 18, 15, 1, 1048576, 64⟩ : Sh).val, .bool true]) ∧ Below w.heap.size w w' := by
  go_enter Try.func85, Try.ntmps85
  go_wp2
  refine bodyPost_ret (v := .tuple #[(⟨19, 18, 15, 1, 1048576, 64⟩ : Sh).val, .bool true]) (by simp [results, Try.results85, go_sem, Sh.val]) rfl ⟨rfl, by go_grown⟩

theorem shapeOf_5 (w : World) :
    Calls Try.prog 85 #[.int .i64 5] w fun e w' => e = .returned (.tuple #[(⟨18, 18, 15, 4, 1048576, 64⟩ : Sh).val, .bool true]) ∧ Below w.heap.size w w' := by
  go_enter Try.func85, Try.ntmps85
  go_wp2
  refine bodyPost_ret (v := .tuple #[(⟨18, 18, 15, 4, 1048576, 64⟩ : Sh).val, .bool true]) (by simp [results, Try.results85, go_sem, Sh.val]) rfl ⟨rfl, by go_grown⟩

theorem shapeOf_6 (w : World) :
    Calls Try.prog 85 #[.int .i64 6] w fun e w' => e = .returned (.tuple #[(⟨67, 1, 15, 4, 1048576, 64⟩ : Sh).val, .bool true]) ∧ Below w.heap.size w w' := by
  go_enter Try.func85, Try.ntmps85
  go_wp2
  refine bodyPost_ret (v := .tuple #[(⟨67, 1, 15, 4, 1048576, 64⟩ : Sh).val, .bool true]) (by simp [results, Try.results85, go_sem, Sh.val]) rfl ⟨rfl, by go_grown⟩

theorem shapeOf_7 (w : World) :
    Calls Try.prog 85 #[.int .i64 7] w fun e w' => e = .returned (.tuple #[(⟨65, 65, 15, 1, 1048576, 64⟩ : Sh).val, .bool true]) ∧ Below w.heap.size w w' := by
  go_enter Try.func85, Try.ntmps85
  go_wp2
  refine bodyPost_ret (v := .tuple #[(⟨65, 65, 15, 1, 1048576, 64⟩ : Sh).val, .bool true]) (by simp [results, Try.results85, go_sem, Sh.val]) rfl ⟨rfl, by go_grown⟩

theorem shapeOf_8 (w : World) :
    Calls Try.prog 85 #[.int .i64 8] w fun e w' => e = .returned (.tuple #[(⟨15, 0, 1, 1, 1048576, 64⟩ : Sh).val, .bool true]) ∧ Below w.heap.size w w' := by
  go_enter Try.func85, Try.ntmps85
  go_wp2
  refine bodyPost_ret (v := .tuple #[(⟨15, 0, 1, 1, 1048576, 64⟩ : Sh).val, .bool true]) (by simp [results, Try.results85, go_sem, Sh.val]) rfl ⟨rfl, by go_grown⟩

theorem shapeOf_9 (w : World) :
    Calls Try.prog 85 #[.int .i64 9] w fun e w' => e = .returned (.tuple #[(⟨114, 82, 15, 4, 1048576, 64⟩ : Sh).val, .bool true]) ∧ Below w.heap.size w w' := by
  go_enter Try.func85, Try.ntmps85
  go_wp2
  refine bodyPost_ret (v := .tuple #[(⟨114, 82, 15, 4, 1048576, 64⟩ : Sh).val, .bool true]) (by simp [results, Try.results85, go_sem, Sh.val]) rfl ⟨rfl, by go_grown⟩

theorem shapeOf_10 (w : World) :
    Calls Try.prog 85 #[.int .i64 10] w fun e w' => e = .returned (.tuple #[(⟨45, 8, 15, 1, 256, 64⟩ : Sh).val, .bool true]) ∧ Below w.heap.size w w' := by
  go_enter Try.func85, Try.ntmps85
  go_wp2
  refine bodyPost_ret (v := .tuple #[(⟨45, 8, 15, 1, 256, 64⟩ : Sh).val, .bool true]) (by simp [results, Try.results85, go_sem, Sh.val]) rfl ⟨rfl, by go_grown⟩

theorem shapeOf_11 (w : World) :
    Calls Try.prog 85 #[.int .i64 11] w fun e w' => e = .returned (.tuple #[(⟨115, 82, 15, 1, 1048576, 64⟩ : Sh).val, .bool true]) ∧ Below w.heap.size w w' := by
  go_enter Try.func85, Try.ntmps85
  go_wp2
  refine bodyPost_ret (v := .tuple #[(⟨115, 82, 15, 1, 1048576, 64⟩ : Sh).val, .bool true]) (by simp [results, Try.results85, go_sem, Sh.val]) rfl ⟨rfl, by go_grown⟩

theorem shapeOf_12 (w : World) :
    Calls Try.prog 85 #[.int .i64 12] w fun e w' => e = .returned (.tuple #[(⟨36, 0, 15, 1, 64, 64⟩ : Sh).val, .bool true]) ∧ Below w.heap.size w w' := by
  go_enter Try.func85, Try.ntmps85
  go_wp2
  refine bodyPost_ret (v := .tuple #[(⟨36, 0, 15, 1, 64, 64⟩ : Sh).val, .bool true]) (by simp [results, Try.results85, go_sem, Sh.val]) rfl ⟨rfl, by go_grown⟩

theorem shapeOf_13 (w : World) :
    Calls Try.prog 85 #[.int .i64 13] w fun e w' => e = .returned (.tuple #[(⟨114, 82, 15, 4, 1048576, 64⟩ : Sh).val, .bool true]) ∧ Below w.heap.size w w' := by
  go_enter Try.func85, Try.ntmps85
  go_wp2
  refine bodyPost_ret (v := .tuple #[(⟨114, 82, 15, 4, 1048576, 64⟩ : Sh).val, .bool true]) (by simp [results, Try.results85, go_sem, Sh.val]) rfl ⟨rfl, by go_grown⟩

theorem shapeOf_calls (k : Int) (s : Sh) (w : World) (h : shape k = some s) :
    Calls Try.prog 85 #[.int .i64 k] w fun e w' => e = .returned (.tuple #[s.val, .bool true]) ∧ Below w.heap.size w w' := by
  by_cases hk : 1 ≤ k ∧ k ≤ 13
  · obtain ⟨n, rfl⟩ := Int.eq_ofNat_of_zero_le (show 0 ≤ k by omega)
    have hn : n = 1 ∨ n = 2 ∨ n = 3 ∨ n = 4 ∨ n = 5 ∨ n = 6 ∨ n = 7 ∨ n = 8 ∨ n = 9 ∨ n = 10 ∨ n = 11 ∨ n = 12 ∨ n = 13 := by omega
    rcases hn with rfl | rfl | rfl | rfl | rfl | rfl | rfl | rfl | rfl | rfl | rfl | rfl | rfl
    · simp [shape, shapeN] at h; subst h; exact shapeOf_1 w
    · simp [shape, shapeN] at h; subst h; exact shapeOf_2 w
    · simp [shape, shapeN] at h; subst h; exact shapeOf_3 w
    · simp [shape, shapeN] at h; subst h; exact shapeOf_4 w
    · simp [shape, shapeN] at h; subst h; exact shapeOf_5 w
    · simp [shape, shapeN] at h; subst h; exact shapeOf_6 w
    · simp [shape, shapeN] at h; subst h; exact shapeOf_7 w
    · simp [shape, shapeN] at h; subst h; exact shapeOf_8 w
    · simp [shape, shapeN] at h; subst h; exact shapeOf_9 w
    · simp [shape, shapeN] at h; subst h; exact shapeOf_10 w
    · simp [shape, shapeN] at h; subst h; exact shapeOf_11 w
    · simp [shape, shapeN] at h; subst h; exact shapeOf_12 w
    · simp [shape, shapeN] at h; subst h; exact shapeOf_13 w
  · rw [shape_other k hk] at h; cases h
end Go.Proofs.Ytocphdikppeijaa
