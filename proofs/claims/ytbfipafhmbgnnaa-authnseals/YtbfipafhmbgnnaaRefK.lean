/- The document's Right, kind by kind. -/
import Derived.Test.YtbfipafhmbgnnaaRefR
namespace Go.Proofs.Ytbfipafhmbgnnaa
open Go.RowKit
set_option linter.unusedVariables false
set_option linter.unusedSimpArgs false

theorem right_1 (b : Bd) (hk : b.kind = 1) (h : Rg b) : right b = if allowedB b ⟨#[67, 84, 88]⟩ ⟨#[84]⟩ = true ∧ b.text.size ≤ 256 then 0 else 14 := by
  obtain ⟨v0, v1, s0, s1, c0, c1, t0, t1, d, x, l, a⟩ := h
  have hsh : shape b.kind = some ⟨44, 8, 15, 1, 256, 64⟩ := by rw [hk]; rfl
  have hmod : b.seq.tmod (1 : Nat) = b.seq % 1 := Int.tmod_eq_emod_of_nonneg (by omega)
  unfold right
  rw [hsh]
  simp only
  rw [bits_1]
  have hN : fitsN b ⟨44, 8, 15, 1, 256, 64⟩ = decide (True) := by
    unfold fitsN
    simp only
    rw [hmod, Bool.eq_iff_iff]
    simp only [Bool.and_eq_true, decide_eq_true_eq, beq_iff_eq, iff_true]
    omega
  have hT : fitsT b ⟨44, 8, 15, 1, 256, 64⟩ = decide (b.text.size ≤ 256) := by
    unfold fitsT
    simp only
    rw [a, Bool.eq_iff_iff]
    simp only [Bool.and_eq_true, decide_eq_true_eq, and_true, iff_true]
    omega
  rw [hN, hT]
  cases allowedB b ⟨#[67, 84, 88]⟩ ⟨#[84]⟩ <;> simp <;> (split <;> split <;> omega)

theorem right_2 (b : Bd) (hk : b.kind = 2) (h : Rg b) : right b = if allowedB b ⟨#[86, 83, 76]⟩ ⟨#[83]⟩ = true ∧ b.list.length ≤ 4 then 0 else 14 := by
  obtain ⟨v0, v1, s0, s1, c0, c1, t0, t1, d, x, l, a⟩ := h
  have hsh : shape b.kind = some ⟨67, 2, 15, 1, 1048576, 4⟩ := by rw [hk]; rfl
  have hmod : b.seq.tmod (1 : Nat) = b.seq % 1 := Int.tmod_eq_emod_of_nonneg (by omega)
  unfold right
  rw [hsh]
  simp only
  rw [bits_2]
  have hN : fitsN b ⟨67, 2, 15, 1, 1048576, 4⟩ = decide (True) := by
    unfold fitsN
    simp only
    rw [hmod, Bool.eq_iff_iff]
    simp only [Bool.and_eq_true, decide_eq_true_eq, beq_iff_eq, iff_true]
    omega
  have hT : fitsT b ⟨67, 2, 15, 1, 1048576, 4⟩ = decide (b.list.length ≤ 4) := by
    unfold fitsT
    simp only
    rw [a, Bool.eq_iff_iff]
    simp only [Bool.and_eq_true, decide_eq_true_eq, and_true, iff_true]
    omega
  rw [hN, hT]
  cases allowedB b ⟨#[86, 83, 76]⟩ ⟨#[83]⟩ <;> simp <;> (split <;> split <;> omega)

theorem right_3 (b : Bd) (hk : b.kind = 3) (h : Rg b) : right b = if allowedB b ⟨#[86, 83, 68]⟩ ⟨#[83, 68]⟩ = true then 0 else 14 := by
  obtain ⟨v0, v1, s0, s1, c0, c1, t0, t1, d, x, l, a⟩ := h
  have hsh : shape b.kind = some ⟨19, 18, 15, 1, 1048576, 64⟩ := by rw [hk]; rfl
  have hmod : b.seq.tmod (1 : Nat) = b.seq % 1 := Int.tmod_eq_emod_of_nonneg (by omega)
  unfold right
  rw [hsh]
  simp only
  rw [bits_3]
  have hN : fitsN b ⟨19, 18, 15, 1, 1048576, 64⟩ = decide (True) := by
    unfold fitsN
    simp only
    rw [hmod, Bool.eq_iff_iff]
    simp only [Bool.and_eq_true, decide_eq_true_eq, beq_iff_eq, iff_true]
    omega
  have hT : fitsT b ⟨19, 18, 15, 1, 1048576, 64⟩ = decide (True) := by
    unfold fitsT
    simp only
    rw [a, Bool.eq_iff_iff]
    simp only [Bool.and_eq_true, decide_eq_true_eq, and_true, iff_true]
    omega
  rw [hN, hT]
  cases allowedB b ⟨#[86, 83, 68]⟩ ⟨#[83, 68]⟩ <;> simp <;> (split <;> split <;> omega)

theorem right_4 (b : Bd) (hk : b.kind = 4) (h : Rg b) : right b = if allowedB b ⟨#[86, 83, 68]⟩ ⟨#[83, 68]⟩ = true then 0 else 14 := by
  obtain ⟨v0, v1, s0, s1, c0, c1, t0, t1, d, x, l, a⟩ := h
  have hsh : shape b.kind = some ⟨19, 18, 15, 1, 1048576, 64⟩ := by rw [hk]; rfl
  have hmod : b.seq.tmod (1 : Nat) = b.seq % 1 := Int.tmod_eq_emod_of_nonneg (by omega)
  unfold right
  rw [hsh]
  simp only
  rw [bits_4]
  have hN : fitsN b ⟨19, 18, 15, 1, 1048576, 64⟩ = decide (True) := by
    unfold fitsN
    simp only
    rw [hmod, Bool.eq_iff_iff]
    simp only [Bool.and_eq_true, decide_eq_true_eq, beq_iff_eq, iff_true]
    omega
  have hT : fitsT b ⟨19, 18, 15, 1, 1048576, 64⟩ = decide (True) := by
    unfold fitsT
    simp only
    rw [a, Bool.eq_iff_iff]
    simp only [Bool.and_eq_true, decide_eq_true_eq, and_true, iff_true]
    omega
  rw [hN, hT]
  cases allowedB b ⟨#[86, 83, 68]⟩ ⟨#[83, 68]⟩ <;> simp <;> (split <;> split <;> omega)

theorem right_5 (b : Bd) (hk : b.kind = 5) (h : Rg b) : right b = if allowedB b ⟨#[83, 68]⟩ ⟨#[83, 68]⟩ = true ∧ b.seq % 4 = 0 then 0 else 14 := by
  obtain ⟨v0, v1, s0, s1, c0, c1, t0, t1, d, x, l, a⟩ := h
  have hsh : shape b.kind = some ⟨18, 18, 15, 4, 1048576, 64⟩ := by rw [hk]; rfl
  have hmod : b.seq.tmod (4 : Nat) = b.seq % 4 := Int.tmod_eq_emod_of_nonneg (by omega)
  unfold right
  rw [hsh]
  simp only
  rw [bits_5]
  have hN : fitsN b ⟨18, 18, 15, 4, 1048576, 64⟩ = decide (b.seq % 4 = 0) := by
    unfold fitsN
    simp only
    rw [hmod, Bool.eq_iff_iff]
    simp only [Bool.and_eq_true, decide_eq_true_eq, beq_iff_eq, iff_true]
    omega
  have hT : fitsT b ⟨18, 18, 15, 4, 1048576, 64⟩ = decide (True) := by
    unfold fitsT
    simp only
    rw [a, Bool.eq_iff_iff]
    simp only [Bool.and_eq_true, decide_eq_true_eq, and_true, iff_true]
    omega
  rw [hN, hT]
  cases allowedB b ⟨#[83, 68]⟩ ⟨#[83, 68]⟩ <;> simp <;> (split <;> split <;> omega)

theorem right_6 (b : Bd) (hk : b.kind = 6) (h : Rg b) : right b = if allowedB b ⟨#[86, 83, 76]⟩ ⟨#[86]⟩ = true ∧ b.seq % 4 = 0 then 0 else 14 := by
  obtain ⟨v0, v1, s0, s1, c0, c1, t0, t1, d, x, l, a⟩ := h
  have hsh : shape b.kind = some ⟨67, 1, 15, 4, 1048576, 64⟩ := by rw [hk]; rfl
  have hmod : b.seq.tmod (4 : Nat) = b.seq % 4 := Int.tmod_eq_emod_of_nonneg (by omega)
  unfold right
  rw [hsh]
  simp only
  rw [bits_6]
  have hN : fitsN b ⟨67, 1, 15, 4, 1048576, 64⟩ = decide (b.seq % 4 = 0) := by
    unfold fitsN
    simp only
    rw [hmod, Bool.eq_iff_iff]
    simp only [Bool.and_eq_true, decide_eq_true_eq, beq_iff_eq, iff_true]
    omega
  have hT : fitsT b ⟨67, 1, 15, 4, 1048576, 64⟩ = decide (True) := by
    unfold fitsT
    simp only
    rw [a, Bool.eq_iff_iff]
    simp only [Bool.and_eq_true, decide_eq_true_eq, and_true, iff_true]
    omega
  rw [hN, hT]
  cases allowedB b ⟨#[86, 83, 76]⟩ ⟨#[86]⟩ <;> simp <;> (split <;> split <;> omega)

theorem right_7 (b : Bd) (hk : b.kind = 7) (h : Rg b) : right b = if allowedB b ⟨#[86, 76]⟩ ⟨#[86, 76]⟩ = true then 0 else 14 := by
  obtain ⟨v0, v1, s0, s1, c0, c1, t0, t1, d, x, l, a⟩ := h
  have hsh : shape b.kind = some ⟨65, 65, 15, 1, 1048576, 64⟩ := by rw [hk]; rfl
  have hmod : b.seq.tmod (1 : Nat) = b.seq % 1 := Int.tmod_eq_emod_of_nonneg (by omega)
  unfold right
  rw [hsh]
  simp only
  rw [bits_7]
  have hN : fitsN b ⟨65, 65, 15, 1, 1048576, 64⟩ = decide (True) := by
    unfold fitsN
    simp only
    rw [hmod, Bool.eq_iff_iff]
    simp only [Bool.and_eq_true, decide_eq_true_eq, beq_iff_eq, iff_true]
    omega
  have hT : fitsT b ⟨65, 65, 15, 1, 1048576, 64⟩ = decide (True) := by
    unfold fitsT
    simp only
    rw [a, Bool.eq_iff_iff]
    simp only [Bool.and_eq_true, decide_eq_true_eq, and_true, iff_true]
    omega
  rw [hN, hT]
  cases allowedB b ⟨#[86, 76]⟩ ⟨#[86, 76]⟩ <;> simp <;> (split <;> split <;> omega)

theorem right_8 (b : Bd) (hk : b.kind = 8) (h : Rg b) : right b = if allowedB b ⟨#[86, 83, 67, 84]⟩ ⟨#[]⟩ = true ∧ b.client ≤ 1 then 0 else 14 := by
  obtain ⟨v0, v1, s0, s1, c0, c1, t0, t1, d, x, l, a⟩ := h
  have hsh : shape b.kind = some ⟨15, 0, 1, 1, 1048576, 64⟩ := by rw [hk]; rfl
  have hmod : b.seq.tmod (1 : Nat) = b.seq % 1 := Int.tmod_eq_emod_of_nonneg (by omega)
  unfold right
  rw [hsh]
  simp only
  rw [bits_8]
  have hN : fitsN b ⟨15, 0, 1, 1, 1048576, 64⟩ = decide (b.client ≤ 1) := by
    unfold fitsN
    simp only
    rw [hmod, Bool.eq_iff_iff]
    simp only [Bool.and_eq_true, decide_eq_true_eq, beq_iff_eq, iff_true]
    omega
  have hT : fitsT b ⟨15, 0, 1, 1, 1048576, 64⟩ = decide (True) := by
    unfold fitsT
    simp only
    rw [a, Bool.eq_iff_iff]
    simp only [Bool.and_eq_true, decide_eq_true_eq, and_true, iff_true]
    omega
  rw [hN, hT]
  cases allowedB b ⟨#[86, 83, 67, 84]⟩ ⟨#[]⟩ <;> simp <;> (split <;> split <;> omega)

theorem right_9 (b : Bd) (hk : b.kind = 9) (h : Rg b) : right b = if allowedB b ⟨#[83, 68, 88, 76]⟩ ⟨#[83, 68, 76]⟩ = true ∧ b.seq % 4 = 0 then 0 else 14 := by
  obtain ⟨v0, v1, s0, s1, c0, c1, t0, t1, d, x, l, a⟩ := h
  have hsh : shape b.kind = some ⟨114, 82, 15, 4, 1048576, 64⟩ := by rw [hk]; rfl
  have hmod : b.seq.tmod (4 : Nat) = b.seq % 4 := Int.tmod_eq_emod_of_nonneg (by omega)
  unfold right
  rw [hsh]
  simp only
  rw [bits_9]
  have hN : fitsN b ⟨114, 82, 15, 4, 1048576, 64⟩ = decide (b.seq % 4 = 0) := by
    unfold fitsN
    simp only
    rw [hmod, Bool.eq_iff_iff]
    simp only [Bool.and_eq_true, decide_eq_true_eq, beq_iff_eq, iff_true]
    omega
  have hT : fitsT b ⟨114, 82, 15, 4, 1048576, 64⟩ = decide (True) := by
    unfold fitsT
    simp only
    rw [a, Bool.eq_iff_iff]
    simp only [Bool.and_eq_true, decide_eq_true_eq, and_true, iff_true]
    omega
  rw [hN, hT]
  cases allowedB b ⟨#[83, 68, 88, 76]⟩ ⟨#[83, 68, 76]⟩ <;> simp <;> (split <;> split <;> omega)

theorem right_10 (b : Bd) (hk : b.kind = 10) (h : Rg b) : right b = if allowedB b ⟨#[86, 67, 84, 88]⟩ ⟨#[84]⟩ = true ∧ b.text.size ≤ 256 then 0 else 14 := by
  obtain ⟨v0, v1, s0, s1, c0, c1, t0, t1, d, x, l, a⟩ := h
  have hsh : shape b.kind = some ⟨45, 8, 15, 1, 256, 64⟩ := by rw [hk]; rfl
  have hmod : b.seq.tmod (1 : Nat) = b.seq % 1 := Int.tmod_eq_emod_of_nonneg (by omega)
  unfold right
  rw [hsh]
  simp only
  rw [bits_10]
  have hN : fitsN b ⟨45, 8, 15, 1, 256, 64⟩ = decide (True) := by
    unfold fitsN
    simp only
    rw [hmod, Bool.eq_iff_iff]
    simp only [Bool.and_eq_true, decide_eq_true_eq, beq_iff_eq, iff_true]
    omega
  have hT : fitsT b ⟨45, 8, 15, 1, 256, 64⟩ = decide (b.text.size ≤ 256) := by
    unfold fitsT
    simp only
    rw [a, Bool.eq_iff_iff]
    simp only [Bool.and_eq_true, decide_eq_true_eq, and_true, iff_true]
    omega
  rw [hN, hT]
  cases allowedB b ⟨#[86, 67, 84, 88]⟩ ⟨#[84]⟩ <;> simp <;> (split <;> split <;> omega)

theorem right_11 (b : Bd) (hk : b.kind = 11) (h : Rg b) : right b = if allowedB b ⟨#[86, 83, 68, 88, 76]⟩ ⟨#[83, 68, 76]⟩ = true then 0 else 14 := by
  obtain ⟨v0, v1, s0, s1, c0, c1, t0, t1, d, x, l, a⟩ := h
  have hsh : shape b.kind = some ⟨115, 82, 15, 1, 1048576, 64⟩ := by rw [hk]; rfl
  have hmod : b.seq.tmod (1 : Nat) = b.seq % 1 := Int.tmod_eq_emod_of_nonneg (by omega)
  unfold right
  rw [hsh]
  simp only
  rw [bits_11]
  have hN : fitsN b ⟨115, 82, 15, 1, 1048576, 64⟩ = decide (True) := by
    unfold fitsN
    simp only
    rw [hmod, Bool.eq_iff_iff]
    simp only [Bool.and_eq_true, decide_eq_true_eq, beq_iff_eq, iff_true]
    omega
  have hT : fitsT b ⟨115, 82, 15, 1, 1048576, 64⟩ = decide (True) := by
    unfold fitsT
    simp only
    rw [a, Bool.eq_iff_iff]
    simp only [Bool.and_eq_true, decide_eq_true_eq, and_true, iff_true]
    omega
  rw [hN, hT]
  cases allowedB b ⟨#[86, 83, 68, 88, 76]⟩ ⟨#[83, 68, 76]⟩ <;> simp <;> (split <;> split <;> omega)

theorem right_12 (b : Bd) (hk : b.kind = 12) (h : Rg b) : right b = if allowedB b ⟨#[67, 88]⟩ ⟨#[]⟩ = true ∧ b.text.size ≤ 64 then 0 else 14 := by
  obtain ⟨v0, v1, s0, s1, c0, c1, t0, t1, d, x, l, a⟩ := h
  have hsh : shape b.kind = some ⟨36, 0, 15, 1, 64, 64⟩ := by rw [hk]; rfl
  have hmod : b.seq.tmod (1 : Nat) = b.seq % 1 := Int.tmod_eq_emod_of_nonneg (by omega)
  unfold right
  rw [hsh]
  simp only
  rw [bits_12]
  have hN : fitsN b ⟨36, 0, 15, 1, 64, 64⟩ = decide (True) := by
    unfold fitsN
    simp only
    rw [hmod, Bool.eq_iff_iff]
    simp only [Bool.and_eq_true, decide_eq_true_eq, beq_iff_eq, iff_true]
    omega
  have hT : fitsT b ⟨36, 0, 15, 1, 64, 64⟩ = decide (b.text.size ≤ 64) := by
    unfold fitsT
    simp only
    rw [a, Bool.eq_iff_iff]
    simp only [Bool.and_eq_true, decide_eq_true_eq, and_true, iff_true]
    omega
  rw [hN, hT]
  cases allowedB b ⟨#[67, 88]⟩ ⟨#[]⟩ <;> simp <;> (split <;> split <;> omega)

theorem right_13 (b : Bd) (hk : b.kind = 13) (h : Rg b) : right b = if allowedB b ⟨#[83, 68, 88, 76]⟩ ⟨#[83, 68, 76]⟩ = true ∧ b.seq % 4 = 0 then 0 else 14 := by
  obtain ⟨v0, v1, s0, s1, c0, c1, t0, t1, d, x, l, a⟩ := h
  have hsh : shape b.kind = some ⟨114, 82, 15, 4, 1048576, 64⟩ := by rw [hk]; rfl
  have hmod : b.seq.tmod (4 : Nat) = b.seq % 4 := Int.tmod_eq_emod_of_nonneg (by omega)
  unfold right
  rw [hsh]
  simp only
  rw [bits_13]
  have hN : fitsN b ⟨114, 82, 15, 4, 1048576, 64⟩ = decide (b.seq % 4 = 0) := by
    unfold fitsN
    simp only
    rw [hmod, Bool.eq_iff_iff]
    simp only [Bool.and_eq_true, decide_eq_true_eq, beq_iff_eq, iff_true]
    omega
  have hT : fitsT b ⟨114, 82, 15, 4, 1048576, 64⟩ = decide (True) := by
    unfold fitsT
    simp only
    rw [a, Bool.eq_iff_iff]
    simp only [Bool.and_eq_true, decide_eq_true_eq, and_true, iff_true]
    omega
  rw [hN, hT]
  cases allowedB b ⟨#[83, 68, 88, 76]⟩ ⟨#[83, 68, 76]⟩ <;> simp <;> (split <;> split <;> omega)

end Go.Proofs.Ytbfipafhmbgnnaa
