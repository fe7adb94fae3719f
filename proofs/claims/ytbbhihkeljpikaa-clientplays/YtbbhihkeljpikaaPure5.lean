/- What a reader tells as an error is never OK. -/
import Derived.Test.YtbbhihkeljpikaaPure4
namespace Go.Proofs.Ytbbhihkeljpikaa
open Go.RowKit
set_option linter.unusedVariables false
set_option linter.unusedSimpArgs false

def NZ {α : Type} (rd : List UInt8 → Except Int (α × Nat)) : Prop := ∀ l er, rd l = .error er → er ≠ 0

theorem nz_num : ∀ k i n, NZ (rdP k i n) := by
  intro k
  induction k with
  | zero => intro i n l er h; simp [rdP] at h; omega
  | succ k ih =>
    intro i n l er h
    cases l with
    | nil => simp [rdP] at h; omega
    | cons c l =>
      simp only [rdP] at h
      split at h
      · exact ih _ _ _ _ h
      · split at h
        · simp at h; omega
        · cases h
theorem nz_seq {α β : Type} {r1 : List UInt8 → Except Int (α × Nat)} {r2 : List UInt8 → Except Int (β × Nat)} (h1 : NZ r1) (h2 : NZ r2) : NZ (seqR r1 r2) := by
  intro l er h
  unfold seqR at h
  cases e1 : r1 l with
  | error e => rw [e1] at h; simp only [Except.error.injEq] at h; subst h; exact h1 _ _ e1
  | ok p =>
    obtain ⟨x, c⟩ := p
    rw [e1] at h
    simp only at h
    cases e2 : r2 (l.drop c) with
    | error e => rw [e2] at h; simp only [Except.error.injEq] at h; subst h; exact h2 _ _ e2
    | ok p => rw [e2] at h; cases h
theorem nz_map {α β : Type} {r : List UInt8 → Except Int (α × Nat)} (f : α → β) (h : NZ r) : NZ (fun l => mapR f (r l)) := by
  intro l er hh
  cases e : r l with
  | error e' => simp only [e, mapR, Except.error.injEq] at hh; subst hh; exact h _ _ e
  | ok p => simp only [e, mapR] at hh; cases hh
theorem nz_text : NZ rdTP := by
  intro l er h
  unfold rdTP at h
  cases e1 : rdP 8 0 0 l with
  | error e => rw [e1] at h; simp only [Except.error.injEq] at h; subst h; exact nz_num _ _ _ _ _ e1
  | ok p =>
    obtain ⟨n, c⟩ := p
    rw [e1] at h
    simp only at h
    split at h
    · simp at h; omega
    · split at h
      · simp at h; omega
      · cases h
theorem nz_rep {α : Type} {r : List UInt8 → Except Int (α × Nat)} (h : NZ r) : ∀ k, NZ (repR r k) := by
  intro k
  induction k with
  | zero => intro l er hh; simp [repR] at hh
  | succ k ih =>
    intro l er hh
    simp only [repR] at hh
    cases e1 : r l with
    | error e => rw [e1] at hh; simp only [Except.error.injEq] at hh; subst hh; exact h _ _ e1
    | ok p =>
      obtain ⟨x, c⟩ := p
      rw [e1] at hh
      simp only at hh
      cases e2 : repR r k (l.drop c) with
      | error e => rw [e2] at hh; simp only [Except.error.injEq] at hh; subst hh; exact ih _ _ e2
      | ok p => rw [e2] at hh; cases hh
theorem nz_cnt {α : Type} {r : List UInt8 → Except Int (α × Nat)} (h : NZ r) (most : Nat) : NZ (cntR r most) := by
  intro l er hh
  unfold cntR at hh
  cases e1 : rdP 8 0 0 l with
  | error e => rw [e1] at hh; simp only [Except.error.injEq] at hh; subst hh; exact nz_num _ _ _ _ _ e1
  | ok p =>
    obtain ⟨n, c⟩ := p
    rw [e1] at hh
    simp only at hh
    split at hh
    · simp at hh; omega
    · cases e2 : repR r n (l.drop c) with
      | error e => rw [e2] at hh; simp only [Except.error.injEq] at hh; subst hh; exact nz_rep h _ _ _ e2
      | ok p => rw [e2] at hh; cases hh
theorem nz_sg : NZ rdSgL := nz_map _ (nz_seq (nz_num _ _ _) (nz_seq nz_text nz_text))
theorem nz_bd : NZ rdBdL := nz_map _ (nz_seq (nz_num _ _ _) (nz_seq (nz_num _ _ _) (nz_seq (nz_num _ _ _) (nz_seq (nz_num _ _ _) (nz_seq (nz_num _ _ _) (nz_seq nz_text (nz_seq nz_text (nz_cnt nz_sg 64))))))))

theorem ofR_err {s : ByteArray} {er : Int} (h : ofR s = .error er) : er ≠ 0 := by
  unfold ofR at h
  split at h
  · simp at h; omega
  · rw [rdBd_list _ 0 (Nat.zero_le _)] at h
    cases e : rdBdL (s.data.toList.drop 0) with
    | error er' => rw [e] at h; simp only [shiftR, Except.error.injEq] at h; subst h; exact nz_bd _ _ e
    | ok p =>
      obtain ⟨b, c⟩ := p
      rw [e] at h
      simp only [shiftR] at h
      split at h
      · simp at h; omega
      · split at h
        · cases h
        · rename_i hr
          simp only [Except.error.injEq] at h
          subst h; exact hr
end Go.Proofs.Ytbbhihkeljpikaa
