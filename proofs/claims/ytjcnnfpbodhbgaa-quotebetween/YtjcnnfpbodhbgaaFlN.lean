/- Floats of 64 bits: to round keeps the order. No program is named here. -/
import Derived.Test.YtjcnnfpbodhbgaaFlS
namespace Go.Proofs.Ytjcnnfpbodhbgaa
open Go.RowKit
set_option linter.unusedSimpArgs false
set_option linter.unusedVariables false

theorem cut_bounds (s : Bool) (n d M : Nat) : (n ≤ M * 2 ^ d → Ieee.Toward.even.cut s n d ≤ M) ∧ (M * 2 ^ d ≤ n → M ≤ Ieee.Toward.even.cut s n d) := by
  unfold Ieee.Toward.cut
  simp only [Nat.shiftLeft_eq, Nat.one_mul]
  rcases Nat.le_total d (n.log2 + 2) with h1 | h1
  · rw [Nat.min_eq_left h1]
    have hp := Nat.two_pow_pos d
    have hdm := Nat.div_add_mod n (2 ^ d)
    have hm := Nat.mod_lt n hp
    constructor
    · intro h
      have hlow : n / 2 ^ d ≤ M := by
        rw [Nat.div_le_iff_le_mul_add_pred hp, Nat.mul_comm]; omega
      rcases Nat.lt_or_ge (n / 2 ^ d) M with h2 | h2
      · have : ∀ b : Bool, b.toNat ≤ 1 := by decide
        have := this (decide (2 ^ d < 2 * (n % 2 ^ d)) || (2 ^ d == 2 * (n % 2 ^ d) && n / 2 ^ d % 2 == 1))
        omega
      · have e : n / 2 ^ d = M := by omega
        rw [e, Nat.mul_comm] at hdm
        have h0 : n % 2 ^ d = 0 := by omega
        have hz : (2 ^ d == 0) = false := by rw [beq_eq_false_iff_ne]; omega
        rw [h0, e]
        simp [hz]
    · intro h
      have : M ≤ n / 2 ^ d := (Nat.le_div_iff_mul_le hp).2 h
      omega
  · rw [Nat.min_eq_right h1]
    have h2 : n < 2 ^ (n.log2 + 1) := Nat.lt_log2_self
    have h3 : 2 ^ (n.log2 + 2) = 2 * 2 ^ (n.log2 + 1) := by rw [Nat.pow_succ]; omega
    have h4 : 2 ^ (n.log2 + 2) ≤ 2 ^ d := Nat.pow_le_pow_right (by decide) h1
    generalize 2 ^ (n.log2 + 2) = g at *
    generalize 2 ^ (n.log2 + 1) = g2 at *
    rw [Nat.div_eq_of_lt (show n < g by omega), Nat.mod_eq_of_lt (show n < g by omega), show decide (g < 2 * n) = false by simp; omega]
    have e2 : (g == 2 * n) = false := by simp; omega
    rw [e2]
    simp
    intro h
    rcases Nat.eq_zero_or_pos M with h5 | h5
    · exact h5
    · have := Nat.le_mul_of_pos_left (2 ^ d) h5; omega

theorem rung_parts (r : Nat) : fexp r * 4503599627370496 + fmag r = r ∧ (0 < fexp r → 4503599627370496 ≤ fmag r) := by
  unfold fexp fmag
  by_cases hs : r < 4503599627370496
  · rw [if_pos hs, Nat.div_eq_of_lt hs]; simp
  · rw [if_neg hs]; omega

theorem nearest_bounds (s : Bool) (mag : Nat) (place : Int) (h0 : mag ≠ 0) :
    ∃ q, Ieee.double.nearest s mag place = fword s (min q 9218868437227405312) ∧
      (∀ r a b : Nat, place + b = -1074 + a → mag * 2 ^ a ≤ fval r * 2 ^ b → q ≤ r) ∧ (∀ r a b : Nat, place + b = -1074 + a → fval r * 2 ^ b ≤ mag * 2 ^ a → r ≤ q) := by
  have e2 : Ieee.double.binade = 4503599627370496 := rfl
  have e3 : Ieee.double.infRung = 9218868437227405312 := rfl
  have e4 : Ieee.double.leastPlace = -1074 := rfl
  have e5 : Ieee.double.fractionBits = 52 := rfl
  unfold Ieee.Format.nearest
  rw [if_neg h0, e2, e3, e4, e5]
  obtain ⟨E, hE⟩ : ∃ E : Nat, max (place + (mag.log2 : Nat) - (52 : Nat)) (-1074) = -1074 + (E : Int) := ⟨(max (place + (mag.log2 : Nat) - (52 : Nat)) (-1074) + 1074).toNat, by omega⟩
  rw [hE]
  simp only []
  have hl1 := Nat.log2_self_le h0
  have hl2 : mag < 2 ^ (mag.log2 + 1) := Nat.lt_log2_self
  generalize mag.log2 = L at *
  generalize hu : (place - (-1074 + (E : Nat))).toNat = u
  generalize hd : (-1074 + (E : Nat) - place).toNat = d
  rw [show (-1074 + (E : Nat) - -1074 : Int).toNat = E by omega, Nat.shiftLeft_eq]
  have hlt : mag * 2 ^ u < 9007199254740992 * 2 ^ d := by
    have h1 : mag * 2 ^ u < 2 ^ (L + 1) * 2 ^ u := Nat.mul_lt_mul_of_pos_right hl2 (Nat.two_pow_pos u)
    rw [← Nat.pow_add] at h1
    have h2 : 2 ^ (L + 1 + u) ≤ 2 ^ (53 + d) := Nat.pow_le_pow_right (by decide) (by omega)
    rw [Nat.pow_add 2 53 d] at h2
    rw [show (9007199254740992 : Nat) = 2 ^ 53 by decide]
    omega
  have hge : 0 < E → 4503599627370496 * 2 ^ d ≤ mag * 2 ^ u := by
    intro hE0
    have h1 : 2 ^ L * 2 ^ u ≤ mag * 2 ^ u := Nat.mul_le_mul_right _ hl1
    rw [← Nat.pow_add, show L + u = 52 + d by omega, Nat.pow_add] at h1
    exact h1
  have key1 := fun M => (cut_bounds s (mag * 2 ^ u) d M).1
  have key2 := fun M => (cut_bounds s (mag * 2 ^ u) d M).2
  generalize Ieee.Toward.even.cut s (mag * 2 ^ u) d = kept at *
  refine ⟨E * 4503599627370496 + kept, rfl, ?_, ?_⟩
  · intro r a b hp hv
    obtain ⟨hr, hrm⟩ := rung_parts r
    have hk53 : kept ≤ 9007199254740992 := key1 _ (Nat.le_of_lt hlt)
    unfold fval at hv
    -- n * 2^(E+b) = mag * 2^a * 2^d
    have hn : mag * 2 ^ u * 2 ^ (E + b) = mag * 2 ^ a * 2 ^ d := by
      rw [Nat.mul_assoc, Nat.mul_assoc, ← Nat.pow_add, ← Nat.pow_add, show u + (E + b) = a + d by omega]
    rcases Nat.lt_trichotomy (fexp r) E with h1 | h1 | h1
    · exfalso
      have hg := hge (by omega)
      have hm := fmag_lt r
      have h2 : 4503599627370496 * 2 ^ d * 2 ^ (E + b) ≤ fmag r * 2 ^ fexp r * 2 ^ b * 2 ^ d := by
        have := Nat.mul_le_mul_right (2 ^ (E + b)) hg
        rw [hn] at this
        exact Nat.le_trans this (Nat.mul_le_mul_right _ hv)
      have h3 : fmag r * 2 ^ fexp r * 2 ^ b * 2 ^ d < 4503599627370496 * 2 ^ d * 2 ^ (E + b) := by
        have e : 4503599627370496 * 2 ^ d * 2 ^ (E + b) = 9007199254740992 * 2 ^ (E - 1) * 2 ^ b * 2 ^ d := by
          have : 2 ^ (E + b) = 2 * (2 ^ (E - 1) * 2 ^ b) := by rw [← Nat.pow_add, Nat.mul_comm, ← Nat.pow_succ]; congr 1; omega
          rw [this]
          generalize 2 ^ d = D
          generalize 2 ^ b = G
          generalize 2 ^ (E - 1) = F
          rw [show (9007199254740992 : Nat) = 4503599627370496 * 2 by decide]
          simp only [Nat.mul_assoc, Nat.mul_comm, Nat.mul_left_comm]
        rw [e]
        refine Nat.mul_lt_mul_of_pos_right (Nat.mul_lt_mul_of_pos_right ?_ (Nat.two_pow_pos b)) (Nat.two_pow_pos d)
        have h4 : 2 ^ fexp r ≤ 2 ^ (E - 1) := Nat.pow_le_pow_right (by decide) (by omega)
        exact Nat.lt_of_lt_of_le (Nat.mul_lt_mul_of_pos_right hm (Nat.two_pow_pos _)) (Nat.mul_le_mul_left _ h4)
      omega
    · have : mag * 2 ^ u ≤ fmag r * 2 ^ d := by
        have h2 := Nat.mul_le_mul_right (2 ^ d) hv
        rw [← hn, h1] at h2
        have e : fmag r * 2 ^ E * 2 ^ b * 2 ^ d = fmag r * 2 ^ d * 2 ^ (E + b) := by rw [Nat.pow_add]; simp only [Nat.mul_assoc, Nat.mul_comm, Nat.mul_left_comm]
        rw [e] at h2
        exact Nat.le_of_mul_le_mul_right h2 (Nat.two_pow_pos _)
      have := key1 _ this
      rw [h1] at hr; omega
    · have h2 := hrm (by omega)
      have h3 : (E + 1) * 4503599627370496 ≤ fexp r * 4503599627370496 := Nat.mul_le_mul_right _ h1
      omega
  · intro r a b hp hv
    obtain ⟨hr, hrm⟩ := rung_parts r
    unfold fval at hv
    have hn : mag * 2 ^ u * 2 ^ (E + b) = mag * 2 ^ a * 2 ^ d := by
      rw [Nat.mul_assoc, Nat.mul_assoc, ← Nat.pow_add, ← Nat.pow_add, show u + (E + b) = a + d by omega]
    rcases Nat.lt_trichotomy (fexp r) E with h1 | h1 | h1
    · have hk := key2 _ (hge (by omega))
      have hm := fmag_lt r
      have h3 : (fexp r + 1) * 4503599627370496 ≤ E * 4503599627370496 := Nat.mul_le_mul_right _ h1
      omega
    · have : fmag r * 2 ^ d ≤ mag * 2 ^ u := by
        have h2 := Nat.mul_le_mul_right (2 ^ d) hv
        rw [← hn, h1] at h2
        have e : fmag r * 2 ^ E * 2 ^ b * 2 ^ d = fmag r * 2 ^ d * 2 ^ (E + b) := by rw [Nat.pow_add]; simp only [Nat.mul_assoc, Nat.mul_comm, Nat.mul_left_comm]
        rw [e] at h2
        exact Nat.le_of_mul_le_mul_right h2 (Nat.two_pow_pos _)
      have := key2 _ this
      rw [h1] at hr; omega
    · exfalso
      have h2 := hrm (by omega)
      have h3 : fmag r * 2 ^ fexp r * 2 ^ b * 2 ^ d ≤ mag * 2 ^ u * 2 ^ (E + b) := by rw [hn]; exact Nat.mul_le_mul_right _ hv
      have h4 : mag * 2 ^ u * 2 ^ (E + b) < 9007199254740992 * 2 ^ d * 2 ^ (E + b) := Nat.mul_lt_mul_of_pos_right hlt (Nat.two_pow_pos _)
      have h5 : 9007199254740992 * 2 ^ d * 2 ^ (E + b) ≤ fmag r * 2 ^ fexp r * 2 ^ b * 2 ^ d := by
        have e : 9007199254740992 * 2 ^ d * 2 ^ (E + b) = 4503599627370496 * 2 ^ (E + 1) * 2 ^ b * 2 ^ d := by
          rw [Nat.pow_add, Nat.pow_succ, show (9007199254740992 : Nat) = 4503599627370496 * 2 by decide]
          simp only [Nat.mul_assoc, Nat.mul_comm, Nat.mul_left_comm]
        rw [e]
        refine Nat.mul_le_mul_right _ (Nat.mul_le_mul_right _ ?_)
        exact Nat.mul_le_mul h2 (Nat.pow_le_pow_right (by decide) h1)
      omega
end Go.Proofs.Ytjcnnfpbodhbgaa
