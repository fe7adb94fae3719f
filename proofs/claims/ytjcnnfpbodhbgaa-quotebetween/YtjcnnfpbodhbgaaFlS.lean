/- Floats of 64 bits: sums that are exact, whole numbers next to a float. No program is named here. -/
import Derived.Test.YtjcnnfpbodhbgaaFlA
namespace Go.Proofs.Ytjcnnfpbodhbgaa
open Go.RowKit
set_option linter.unusedSimpArgs false
set_option linter.unusedVariables false

theorem exists_rung (M e : Nat) (h : M < 9007199254740992) : ∃ r, fval r = M * 2 ^ e := by
  refine ⟨fdbls e M, ?_⟩
  rw [fval_dbls]
  congr 1
  rcases Nat.lt_or_ge M 4503599627370496 with h1 | h1
  · exact fval_small h1
  · have e := fval_at 0 (M - 4503599627370496) (by omega)
    rw [show (0 + 1) * 4503599627370496 + (M - 4503599627370496) = M by omega] at e
    rw [e]; omega
theorem exists_whole {K q : Nat} (hK : K = 1074) (h : q ≤ 9007199254740992) : ∃ r, fval r = q * 2 ^ K ∧ r < 9218868437227405312 := by
  obtain ⟨r, hr⟩ : ∃ r, fval r = q * 2 ^ K := by
    rcases Nat.lt_or_ge q 9007199254740992 with h1 | h1
    · exact exists_rung q K h1
    · refine ⟨ftwo 53, ?_⟩
      rw [fval_ftwo hK, show q = 2 ^ 53 by rw [show (2 : Nat) ^ 53 = 9007199254740992 by decide]; omega]
  refine ⟨r, hr, ?_⟩
  rw [← fval_lt, hr, fval_inf hK]
  refine Nat.lt_of_lt_of_le (m := 2 ^ (54 + K)) ?_ (Nat.pow_le_pow_right (by decide) (by omega))
  rw [Nat.pow_add]
  exact Nat.mul_lt_mul_of_pos_right (by omega) (Nat.two_pow_pos _)
theorem nearest_whole {K q r : Nat} (hK : K = 1074) (s : Bool) (hr : fval r = q * 2 ^ K) (hl : r < 9218868437227405312) : Ieee.double.nearest s q 0 = fword s r := by
  rw [nearest_val s q 0 r K 0 (by rw [hr, Nat.pow_zero, Nat.mul_one]) (by omega), Nat.min_eq_left (Nat.le_of_lt hl)]

theorem fsgn_abs (s : Bool) (n : Nat) : (fsgn s n).natAbs = n := by unfold fsgn; cases s <;> simp
theorem fsgn_neg (s : Bool) (n : Nat) : fsgn (!s) n = -fsgn s n := by unfold fsgn; cases s <;> simp

/-- A sum of two numbers whose value is a rung's. -/
theorem sum_exact (s t sg : Bool) (a b r : Nat) (h : fsgn s (fval a) + fsgn t (fval b) = fsgn sg (fval r)) :
    ∃ z, (Ieee.Datum.sum (.number s (fmag a) (-1074 + (fexp a : Nat))) (.number t (fmag b) (-1074 + (fexp b : Nat)))).map Ieee.double.write = some (fword z (min r 9218868437227405312)) ∧ (r ≠ 0 → z = sg) := by
  simp only [Ieee.Datum.sum, signed_eq, Option.map_some]
  generalize hu : ((-1074 + (fexp a : Nat) : Int) - min (-1074 + (fexp a : Nat) : Int) (-1074 + (fexp b : Nat))).toNat = u
  generalize hv : ((-1074 + (fexp b : Nat) : Int) - min (-1074 + (fexp a : Nat) : Int) (-1074 + (fexp b : Nat))).toNat = v
  obtain ⟨c, hc1, hc2, hc3⟩ : ∃ c : Nat, fexp a = u + c ∧ fexp b = v + c ∧ min (-1074 + (fexp a : Nat) : Int) (-1074 + (fexp b : Nat)) = -1074 + (c : Int) := ⟨min (fexp a) (fexp b), by omega, by omega, by omega⟩
  have ea : fmag a * 2 ^ u * 2 ^ c = fval a := by unfold fval; rw [hc1, Nat.pow_add, Nat.mul_assoc]
  have eb : fmag b * 2 ^ v * 2 ^ c = fval b := by unfold fval; rw [hc2, Nat.pow_add, Nat.mul_assoc]
  rw [← ea, ← eb, fsgn_mul s (fmag a * 2 ^ u), fsgn_mul t (fmag b * 2 ^ v), ← Int.add_mul] at h
  generalize fsgn s (fmag a * 2 ^ u) + fsgn t (fmag b * 2 ^ v) = D at *
  have hk : (0 : Int) < ((2 ^ c : Nat) : Int) := by have := Nat.two_pow_pos c; omega
  have hD : D.natAbs * 2 ^ c = fval r := by
    have := congrArg Int.natAbs h
    rw [Int.natAbs_mul, fsgn_abs, Int.natAbs_natCast] at this
    exact this
  rw [hc3]
  refine ⟨if D = 0 then s && t else decide (D < 0), ?_, ?_⟩
  · show some (Ieee.double.nearest _ _ _) = _
    rw [nearest_val _ _ _ r c 0 (by rw [hD, Nat.pow_zero, Nat.mul_one]) (by omega)]
  · intro hr
    have hr' : 0 < fval r := by
      rcases Nat.eq_zero_or_pos (fval r) with h1 | h1
      · exact absurd (fval_eq_zero.1 h1) hr
      · exact h1
    have hD0 : D ≠ 0 := by rintro rfl; simp at hD; omega
    rw [if_neg hD0]
    generalize ((2 ^ c : Nat) : Int) = z at h hk
    unfold fsgn at h
    cases sg
    · simp at h
      have : 0 < D := by
        rcases Int.lt_trichotomy D 0 with h1 | h1 | h1
        · have := Int.mul_neg_of_neg_of_pos h1 hk; omega
        · exact absurd h1 hD0
        · exact h1
      simp; omega
    · simp at h
      have : D < 0 := by
        rcases Int.lt_trichotomy D 0 with h1 | h1 | h1
        · exact h1
        · exact absurd h1 hD0
        · have := Int.mul_pos h1 hk; omega
      simp; omega

theorem sub_exact {x y r : Nat} (sg : Bool) (hx : frung x < 9218868437227405312) (hy : frung y < 9218868437227405312) (h : fsgn (fneg x) (fval (frung x)) - fsgn (fneg y) (fval (frung y)) = fsgn sg (fval r)) (hr : r < 9218868437227405312) :
    ∃ z, Ieee.double.sub x y = some (fword z r) ∧ (r ≠ 0 → z = sg) := by
  have := sum_exact (fneg x) (!fneg y) sg (frung x) (frung y) r (by rw [fsgn_neg]; omega)
  rw [Nat.min_eq_left (Nat.le_of_lt hr)] at this
  unfold Ieee.Format.sub
  rw [read_fin hx, read_fin hy]
  exact this

/-- The whole number next to V units, the even one of two as near. -/
def fev (K V : Nat) : Nat := V / 2 ^ K + (decide (2 ^ K < 2 * (V % 2 ^ K)) || (decide (2 ^ K = 2 * (V % 2 ^ K)) && decide (V / 2 ^ K % 2 = 1))).toNat
theorem split_val {K m e : Nat} (he : e < K) : m * 2 ^ e / 2 ^ K = m / 2 ^ (K - e) ∧ m * 2 ^ e % 2 ^ K = m % 2 ^ (K - e) * 2 ^ e ∧ 2 ^ K = 2 ^ (K - e) * 2 ^ e := by
  have hp : 2 ^ K = 2 ^ (K - e) * 2 ^ e := by rw [← Nat.pow_add, show K - e + e = K by omega]
  refine ⟨?_, ?_, hp⟩
  · rw [hp, Nat.mul_div_mul_right _ _ (Nat.two_pow_pos e)]
  · rw [hp, Nat.mul_mod_mul_right]
theorem even_cut {K x : Nat} (hK : K = 1074) (s : Bool) : Ieee.Toward.even.cut s (fmag (frung x) <<< (-1074 + (fexp (frung x) : Nat) : Int).toNat) (-(-1074 + (fexp (frung x) : Nat) : Int)).toNat = fev K (fval (frung x)) := by
  unfold fval fev
  generalize fmag (frung x) = m
  generalize fexp (frung x) = e
  rcases Nat.lt_or_ge e K with he | he
  · rw [show (-1074 + (e : Nat) : Int).toNat = 0 by omega, show (-(-1074 + (e : Nat) : Int)).toNat = K - e by omega, Nat.shiftLeft_zero]
    obtain ⟨h1, h2, h3⟩ := split_val (m := m) he
    have h4 : decide (2 ^ K < 2 * (m % 2 ^ (K - e) * 2 ^ e)) = decide (2 ^ (K - e) < 2 * (m % 2 ^ (K - e))) := by
      rw [Bool.eq_iff_iff]; simp only [decide_eq_true_eq]; rw [h3, ← Nat.mul_assoc]
      exact ⟨fun h => Nat.lt_of_mul_lt_mul_right h, fun h => Nat.mul_lt_mul_of_pos_right h (Nat.two_pow_pos e)⟩
    have h5 : decide (2 ^ K = 2 * (m % 2 ^ (K - e) * 2 ^ e)) = decide (2 ^ (K - e) = 2 * (m % 2 ^ (K - e))) := by
      rw [Bool.eq_iff_iff]; simp only [decide_eq_true_eq]; rw [h3, ← Nat.mul_assoc]
      exact ⟨fun h => Nat.eq_of_mul_eq_mul_right (Nat.two_pow_pos e) h, fun h => by rw [← h]⟩
    rw [h1, h2, h4, h5]
    clear h1 h2 h3 h4 h5
    have hd : 1 ≤ K - e := by omega
    generalize K - e = d at *
    unfold Ieee.Toward.cut
    simp only [Nat.shiftLeft_eq, Nat.one_mul]
    rcases Nat.le_total d (m.log2 + 2) with h1 | h1
    · rw [Nat.min_eq_left h1]
      congr 2
    · rw [Nat.min_eq_right h1]
      have h2 : m < 2 ^ (m.log2 + 1) := Nat.lt_log2_self
      have h3 : 2 ^ (m.log2 + 2) = 2 * 2 ^ (m.log2 + 1) := by rw [Nat.pow_succ]; omega
      have h4 : 2 ^ (m.log2 + 2) ≤ 2 ^ d := Nat.pow_le_pow_right (by decide) h1
      generalize 2 ^ (m.log2 + 2) = g at *
      generalize 2 ^ (m.log2 + 1) = g2 at *
      generalize 2 ^ d = D at *
      rw [Nat.div_eq_of_lt (show m < g by omega), Nat.div_eq_of_lt (show m < D by omega), Nat.mod_eq_of_lt (show m < g by omega), Nat.mod_eq_of_lt (show m < D by omega)]
      rw [show decide (g < 2 * m) = false by simp; omega, show decide (D < 2 * m) = false by simp; omega]
      simp
  · rw [show (-1074 + (e : Nat) : Int).toNat = e - K by omega, show (-(-1074 + (e : Nat) : Int)).toNat = 0 by omega]
    have h1 : m * 2 ^ e = m * 2 ^ (e - K) * 2 ^ K := by rw [Nat.mul_assoc, ← Nat.pow_add, show e - K + K = e by omega]
    have hp := Nat.two_pow_pos K
    rw [h1, Nat.mul_div_cancel _ hp, Nat.mul_mod_left, Nat.shiftLeft_eq]
    rw [show decide (2 ^ K < 2 * 0) = false by simp, show decide (2 ^ K = 2 * 0) = false by simp]
    have := cut_exact .even s (m * 2 ^ (e - K)) 0
    rw [Nat.pow_zero, Nat.mul_one] at this
    rw [this]; simp
end Go.Proofs.Ytjcnnfpbodhbgaa
