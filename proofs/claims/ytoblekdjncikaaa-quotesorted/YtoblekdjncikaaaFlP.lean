/- Floats of 64 bits as signed rungs: what their words stand for, their order, and results that are exact. No program is named here. -/
import Derived.WalkKit
import Derived.ProofKit
import Derived.Laws.FloatArith
namespace Go.Proofs.Ytoblekdjncikaaa
open Go.RowKit
set_option linter.unusedSimpArgs false
set_option linter.unusedVariables false

def fneg (x : Nat) : Bool := x / 9223372036854775808 % 2 == 1
def frung (x : Nat) : Nat := x % 9223372036854775808
def fmag (r : Nat) : Nat := if r < 4503599627370496 then r else 4503599627370496 + r % 4503599627370496
def fexp (r : Nat) : Nat := r / 4503599627370496 - 1
/-- A rung's number, in units of the least one. -/
def fval (r : Nat) : Nat := fmag r * 2 ^ fexp r
def fsgn (s : Bool) (n : Nat) : Int := if s then -(n : Int) else (n : Int)
def srung (x : Nat) : Int := fsgn (fneg x) (frung x)
def fword (s : Bool) (r : Nat) : Nat := if s then 9223372036854775808 + r else r
def fnan (x : Nat) : Bool := decide (9218868437227405312 < frung x)

theorem frung_lt (x : Nat) : frung x < 9223372036854775808 := Nat.mod_lt _ (by decide)
theorem fword_rung (s : Bool) {r : Nat} (h : r < 9223372036854775808) : frung (fword s r) = r := by
  unfold frung fword; cases s <;> simp <;> omega
theorem fword_neg (s : Bool) {r : Nat} (h : r < 9223372036854775808) : fneg (fword s r) = s := by
  unfold fneg fword
  cases s
  · simp only [Bool.false_eq_true, if_false]; rw [Nat.div_eq_of_lt h]; rfl
  · simp only [if_true]; rw [show (9223372036854775808 + r) / 9223372036854775808 = 1 by omega]; rfl
theorem fword_self {x : Nat} (h : x < 18446744073709551616) : fword (fneg x) (frung x) = x := by
  unfold fword fneg frung
  by_cases h1 : x < 9223372036854775808
  · rw [Nat.div_eq_of_lt h1]; simp; omega
  · rw [show x / 9223372036854775808 = 1 by omega]; simp; omega
theorem fword_lt (s : Bool) {r : Nat} (h : r < 9223372036854775808) : fword s r < 18446744073709551616 := by
  unfold fword; split <;> omega
theorem word_double (s : Bool) (r : Nat) : Ieee.double.word s r = fword s r := rfl

theorem read_fin {x : Nat} (h : frung x < 9218868437227405312) : Ieee.double.read x = .number (fneg x) (fmag (frung x)) (-1074 + (fexp (frung x) : Nat)) := by
  have e1 : Ieee.double.signWeight = 9223372036854775808 := rfl
  have e2 : Ieee.double.binade = 4503599627370496 := rfl
  have e3 : Ieee.double.infRung = 9218868437227405312 := rfl
  have e4 : Ieee.double.leastPlace = -1074 := rfl
  unfold Ieee.Format.read
  rw [e1, e2, e3, e4]
  have hr : x % 9223372036854775808 = frung x := rfl
  have hn : (x / 9223372036854775808 % 2 == 1) = fneg x := rfl
  simp only [hr, hn]
  by_cases h1 : frung x < 4503599627370496
  · rw [if_pos h1]
    have : fexp (frung x) = 0 := by unfold fexp; rw [Nat.div_eq_of_lt h1]
    rw [this]; unfold fmag; rw [if_pos h1]; rfl
  · rw [if_neg h1, if_pos h]; unfold fmag fexp; rw [if_neg h1]
theorem read_inf {x : Nat} (h : frung x = 9218868437227405312) : Ieee.double.read x = .infinity (fneg x) := by
  have hr : x % 9223372036854775808 = frung x := rfl
  have hn : (x / 9223372036854775808 % 2 == 1) = fneg x := rfl
  have e1 : Ieee.double.signWeight = 9223372036854775808 := rfl
  have e2 : Ieee.double.binade = 4503599627370496 := rfl
  have e3 : Ieee.double.infRung = 9218868437227405312 := rfl
  unfold Ieee.Format.read
  rw [e1, e2, e3]
  simp only [hr, hn, h]
  rfl
theorem read_nan {x : Nat} (h : 9218868437227405312 < frung x) : Ieee.double.read x = .nan (fneg x) (frung x - 9218868437227405312) := by
  have hr : x % 9223372036854775808 = frung x := rfl
  have hn : (x / 9223372036854775808 % 2 == 1) = fneg x := rfl
  have e1 : Ieee.double.signWeight = 9223372036854775808 := rfl
  have e2 : Ieee.double.binade = 4503599627370496 := rfl
  have e3 : Ieee.double.infRung = 9218868437227405312 := rfl
  unfold Ieee.Format.read
  rw [e1, e2, e3]
  simp only [hr, hn]
  rw [if_neg (by omega), if_neg (by omega), if_neg (by omega)]

/-! The rungs' numbers rise. -/
theorem fmag_lt (r : Nat) : fmag r < 9007199254740992 := by
  unfold fmag; have := Nat.mod_lt r (show 0 < 4503599627370496 by decide); split <;> omega
theorem fval_small {r : Nat} (h : r < 4503599627370496) : fval r = r := by
  unfold fval fmag fexp; rw [if_pos h, Nat.div_eq_of_lt h]; simp
theorem fval_at (q t : Nat) (ht : t < 4503599627370496) : fval ((q + 1) * 4503599627370496 + t) = (4503599627370496 + t) * 2 ^ q := by
  unfold fval fmag fexp
  rw [if_neg (by omega), show ((q + 1) * 4503599627370496 + t) % 4503599627370496 = t by omega, show ((q + 1) * 4503599627370496 + t) / 4503599627370496 = q + 1 by omega]
  rfl
theorem fval_succ (r : Nat) : fval r < fval (r + 1) := by
  by_cases h : r + 1 < 4503599627370496
  · rw [fval_small h, fval_small (by omega)]; omega
  · by_cases h0 : r < 4503599627370496
    · have e := fval_at 0 0 (by decide)
      rw [fval_small h0, show r + 1 = (0 + 1) * 4503599627370496 + 0 by omega, e]; omega
    · obtain ⟨q, t, ht, hr⟩ : ∃ q t, t < 4503599627370496 ∧ r = (q + 1) * 4503599627370496 + t := ⟨r / 4503599627370496 - 1, r % 4503599627370496, Nat.mod_lt _ (by decide), by omega⟩
      have h2 : 0 < 2 ^ q := Nat.two_pow_pos q
      by_cases ht1 : t + 1 < 4503599627370496
      · rw [hr, Nat.add_assoc, fval_at q t ht, fval_at q (t + 1) ht1]
        exact Nat.mul_lt_mul_of_pos_right (by omega) h2
      · rw [show r + 1 = (q + 1 + 1) * 4503599627370496 + 0 by omega, hr, fval_at q t ht, fval_at (q + 1) 0 (by decide), Nat.pow_succ, Nat.mul_comm (2 ^ q) 2, ← Nat.mul_assoc]
        exact Nat.mul_lt_mul_of_pos_right (by omega) h2
theorem fval_mono {a b : Nat} (h : a < b) : fval a < fval b := by
  induction b with
  | zero => omega
  | succ b ih =>
    by_cases e : a = b
    · subst e; exact fval_succ a
    · exact Nat.lt_trans (ih (by omega)) (fval_succ b)
theorem fval_lt {a b : Nat} : fval a < fval b ↔ a < b := by
  refine ⟨fun h => ?_, fval_mono⟩
  rcases Nat.lt_trichotomy a b with h1 | h1 | h1
  · exact h1
  · subst h1; omega
  · have := fval_mono h1; omega
theorem fval_inj {a b : Nat} (h : fval a = fval b) : a = b := by
  rcases Nat.lt_trichotomy a b with h1 | h1 | h1
  · have := fval_mono h1; omega
  · exact h1
  · have := fval_mono h1; omega
theorem fval_zero : fval 0 = 0 := by decide
theorem fval_eq_zero {r : Nat} : fval r = 0 ↔ r = 0 := by
  constructor
  · intro h; exact fval_inj (by rw [h, fval_zero])
  · rintro rfl; exact fval_zero

/-! The order. -/
theorem cmp_eq {a b c d : Int} (h1 : a < b ↔ c < d) (h2 : b < a ↔ d < c) : compare a b = compare c d := by
  show compareOfLessAndEq a b = compareOfLessAndEq c d
  unfold compareOfLessAndEq
  by_cases ha : a < b
  · rw [if_pos ha, if_pos (h1.1 ha)]
  · have hc : ¬ c < d := fun h => ha (h1.2 h)
    rw [if_neg ha, if_neg hc]
    by_cases hb : b < a
    · have hd := h2.1 hb
      rw [if_neg (by omega), if_neg (by omega)]
    · have hd : ¬ d < c := fun h => hb (h2.2 h)
      rw [if_pos (by omega), if_pos (by omega)]
theorem cmp_lt {a b : Int} : (compare a b == .lt) = decide (a < b) := by
  show (compareOfLessAndEq a b == .lt) = _
  unfold compareOfLessAndEq
  by_cases ha : a < b
  · rw [if_pos ha]; simp [ha]
  · rw [if_neg ha]; by_cases hb : a = b <;> simp [ha, hb] <;> rfl
theorem cmp_gt {a b : Int} : (compare a b == .gt) = decide (b < a) := by
  show (compareOfLessAndEq a b == .gt) = _
  unfold compareOfLessAndEq
  by_cases ha : a < b
  · rw [if_pos ha]; simp [show ¬ b < a by omega]
  · rw [if_neg ha]; by_cases hb : a = b
    · rw [if_pos hb]; simp [show ¬ b < a by omega]
    · rw [if_neg hb]; simp [show b < a by omega]
theorem cmp_same {a b : Int} : (compare a b == .eq) = decide (a = b) := by
  show (compareOfLessAndEq a b == .eq) = _
  unfold compareOfLessAndEq
  by_cases ha : a < b
  · rw [if_pos ha]; simp [show ¬ a = b by omega]
  · rw [if_neg ha]; by_cases hb : a = b
    · rw [if_pos hb]; simp [hb]
    · rw [if_neg hb]; simp [hb]

theorem fsgn_lt {f : Nat → Nat} (hf : ∀ a b, f a < f b ↔ a < b) (h0 : f 0 = 0) (s t : Bool) (a b : Nat) : fsgn s (f a) < fsgn t (f b) ↔ fsgn s a < fsgn t b := by
  have ha := hf 0 a
  have hb := hf 0 b
  have h1 := hf a b
  have h2 := hf b a
  rw [h0] at ha hb
  unfold fsgn
  cases s <;> cases t <;> simp <;> omega
theorem signed_eq (s : Bool) (m u : Nat) : Ieee.signed s m u = fsgn s (m * 2 ^ u) := by
  unfold Ieee.signed fsgn; rw [Nat.shiftLeft_eq]
theorem fsgn_mul (s : Bool) (a k : Nat) : fsgn s (a * k) = fsgn s a * k := by
  unfold fsgn; cases s <;> simp [Int.neg_mul]
theorem fsgn_scale (s t : Bool) (a b k : Nat) (hk : 0 < k) : fsgn s (a * k) < fsgn t (b * k) ↔ fsgn s a < fsgn t b := by
  rw [fsgn_mul, fsgn_mul]
  exact ⟨fun h => Int.lt_of_mul_lt_mul_right h (by omega), fun h => Int.mul_lt_mul_of_pos_right h (by omega)⟩

/-- Two numbers at two places stand as their signed rungs do. -/
theorem order_num (s t : Bool) (a b : Nat) : Ieee.Datum.order (.number s (fmag a) (-1074 + (fexp a : Nat))) (.number t (fmag b) (-1074 + (fexp b : Nat))) = some (compare (fsgn s a) (fsgn t b)) := by
  simp only [Ieee.Datum.order, signed_eq]
  congr 1
  generalize hu : ((-1074 + (fexp a : Nat) : Int) - min (-1074 + (fexp a : Nat) : Int) (-1074 + (fexp b : Nat))).toNat = u
  generalize hv : ((-1074 + (fexp b : Nat) : Int) - min (-1074 + (fexp a : Nat) : Int) (-1074 + (fexp b : Nat))).toNat = v
  obtain ⟨c, hc1, hc2⟩ : ∃ c, fexp a = u + c ∧ fexp b = v + c := ⟨min (fexp a) (fexp b), by omega, by omega⟩
  have ea : fmag a * 2 ^ u * 2 ^ c = fval a := by unfold fval; rw [hc1, Nat.pow_add, Nat.mul_assoc]
  have eb : fmag b * 2 ^ v * 2 ^ c = fval b := by unfold fval; rw [hc2, Nat.pow_add, Nat.mul_assoc]
  have hk : 0 < 2 ^ c := Nat.two_pow_pos c
  refine cmp_eq ?_ ?_
  · rw [← fsgn_scale s t _ _ (2 ^ c) hk, ea, eb]; exact fsgn_lt (fun a b => fval_lt) fval_zero s t a b
  · rw [← fsgn_scale t s _ _ (2 ^ c) hk, ea, eb]; exact fsgn_lt (fun a b => fval_lt) fval_zero t s b a

/-- The order of two words. -/
theorem order_eq (x y : Nat) : Ieee.double.order x y = if fnan x || fnan y then none else some (compare (srung x) (srung y)) := by
  unfold Ieee.Format.order
  rcases Nat.lt_trichotomy (frung x) 9218868437227405312 with hx | hx | hx
  · rcases Nat.lt_trichotomy (frung y) 9218868437227405312 with hy | hy | hy
    · rw [read_fin hx, read_fin hy, order_num]
      have h1 : fnan x = false := by unfold fnan; simp; omega
      have h2 : fnan y = false := by unfold fnan; simp; omega
      rw [h1, h2]; rfl
    · rw [read_fin hx, read_inf hy]
      have h1 : fnan x = false := by unfold fnan; simp; omega
      have h2 : fnan y = false := by unfold fnan; simp; omega
      rw [h1, h2]
      simp only [Ieee.Datum.order, srung, hy]
      cases hn : fneg y
      · rw [show compare (fsgn (fneg x) (frung x)) (fsgn false 9218868437227405312) = .lt from by
          rw [Int.compare_eq_lt]; unfold fsgn; cases fneg x <;> simp <;> omega]; rfl
      · rw [show compare (fsgn (fneg x) (frung x)) (fsgn true 9218868437227405312) = .gt from by
          rw [Int.compare_eq_gt]; unfold fsgn; cases fneg x <;> simp <;> omega]; rfl
    · rw [read_fin hx, read_nan hy]
      have h2 : fnan y = true := by unfold fnan; simp; omega
      rw [h2]; simp [Ieee.Datum.order]
  · rcases Nat.lt_trichotomy (frung y) 9218868437227405312 with hy | hy | hy
    · rw [read_inf hx, read_fin hy]
      have h1 : fnan x = false := by unfold fnan; simp; omega
      have h2 : fnan y = false := by unfold fnan; simp; omega
      rw [h1, h2]
      simp only [Ieee.Datum.order, srung, hx]
      cases hn : fneg x
      · rw [show compare (fsgn false 9218868437227405312) (fsgn (fneg y) (frung y)) = .gt from by
          rw [Int.compare_eq_gt]; unfold fsgn; cases fneg y <;> simp <;> omega]; rfl
      · rw [show compare (fsgn true 9218868437227405312) (fsgn (fneg y) (frung y)) = .lt from by
          rw [Int.compare_eq_lt]; unfold fsgn; cases fneg y <;> simp <;> omega]; rfl
    · rw [read_inf hx, read_inf hy]
      have h1 : fnan x = false := by unfold fnan; simp; omega
      have h2 : fnan y = false := by unfold fnan; simp; omega
      rw [h1, h2]
      simp only [Ieee.Datum.order, srung, hx, hy]
      cases fneg x <;> cases fneg y <;> rfl
    · rw [read_inf hx, read_nan hy]
      have h2 : fnan y = true := by unfold fnan; simp; omega
      rw [h2]; simp [Ieee.Datum.order]
  · rw [read_nan hx]
    have h1 : fnan x = true := by unfold fnan; simp; omega
    rw [h1]; simp [Ieee.Datum.order]
end Go.Proofs.Ytoblekdjncikaaa
