/- Floats of 64 bits as signed rungs: what their words stand for, their order, and results that are exact. No program is named here. -/
import Derived.WalkKit
import Derived.ProofKit
import Derived.Laws.FloatArith
namespace Go.Proofs.YtpekfpfhonechaaGreat.Quo
open Go.RowKit
set_option linter.unusedSimpArgs false
set_option linter.unusedVariables false

def fneg (x : Nat) : Bool := x / 9223372036854775808 % 2 == 1
def frung (x : Nat) : Nat := x % 9223372036854775808
def fmag (r : Nat) : Nat := if r < 4503599627370496 then r else 4503599627370496 + r % 4503599627370496
def fexp (r : Nat) : Nat := r / 4503599627370496 - 1
/-- A rung's number, in units of the least one. -/
def fval (r : Nat) : Nat := fmag r * 2 ^ fexp r
def fsgn (s : Bool) (n : Nat) : Int := if s then -(n : Int) else (n : Int)
def srung (x : Nat) : Int := fsgn (fneg x) (frung x)
def fword (s : Bool) (r : Nat) : Nat := if s then 9223372036854775808 + r else r
def fnan (x : Nat) : Bool := decide (9218868437227405312 < frung x)

theorem frung_lt (x : Nat) : frung x < 9223372036854775808 := Nat.mod_lt _ (by decide)
theorem fword_rung (s : Bool) {r : Nat} (h : r < 9223372036854775808) : frung (fword s r) = r := by
  unfold frung fword; cases s <;> simp <;> omega
theorem fword_neg (s : Bool) {r : Nat} (h : r < 9223372036854775808) : fneg (fword s r) = s := by
  unfold fneg fword
  cases s
  · simp only [Bool.false_eq_true, if_false]; rw [Nat.div_eq_of_lt h]; rfl
  · simp only [if_true]; rw [show (9223372036854775808 + r) / 9223372036854775808 = 1 by omega]; rfl
theorem word_double (s : Bool) (r : Nat) : Ieee.double.word s r = fword s r := rfl

theorem read_fin {x : Nat} (h : frung x < 9218868437227405312) : Ieee.double.read x = .number (fneg x) (fmag (frung x)) (-1074 + (fexp (frung x) : Nat)) := by
  have e1 : Ieee.double.signWeight = 9223372036854775808 := rfl
  have e2 : Ieee.double.binade = 4503599627370496 := rfl
  have e3 : Ieee.double.infRung = 9218868437227405312 := rfl
  have e4 : Ieee.double.leastPlace = -1074 := rfl
  unfold Ieee.Format.read
  rw [e1, e2, e3, e4]
  have hr : x % 9223372036854775808 = frung x := rfl
  have hn : (x / 9223372036854775808 % 2 == 1) = fneg x := rfl
  simp only [hr, hn]
  by_cases h1 : frung x < 4503599627370496
  · rw [if_pos h1]
    have : fexp (frung x) = 0 := by unfold fexp; rw [Nat.div_eq_of_lt h1]
    rw [this]; unfold fmag; rw [if_pos h1]; rfl
  · rw [if_neg h1, if_pos h]; unfold fmag fexp; rw [if_neg h1]
theorem read_inf {x : Nat} (h : frung x = 9218868437227405312) : Ieee.double.read x = .infinity (fneg x) := by
  have hr : x % 9223372036854775808 = frung x := rfl
  have hn : (x / 9223372036854775808 % 2 == 1) = fneg x := rfl
  have e1 : Ieee.double.signWeight = 9223372036854775808 := rfl
  have e2 : Ieee.double.binade = 4503599627370496 := rfl
  have e3 : Ieee.double.infRung = 9218868437227405312 := rfl
  unfold Ieee.Format.read
  rw [e1, e2, e3]
  simp only [hr, hn, h]
  rfl
theorem read_nan {x : Nat} (h : 9218868437227405312 < frung x) : Ieee.double.read x = .nan (fneg x) (frung x - 9218868437227405312) := by
  have hr : x % 9223372036854775808 = frung x := rfl
  have hn : (x / 9223372036854775808 % 2 == 1) = fneg x := rfl
  have e1 : Ieee.double.signWeight = 9223372036854775808 := rfl
  have e2 : Ieee.double.binade = 4503599627370496 := rfl
  have e3 : Ieee.double.infRung = 9218868437227405312 := rfl
  unfold Ieee.Format.read
  rw [e1, e2, e3]
  simp only [hr, hn]
  rw [if_neg (by omega), if_neg (by omega), if_neg (by omega)]

/-! The rungs' numbers rise. -/
theorem fval_small {r : Nat} (h : r < 4503599627370496) : fval r = r := by
  unfold fval fmag fexp; rw [if_pos h, Nat.div_eq_of_lt h]; simp
theorem fval_at (q t : Nat) (ht : t < 4503599627370496) : fval ((q + 1) * 4503599627370496 + t) = (4503599627370496 + t) * 2 ^ q := by
  unfold fval fmag fexp
  rw [if_neg (by omega), show ((q + 1) * 4503599627370496 + t) % 4503599627370496 = t by omega, show ((q + 1) * 4503599627370496 + t) / 4503599627370496 = q + 1 by omega]
  rfl
theorem fval_succ (r : Nat) : fval r < fval (r + 1) := by
  by_cases h : r + 1 < 4503599627370496
  · rw [fval_small h, fval_small (by omega)]; omega
  · by_cases h0 : r < 4503599627370496
    · have e := fval_at 0 0 (by decide)
      rw [fval_small h0, show r + 1 = (0 + 1) * 4503599627370496 + 0 by omega, e]; omega
    · obtain ⟨q, t, ht, hr⟩ : ∃ q t, t < 4503599627370496 ∧ r = (q + 1) * 4503599627370496 + t := ⟨r / 4503599627370496 - 1, r % 4503599627370496, Nat.mod_lt _ (by decide), by omega⟩
      have h2 : 0 < 2 ^ q := Nat.two_pow_pos q
      by_cases ht1 : t + 1 < 4503599627370496
      · rw [hr, Nat.add_assoc, fval_at q t ht, fval_at q (t + 1) ht1]
        exact Nat.mul_lt_mul_of_pos_right (by omega) h2
      · rw [show r + 1 = (q + 1 + 1) * 4503599627370496 + 0 by omega, hr, fval_at q t ht, fval_at (q + 1) 0 (by decide), Nat.pow_succ, Nat.mul_comm (2 ^ q) 2, ← Nat.mul_assoc]
        exact Nat.mul_lt_mul_of_pos_right (by omega) h2
theorem fval_mono {a b : Nat} (h : a < b) : fval a < fval b := by
  induction b with
  | zero => omega
  | succ b ih =>
    by_cases e : a = b
    · subst e; exact fval_succ a
    · exact Nat.lt_trans (ih (by omega)) (fval_succ b)
theorem fval_lt {a b : Nat} : fval a < fval b ↔ a < b := by
  refine ⟨fun h => ?_, fval_mono⟩
  rcases Nat.lt_trichotomy a b with h1 | h1 | h1
  · exact h1
  · subst h1; omega
  · have := fval_mono h1; omega
theorem fval_inj {a b : Nat} (h : fval a = fval b) : a = b := by
  rcases Nat.lt_trichotomy a b with h1 | h1 | h1
  · have := fval_mono h1; omega
  · exact h1
  · have := fval_mono h1; omega
theorem fval_zero : fval 0 = 0 := by decide
theorem fval_eq_zero {r : Nat} : fval r = 0 ↔ r = 0 := by
  constructor
  · intro h; exact fval_inj (by rw [h, fval_zero])
  · rintro rfl; exact fval_zero

/-! The order. -/
theorem cmp_eq {a b c d : Int} (h1 : a < b ↔ c < d) (h2 : b < a ↔ d < c) : compare a b = compare c d := by
  show compareOfLessAndEq a b = compareOfLessAndEq c d
  unfold compareOfLessAndEq
  by_cases ha : a < b
  · rw [if_pos ha, if_pos (h1.1 ha)]
  · have hc : ¬ c < d := fun h => ha (h1.2 h)
    rw [if_neg ha, if_neg hc]
    by_cases hb : b < a
    · have hd := h2.1 hb
      rw [if_neg (by omega), if_neg (by omega)]
    · have hd : ¬ d < c := fun h => hb (h2.2 h)
      rw [if_pos (by omega), if_pos (by omega)]
theorem cmp_lt {a b : Int} : (compare a b == .lt) = decide (a < b) := by
  show (compareOfLessAndEq a b == .lt) = _
  unfold compareOfLessAndEq
  by_cases ha : a < b
  · rw [if_pos ha]; simp [ha]
  · rw [if_neg ha]; by_cases hb : a = b <;> simp [ha, hb] <;> rfl
theorem cmp_gt {a b : Int} : (compare a b == .gt) = decide (b < a) := by
  show (compareOfLessAndEq a b == .gt) = _
  unfold compareOfLessAndEq
  by_cases ha : a < b
  · rw [if_pos ha]; simp [show ¬ b < a by omega]
  · rw [if_neg ha]; by_cases hb : a = b
    · rw [if_pos hb]; simp [show ¬ b < a by omega]
    · rw [if_neg hb]; simp [show b < a by omega]
theorem cmp_same {a b : Int} : (compare a b == .eq) = decide (a = b) := by
  show (compareOfLessAndEq a b == .eq) = _
  unfold compareOfLessAndEq
  by_cases ha : a < b
  · rw [if_pos ha]; simp [show ¬ a = b by omega]
  · rw [if_neg ha]; by_cases hb : a = b
    · rw [if_pos hb]; simp [hb]
    · rw [if_neg hb]; simp [hb]

theorem fsgn_lt {f : Nat → Nat} (hf : ∀ a b, f a < f b ↔ a < b) (h0 : f 0 = 0) (s t : Bool) (a b : Nat) : fsgn s (f a) < fsgn t (f b) ↔ fsgn s a < fsgn t b := by
  have ha := hf 0 a
  have hb := hf 0 b
  have h1 := hf a b
  have h2 := hf b a
  rw [h0] at ha hb
  unfold fsgn
  cases s <;> cases t <;> simp <;> omega
theorem signed_eq (s : Bool) (m u : Nat) : Ieee.signed s m u = fsgn s (m * 2 ^ u) := by
  unfold Ieee.signed fsgn; rw [Nat.shiftLeft_eq]
theorem fsgn_mul (s : Bool) (a k : Nat) : fsgn s (a * k) = fsgn s a * k := by
  unfold fsgn; cases s <;> simp [Int.neg_mul]
theorem fsgn_scale (s t : Bool) (a b k : Nat) (hk : 0 < k) : fsgn s (a * k) < fsgn t (b * k) ↔ fsgn s a < fsgn t b := by
  rw [fsgn_mul, fsgn_mul]
  exact ⟨fun h => Int.lt_of_mul_lt_mul_right h (by omega), fun h => Int.mul_lt_mul_of_pos_right h (by omega)⟩

/-- Two numbers at two places stand as their signed rungs do. -/
theorem order_num (s t : Bool) (a b : Nat) : Ieee.Datum.order (.number s (fmag a) (-1074 + (fexp a : Nat))) (.number t (fmag b) (-1074 + (fexp b : Nat))) = some (compare (fsgn s a) (fsgn t b)) := by
  simp only [Ieee.Datum.order, signed_eq]
  congr 1
  generalize hu : ((-1074 + (fexp a : Nat) : Int) - min (-1074 + (fexp a : Nat) : Int) (-1074 + (fexp b : Nat))).toNat = u
  generalize hv : ((-1074 + (fexp b : Nat) : Int) - min (-1074 + (fexp a : Nat) : Int) (-1074 + (fexp b : Nat))).toNat = v
  obtain ⟨c, hc1, hc2⟩ : ∃ c, fexp a = u + c ∧ fexp b = v + c := ⟨min (fexp a) (fexp b), by omega, by omega⟩
  have ea : fmag a * 2 ^ u * 2 ^ c = fval a := by unfold fval; rw [hc1, Nat.pow_add, Nat.mul_assoc]
  have eb : fmag b * 2 ^ v * 2 ^ c = fval b := by unfold fval; rw [hc2, Nat.pow_add, Nat.mul_assoc]
  have hk : 0 < 2 ^ c := Nat.two_pow_pos c
  refine cmp_eq ?_ ?_
  · rw [← fsgn_scale s t _ _ (2 ^ c) hk, ea, eb]; exact fsgn_lt (fun a b => fval_lt) fval_zero s t a b
  · rw [← fsgn_scale t s _ _ (2 ^ c) hk, ea, eb]; exact fsgn_lt (fun a b => fval_lt) fval_zero t s b a

/-- The order of two words. -/
theorem order_eq (x y : Nat) : Ieee.double.order x y = if fnan x || fnan y then none else some (compare (srung x) (srung y)) := by
  unfold Ieee.Format.order
  rcases Nat.lt_trichotomy (frung x) 9218868437227405312 with hx | hx | hx
  · rcases Nat.lt_trichotomy (frung y) 9218868437227405312 with hy | hy | hy
    · rw [read_fin hx, read_fin hy, order_num]
      have h1 : fnan x = false := by unfold fnan; simp; omega
      have h2 : fnan y = false := by unfold fnan; simp; omega
      rw [h1, h2]; rfl
    · rw [read_fin hx, read_inf hy]
      have h1 : fnan x = false := by unfold fnan; simp; omega
      have h2 : fnan y = false := by unfold fnan; simp; omega
      rw [h1, h2]
      simp only [Ieee.Datum.order, srung, hy]
      cases hn : fneg y
      · rw [show compare (fsgn (fneg x) (frung x)) (fsgn false 9218868437227405312) = .lt from by
          rw [Int.compare_eq_lt]; unfold fsgn; cases fneg x <;> simp <;> omega]; rfl
      · rw [show compare (fsgn (fneg x) (frung x)) (fsgn true 9218868437227405312) = .gt from by
          rw [Int.compare_eq_gt]; unfold fsgn; cases fneg x <;> simp <;> omega]; rfl
    · rw [read_fin hx, read_nan hy]
      have h2 : fnan y = true := by unfold fnan; simp; omega
      rw [h2]; simp [Ieee.Datum.order]
  · rcases Nat.lt_trichotomy (frung y) 9218868437227405312 with hy | hy | hy
    · rw [read_inf hx, read_fin hy]
      have h1 : fnan x = false := by unfold fnan; simp; omega
      have h2 : fnan y = false := by unfold fnan; simp; omega
      rw [h1, h2]
      simp only [Ieee.Datum.order, srung, hx]
      cases hn : fneg x
      · rw [show compare (fsgn false 9218868437227405312) (fsgn (fneg y) (frung y)) = .gt from by
          rw [Int.compare_eq_gt]; unfold fsgn; cases fneg y <;> simp <;> omega]; rfl
      · rw [show compare (fsgn true 9218868437227405312) (fsgn (fneg y) (frung y)) = .lt from by
          rw [Int.compare_eq_lt]; unfold fsgn; cases fneg y <;> simp <;> omega]; rfl
    · rw [read_inf hx, read_inf hy]
      have h1 : fnan x = false := by unfold fnan; simp; omega
      have h2 : fnan y = false := by unfold fnan; simp; omega
      rw [h1, h2]
      simp only [Ieee.Datum.order, srung, hx, hy]
      cases fneg x <;> cases fneg y <;> rfl
    · rw [read_inf hx, read_nan hy]
      have h2 : fnan y = true := by unfold fnan; simp; omega
      rw [h2]; simp [Ieee.Datum.order]
  · rw [read_nan hx]
    have h1 : fnan x = true := by unfold fnan; simp; omega
    rw [h1]; simp [Ieee.Datum.order]
end Go.Proofs.YtpekfpfhonechaaGreat.Quo

namespace Go.Proofs.YtpekfpfhonechaaGreat.Quo
open Go.RowKit
set_option linter.unusedSimpArgs false
set_option linter.unusedVariables false

theorem fK_is : ∃ k : Nat, k = 1074 := ⟨1074, rfl⟩

theorem log2_mul_pow {n : Nat} (hn : n ≠ 0) (k : Nat) : (n * 2 ^ k).log2 = n.log2 + k := by
  have hk : 0 < 2 ^ k := Nat.two_pow_pos k
  rw [Nat.log2_eq_iff (Nat.mul_ne_zero hn (by omega))]
  have h1 := Nat.log2_self_le hn
  have h2 : n < 2 ^ (n.log2 + 1) := Nat.lt_log2_self
  refine ⟨?_, ?_⟩
  · rw [Nat.pow_add]; exact Nat.mul_le_mul_right _ h1
  · rw [show n.log2 + k + 1 = (n.log2 + 1) + k by omega, Nat.pow_add]; exact Nat.mul_lt_mul_of_pos_right h2 hk

theorem cut_exact (way : Ieee.Toward) (s : Bool) (M d : Nat) : way.cut s (M * 2 ^ d) d = M := by
  have hd : 0 < 2 ^ d := Nat.two_pow_pos d
  unfold Ieee.Toward.cut
  by_cases hM : M = 0
  · subst hM
    cases way <;> simp [Nat.shiftLeft_eq]
  · have hl : min d ((M * 2 ^ d).log2 + 2) = d := by rw [log2_mul_pow hM]; omega
    simp only [hl, Nat.shiftLeft_eq, Nat.one_mul, Nat.mul_div_cancel _ hd, Nat.mul_mod_left]
    cases way <;> simp <;> omega

/-- A number that is a rung's is written as it. -/
theorem nearest_val (s : Bool) (mag : Nat) (place : Int) (r a b : Nat) (h : mag * 2 ^ a = fval r * 2 ^ b) (hp : place + b = -1074 + a) :
    Ieee.double.nearest s mag place = fword s (min r 9218868437227405312) := by
  have e2 : Ieee.double.binade = 4503599627370496 := rfl
  have e3 : Ieee.double.infRung = 9218868437227405312 := rfl
  have e4 : Ieee.double.leastPlace = -1074 := rfl
  have e5 : Ieee.double.fractionBits = 52 := rfl
  have ha : 0 < 2 ^ a := Nat.two_pow_pos a
  have hb : 0 < 2 ^ b := Nat.two_pow_pos b
  unfold Ieee.Format.nearest
  by_cases h0 : mag = 0
  · rw [if_pos h0]
    subst h0
    have : fval r = 0 := by
      rcases Nat.eq_zero_or_pos (fval r) with h1 | h1
      · exact h1
      · have := Nat.mul_pos h1 hb; omega
    rw [fval_eq_zero] at this; subst this; rfl
  · rw [if_neg h0, e2, e3, e4, e5]
    have hr0 : r ≠ 0 := by
      rintro rfl; rw [fval_zero] at h; have := Nat.mul_pos (Nat.pos_of_ne_zero h0) ha; omega
    have hm0 : fmag r ≠ 0 := by unfold fmag; split <;> omega
    have hv : mag * 2 ^ a = fmag r * 2 ^ (fexp r + b) := by rw [h, fval, Nat.mul_assoc, ← Nat.pow_add]
    have hl : mag.log2 + a = (fmag r).log2 + (fexp r + b) := by rw [← log2_mul_pow h0, ← log2_mul_pow hm0, hv]
    have hlast : max (place + (mag.log2 : Nat) - (52 : Nat)) (-1074) = -1074 + (fexp r : Nat) := by
      by_cases hs : r < 4503599627370496
      · have hm : (fmag r).log2 < 52 := by rw [Nat.log2_lt hm0]; unfold fmag; rw [if_pos hs]; exact hs
        have hx : fexp r = 0 := by unfold fexp; rw [Nat.div_eq_of_lt hs]
        rw [hx] at hl ⊢; omega
      · have hm : (fmag r).log2 = 52 := by
          rw [Nat.log2_eq_iff hm0]; have := Nat.mod_lt r (show 0 < 4503599627370496 by decide)
          unfold fmag; rw [if_neg hs]; constructor
          · show 4503599627370496 ≤ _; omega
          · show _ < 9007199254740992; omega
        omega
    have hkept : Ieee.Toward.even.cut s (mag <<< (place - (-1074 + (fexp r : Nat))).toNat) (-1074 + (fexp r : Nat) - place).toNat = fmag r := by
      generalize hd : (-1074 + (fexp r : Nat) - place).toNat = d
      generalize hu : (place - (-1074 + (fexp r : Nat))).toNat = u
      have : mag <<< u = fmag r * 2 ^ d := by
        rw [Nat.shiftLeft_eq]
        have e1 : u + (fexp r + b) = d + a := by omega
        have : mag * 2 ^ u * 2 ^ (fexp r + b) = fmag r * 2 ^ d * 2 ^ (fexp r + b) := by
          rw [Nat.mul_assoc, ← Nat.pow_add, e1, Nat.mul_assoc, ← Nat.pow_add, Nat.add_comm d a, Nat.pow_add, ← Nat.mul_assoc, hv, Nat.mul_assoc, ← Nat.pow_add, Nat.add_comm d]
        exact Nat.eq_of_mul_eq_mul_right (Nat.two_pow_pos _) this
      rw [this]; exact cut_exact _ _ _ _
    rw [hlast]
    simp only [hkept]
    rw [word_double, show (-1074 + (fexp r : Nat) - -1074 : Int).toNat = fexp r by omega]
    have hf : fexp r * 4503599627370496 + fmag r = r := by
      unfold fexp fmag
      by_cases hs : r < 4503599627370496
      · rw [if_pos hs, Nat.div_eq_of_lt hs, Nat.zero_sub, Nat.zero_mul, Nat.zero_add]
      · rw [if_neg hs]; omega
    rw [hf]

/-! Doubled. -/
def fdbl (r : Nat) : Nat := if r < 4503599627370496 then 2 * r else r + 4503599627370496
def fdbls : Nat → Nat → Nat
  | 0, r => r
  | k + 1, r => fdbl (fdbls k r)
theorem fval_dbl (r : Nat) : fval (fdbl r) = fval r * 2 := by
  unfold fdbl
  by_cases h : r < 4503599627370496
  · rw [if_pos h, fval_small h]
    by_cases h2 : 2 * r < 4503599627370496
    · rw [fval_small h2]; omega
    · rw [show 2 * r = (0 + 1) * 4503599627370496 + (2 * r - 4503599627370496) by omega, fval_at _ _ (by omega)]; omega
  · rw [if_neg h]
    obtain ⟨q, t, ht, hr⟩ : ∃ q t, t < 4503599627370496 ∧ r = (q + 1) * 4503599627370496 + t := ⟨r / 4503599627370496 - 1, r % 4503599627370496, Nat.mod_lt _ (by decide), by omega⟩
    rw [hr, show (q + 1) * 4503599627370496 + t + 4503599627370496 = (q + 1 + 1) * 4503599627370496 + t by omega, fval_at _ _ ht, fval_at _ _ ht, Nat.pow_succ, Nat.mul_assoc]
theorem fval_dbls (k r : Nat) : fval (fdbls k r) = fval r * 2 ^ k := by
  induction k with
  | zero => simp [fdbls]
  | succ k ih => rw [fdbls, fval_dbl, ih, Nat.pow_succ, Nat.mul_assoc]
theorem fdbl_le (r : Nat) : r ≤ fdbl r := by unfold fdbl; split <;> omega
theorem fdbls_le (k r : Nat) : r ≤ fdbls k r := by
  induction k with
  | zero => exact Nat.le_refl _
  | succ k ih => exact Nat.le_trans ih (fdbl_le _)
/-- The word of 2^k, k up to 20. -/
def ftwo (k : Nat) : Nat := (1023 + k) * 4503599627370496
theorem ftwo_rung {k : Nat} (h : k ≤ 1000) : frung (ftwo k) = ftwo k := by unfold frung ftwo; omega
theorem ftwo_read {k : Nat} (h : k ≤ 1000) : Ieee.double.read (ftwo k) = .number false 4503599627370496 (-52 + (k : Int)) := by
  have hn : fneg (ftwo k) = false := by unfold fneg ftwo; rw [Nat.div_eq_of_lt (by omega)]; rfl
  have hr := ftwo_rung h
  rw [read_fin (by rw [hr]; unfold ftwo; omega), hn, hr]
  have h1 : fmag (ftwo k) = 4503599627370496 := by unfold fmag ftwo; rw [if_neg (by omega)]; omega
  have h2 : fexp (ftwo k) = 1022 + k := by unfold fexp ftwo; omega
  rw [h1, h2]; congr 1; omega
theorem fval_ftwo {K : Nat} (hK : K = 1074) (k : Nat) : fval (ftwo k) = 2 ^ k * 2 ^ K := by
  unfold ftwo
  rw [show (1023 + k) * 4503599627370496 = (1022 + k + 1) * 4503599627370496 + 0 by omega, fval_at _ _ (by decide)]
  rw [show 4503599627370496 + 0 = 2 ^ 52 from rfl, ← Nat.pow_add, ← Nat.pow_add, show 52 + (1022 + k) = k + K by omega]

/-- x * 2^k. -/
theorem mul_two {x k : Nat} (hk : k ≤ 1000) (h : frung x ≤ 9218868437227405312) : Ieee.double.mul x (ftwo k) = some (fword (fneg x) (min (fdbls k (frung x)) 9218868437227405312)) := by
  unfold Ieee.Format.mul
  rw [ftwo_read hk]
  rcases Nat.lt_or_ge (frung x) 9218868437227405312 with h1 | h1
  · rw [read_fin h1]
    simp only [Ieee.Datum.product, Option.map_some, Bool.xor_false]
    congr 1
    show Ieee.double.nearest _ _ _ = _
    refine nearest_val _ _ _ _ (fexp (frung x) + k) 52 ?_ (by omega)
    rw [fval_dbls, fval, show (4503599627370496 : Nat) = 2 ^ 52 from rfl, Nat.pow_add]
    simp only [Nat.mul_assoc]
    rw [Nat.mul_comm (2 ^ 52)]
    simp only [Nat.mul_assoc]
  · have e : frung x = 9218868437227405312 := by omega
    rw [read_inf e]
    simp only [Ieee.Datum.product, e, Bool.xor_false]
    rw [if_neg (by decide)]
    simp only [Option.map_some]
    congr 1
    have := fdbls_le k 9218868437227405312
    rw [show min (fdbls k 9218868437227405312) 9218868437227405312 = 9218868437227405312 by omega]; rfl

/-! Whole numbers. -/
def frungOf (n : Nat) : Nat := if n = 0 then 0 else (1022 + n.log2) * 4503599627370496 + n * 2 ^ (52 - n.log2)
theorem fval_rungOf {K n : Nat} (hK : K = 1074) (h : n < 9007199254740992) : fval (frungOf n) = n * 2 ^ K := by
  unfold frungOf
  by_cases h0 : n = 0
  · subst h0; rw [if_pos rfl, fval_zero, Nat.zero_mul]
  · rw [if_neg h0]
    have hl : n.log2 < 53 := (Nat.log2_lt h0).2 h
    have h1 := Nat.log2_self_le h0
    have h2 : n < 2 ^ (n.log2 + 1) := Nat.lt_log2_self
    generalize hL : n.log2 = L at *
    have e : 2 ^ L * 2 ^ (52 - L) = 4503599627370496 := by rw [← Nat.pow_add, show L + (52 - L) = 52 by omega]
    have h3 : 4503599627370496 ≤ n * 2 ^ (52 - L) := by rw [← e]; exact Nat.mul_le_mul_right _ h1
    have h4 : n * 2 ^ (52 - L) < 2 * 4503599627370496 := by
      rw [← e, ← Nat.mul_assoc, Nat.mul_comm 2, ← Nat.pow_succ]; exact Nat.mul_lt_mul_of_pos_right h2 (Nat.two_pow_pos _)
    rw [show (1022 + L) * 4503599627370496 + n * 2 ^ (52 - L) = (1022 + L + 1) * 4503599627370496 + (n * 2 ^ (52 - L) - 4503599627370496) by omega, fval_at _ _ (by omega)]
    rw [show 4503599627370496 + (n * 2 ^ (52 - L) - 4503599627370496) = n * 2 ^ (52 - L) by omega, Nat.mul_assoc, ← Nat.pow_add, show 52 - L + (1022 + L) = K by omega]
theorem fval_inf {K : Nat} (hK : K = 1074) : fval 9218868437227405312 = 2 ^ (1024 + K) := by
  have e1 : (972 + K + 1) * 4503599627370496 + 0 = 9218868437227405312 := by rw [hK]
  have e2 : 1024 + K = 52 + (972 + K) := by rw [hK]
  have h := fval_at (972 + K) 0 (by decide)
  rw [e1] at h
  rw [h, e2, Nat.pow_add 2 52]
theorem frungOf_lt {n : Nat} (h : n < 9007199254740992) : frungOf n < 9218868437227405312 := by
  obtain ⟨K, hK⟩ := fK_is
  rw [← fval_lt, fval_rungOf hK h, fval_inf hK]
  refine Nat.lt_of_lt_of_le (m := 2 ^ (53 + K)) ?_ (Nat.pow_le_pow_right (by decide) (by omega))
  rw [Nat.pow_add]
  exact Nat.mul_lt_mul_of_pos_right h (Nat.two_pow_pos _)
theorem nearest_int (s : Bool) {n : Nat} (h : n < 9007199254740992) : Ieee.double.nearest s n 0 = fword s (frungOf n) := by
  obtain ⟨K, hK⟩ := fK_is
  rw [nearest_val s n 0 (frungOf n) K 0 (by rw [fval_rungOf hK h, Nat.pow_zero, Nat.mul_one]) (by omega), Nat.min_eq_left (Nat.le_of_lt (frungOf_lt h))]
theorem floatOfInt_nat {n : Nat} (h : n < 9007199254740992) : floatOfInt .f64 (n : Int) = frungOf n := by
  show Ieee.double.nearest (decide ((n : Int) < 0)) (n : Int).natAbs 0 = _
  rw [show decide ((n : Int) < 0) = false by simp, Int.natAbs_natCast, nearest_int _ h]; rfl

/-- A rung that is a whole number is cut to it; another one to the whole number below. -/
theorem toInt_zero {K x : Nat} (hK : K = 1074) (h : frung x < 9218868437227405312) : (Ieee.double.read x).toInt .zero = some (fsgn (fneg x) (fval (frung x) / 2 ^ K)) := by
  rw [read_fin h]
  simp only [Ieee.Datum.toInt, Ieee.Datum.integral]
  rw [signed_eq, Nat.pow_zero, Nat.mul_one]
  congr 2
  unfold fval
  generalize fmag (frung x) = m
  generalize fexp (frung x) = e
  rcases Nat.lt_or_ge e K with he | he
  · rw [show (-1074 + (e : Nat) : Int).toNat = 0 by omega, show (-(-1074 + (e : Nat) : Int)).toNat = K - e by omega]
    rw [Nat.shiftLeft_zero]
    have : m * 2 ^ e / 2 ^ K = m / 2 ^ (K - e) := by
      rw [show K = e + (K - e) by omega, Nat.pow_add, ← Nat.div_div_eq_div_mul, Nat.mul_div_cancel _ (Nat.two_pow_pos _), show e + (K - e) - e = K - e by omega]
    rw [this]
    unfold Ieee.Toward.cut
    simp only [Bool.toNat_false, Nat.add_zero, Nat.shiftLeft_eq, Nat.one_mul]
    rcases Nat.le_total (K - e) (m.log2 + 2) with h1 | h1
    · rw [Nat.min_eq_left h1]
    · rw [Nat.min_eq_right h1]
      have h2 : m < 2 ^ (m.log2 + 1) := Nat.lt_log2_self
      have h3 : m < 2 ^ (m.log2 + 2) := Nat.lt_trans h2 (Nat.pow_lt_pow_right (by decide) (by omega))
      rw [Nat.div_eq_of_lt h3, Nat.div_eq_of_lt (Nat.lt_of_lt_of_le h3 (Nat.pow_le_pow_right (by decide) h1))]
  · rw [show (-1074 + (e : Nat) : Int).toNat = e - K by omega, show (-(-1074 + (e : Nat) : Int)).toNat = 0 by omega]
    have : m * 2 ^ e / 2 ^ K = m * 2 ^ (e - K) := by
      rw [show e = (e - K) + K by omega, Nat.pow_add, ← Nat.mul_assoc, Nat.mul_div_cancel _ (Nat.two_pow_pos _), show e - K + K - K = e - K by omega]
    rw [this, Nat.shiftLeft_eq]
    have := cut_exact .zero (fneg x) (m * 2 ^ (e - K)) 0
    rwa [Nat.pow_zero, Nat.mul_one] at this
end Go.Proofs.YtpekfpfhonechaaGreat.Quo
