/- QuoteWhole for every float: what it answers. -/
import Derived.Test.YtaklpeklkkceaaaQtTi
import Derived.Test.YtaklpeklkkceaaaFlS
namespace Go.Proofs.Ytaklpeklkkceaaa
open Go.RowKit
set_option linter.unusedSimpArgs false
set_option linter.unusedVariables false

theorem rnd_num (x : Nat) (s : Bool) (m : Nat) (i : Int) (h : FloatKind.f64.decode x = .number s m i) : Extern.MathFloor.toIntegral "math.RoundToEven" .even #[.float .f64 x] = pure (.float .f64 (FloatKind.f64.encode ((Ieee.Datum.number s m i).integral .even))) := by
  delta Extern.MathFloor.toIntegral
  conv => lhs; whnf
  rw [h]
theorem run_round (x : Nat) (w : World) (h : frung x < 9218868437227405312) : (callFunc 23 #[.float .f64 x]).run Try.prog w = .ok (.value (.float .f64 (Ieee.double.write ((Ieee.double.read x).integral .even)))) w := by
  have e : (callFunc 23 #[.float .f64 x]).run Try.prog w = (Sem.bind (Extern.MathFloor.toIntegral "math.RoundToEven" .even #[.float .f64 x]) (fun v => .pure (.value v))).run Try.prog w := by kernel_rfl
  rw [e]
  rw [rnd_num x _ _ _ (read_fin h), read_fin h]
  rfl

theorem range_val {K x : Nat} (hK : K = 1074) (hn : fnan x = false) (h1 : flt 4845873199050653696 x = false) (h2 : flt x 14069245235905429504 = false) : fval (frung x) ≤ 2 ^ 53 * 2 ^ K := by
  have e1 : srung 4845873199050653696 = 4845873199050653696 := by decide
  have e2 : srung 14069245235905429504 = -4845873199050653696 := by decide
  have n1 : fnan 4845873199050653696 = false := by decide
  have n2 : fnan 14069245235905429504 = false := by decide
  unfold flt at h1 h2
  rw [hn, n1, e1] at h1
  rw [hn, n2, e2] at h2
  simp at h1 h2
  have : frung x ≤ 4845873199050653696 := by unfold srung fsgn at h1 h2; cases hs : fneg x <;> simp [hs] at h1 h2 <;> omega
  rw [← fval_ftwo hK, show ftwo 53 = 4845873199050653696 by decide]
  rcases Nat.lt_or_ge (frung x) 4845873199050653696 with h | h
  · exact Nat.le_of_lt (fval_mono h)
  · rw [show frung x = 4845873199050653696 by omega]; exact Nat.le_refl _

theorem fev_le {K V : Nat} (h : V ≤ 2 ^ 53 * 2 ^ K) : fev K V ≤ 9007199254740992 ∧ V / 2 ^ K ≤ 9007199254740992 := by
  have hp := Nat.two_pow_pos K
  have h1 : V / 2 ^ K ≤ 2 ^ 53 := by
    rw [Nat.div_le_iff_le_mul_add_pred hp, Nat.mul_comm]; omega
  rw [show (2 : Nat) ^ 53 = 9007199254740992 by decide] at h1
  refine ⟨?_, h1⟩
  unfold fev
  rcases Nat.lt_or_ge (V / 2 ^ K) 9007199254740992 with h2 | h2
  · have : ∀ b : Bool, b.toNat ≤ 1 := by decide
    have := this (decide (2 ^ K < 2 * (V % 2 ^ K)) || (decide (2 ^ K = 2 * (V % 2 ^ K)) && decide (V / 2 ^ K % 2 = 1)))
    omega
  · have e : V / 2 ^ K = 9007199254740992 := by omega
    have hm := Nat.div_add_mod V (2 ^ K)
    rw [e, show (9007199254740992 : Nat) = 2 ^ 53 by decide, Nat.mul_comm] at hm
    have h0 : V % 2 ^ K = 0 := by omega
    rw [e, h0, show decide (2 ^ K < 2 * 0) = false by simp, show decide (2 ^ K = 2 * 0) = false by simp]
    decide

theorem toInt_whole {K r q : Nat} (hK : K = 1074) (s : Bool) (hq : q ≤ 9007199254740992) (hr : fval r = q * 2 ^ K) (hl : r < 9218868437227405312) : floatToIntVal .f64 (fword s r) .i64 = some (fsgn s q) := by
  have hfr := fword_rung s (show r < 9223372036854775808 by omega)
  have hfn := fword_neg s (show r < 9223372036854775808 by omega)
  have ht := toInt_zero (x := fword s r) hK (by rw [hfr]; exact hl)
  rw [hfr, hfn, hr, Nat.mul_div_cancel _ (Nat.two_pow_pos K)] at ht
  unfold floatToIntVal
  rw [show FloatKind.decode .f64 (fword s r) = Ieee.double.read (fword s r) from rfl, ht]
  simp only
  rw [if_pos]
  have hm : IntKind.min .i64 = -9223372036854775808 := rfl
  have hM : IntKind.max .i64 = 9223372036854775807 := rfl
  rw [hm, hM]; unfold fsgn; cases s <;> simp <;> omega
theorem toInt_cut {K x : Nat} (hK : K = 1074) (hi : frung x < 9218868437227405312) (hq : fval (frung x) / 2 ^ K ≤ 9007199254740992) : floatToIntVal .f64 x .i64 = some (fsgn (fneg x) (fval (frung x) / 2 ^ K)) := by
  have ht := toInt_zero (x := x) hK hi
  generalize fval (frung x) / 2 ^ K = q at *
  unfold floatToIntVal
  rw [show FloatKind.decode .f64 x = Ieee.double.read x from rfl, ht]
  simp only
  rw [if_pos]
  have hm : IntKind.min .i64 = -9223372036854775808 := rfl
  have hM : IntKind.max .i64 = 9223372036854775807 := rfl
  rw [hm, hM]; unfold fsgn; cases fneg x <;> simp <;> omega

def wholeR (x : Nat) : Int × Int :=
  if refuseR x ≠ 0 then (0, refuseR x)
  else if flt 4845873199050653696 x || flt x 14069245235905429504 then (0, 54)
  else (fsgn (fneg x) (fev 1074 (fval (frung x))), 0)

theorem refuse_zero {x : Nat} (h : refuseR x = 0) : fnan x = false ∧ frung x < 9218868437227405312 := by
  unfold refuseR at h
  cases hn : fnan x
  · rw [hn] at h; simp at h; unfold fnan at hn; simp at hn; exact ⟨rfl, by omega⟩
  · rw [hn] at h; simp at h

theorem whole_calls (x : Nat) (w : World) (hx : x < 18446744073709551616) :
    Calls Try.prog 13 #[.float .f64 x] w fun e w' => e = .returned (.tuple #[.int .i64 (wholeR x).1, .int .i64 (wholeR x).2]) ∧ w' = w := by
  by_cases hr : refuseR x = 0
  · obtain ⟨hn, hi⟩ := refuse_zero hr
    cases h1 : flt 4845873199050653696 x
    rotate_left
    · have hR : wholeR x = (0, 54) := by unfold wholeR; rw [if_neg (by simp [hr]), h1]; simp
      rw [hR]
      clear hR
      go_enter Try.func13, Try.ntmps13
      go_wp2_with fail
      refine (refuse_calls x _ hx).mono ?_
      rintro e w1 ⟨rfl, rfl⟩
      rw [hr]
      go_wp2
      go_ret2
      exact ⟨rfl, rfl⟩
    cases h2 : flt x 14069245235905429504
    rotate_left
    · have hR : wholeR x = (0, 54) := by unfold wholeR; rw [if_neg (by simp [hr]), h1, h2]; simp
      rw [hR]
      clear hR
      go_enter Try.func13, Try.ntmps13
      go_wp2_with fail
      refine (refuse_calls x _ hx).mono ?_
      rintro e w1 ⟨rfl, rfl⟩
      rw [hr]
      go_wp2
      go_ret2
      exact ⟨rfl, rfl⟩
    have hR : wholeR x = (fsgn (fneg x) (fev 1074 (fval (frung x))), 0) := by unfold wholeR; rw [if_neg (by simp [hr]), h1, h2]; simp
    rw [hR]
    obtain ⟨K, hK⟩ := fK_is
    rw [← hK]
    obtain ⟨hle, -⟩ := fev_le (range_val hK hn h1 h2)
    have hrd := fun wx => run_round x wx hi
    rw [read_fin hi] at hrd
    simp only [Ieee.Datum.integral, even_cut hK] at hrd
    generalize fev K (fval (frung x)) = q at *
    obtain ⟨r, hrv, hrl⟩ := exists_whole hK hle
    rw [show Ieee.double.write (.number (fneg x) q 0) = Ieee.double.nearest (fneg x) q 0 from rfl, nearest_whole hK _ hrv hrl] at hrd
    have ht := toInt_whole hK (fneg x) hle hrv hrl
    generalize fword (fneg x) r = y at *
    generalize fsgn (fneg x) q = m at *
    have hc : ∀ w, (convert 22 3 (.float .f64 y)).run Try.prog w = .ok (.int .i64 m) w := fun w => run_convert_float_int w 22 3 .f64 .i64 y m (by rw [Try.underlying22]; rfl) Try.underlying3 ht
    clear hR ht hrv
    go_enter Try.func13, Try.ntmps13
    go_wp2_with fail
    refine (refuse_calls x _ hx).mono ?_
    rintro e w1 ⟨rfl, rfl⟩
    rw [hr]
    go_wp2
    go_ret2
    exact ⟨rfl, rfl⟩
  · have hb : (refuseR x != 0) = true := by simpa using hr
    have hR : wholeR x = (0, refuseR x) := by unfold wholeR; rw [if_pos hr]
    rw [hR]
    generalize hrr : refuseR x = rr at *
    have HR : Hid _ := hrr
    clear hrr hR
    go_enter Try.func13, Try.ntmps13
    go_wp2_with fail
    refine (refuse_calls x _ hx).mono ?_
    rintro e w1 ⟨rfl, rfl⟩
    rw [HR.out]
    go_wp2
    go_ret2
    exact ⟨rfl, rfl⟩
end Go.Proofs.Ytaklpeklkkceaaa
