/- The document's Whole comes to what the program's does; QuoteWhole for every float. -/
import Derived.Test.YtaklpeklkkceaaaQtWh
namespace Go.Proofs.Ytaklpeklkkceaaa
open Go.RowKit
set_option linter.unusedSimpArgs false
set_option linter.unusedVariables false

theorem fval_half {K : Nat} (hK : K = 1074) : 2 * fval 4602678819172646912 = 2 ^ K := by
  have e1 : (K - 53 + 1) * 4503599627370496 + 0 = 4602678819172646912 := by rw [hK]
  have e2 : K = 52 + (K - 53) + 1 := by omega
  clear hK
  have h := fval_at (K - 53) 0 (by decide)
  rw [e1] at h
  have e3 : 2 ^ K = 2 * (2 ^ 52 * 2 ^ (K - 53)) := by rw [← Nat.pow_add, Nat.mul_comm 2, ← Nat.pow_succ]; exact congrArg (fun z => 2 ^ z) e2
  rw [h, e3]

theorem whole_float {K q : Nat} (hK : K = 1074) (s : Bool) (hq : q ≤ 9007199254740992) : ∃ y, floatOfInt .f64 (fsgn s q) = y ∧ frung y < 9218868437227405312 ∧ fsgn (fneg y) (fval (frung y)) = fsgn s (q * 2 ^ K) := by
  obtain ⟨r, hr, hl⟩ := exists_whole hK hq
  refine ⟨_, rfl, ?_⟩
  show frung (Ieee.double.nearest (decide (fsgn s q < 0)) (fsgn s q).natAbs 0) < _ ∧ _ = _
  rw [fsgn_abs]
  have e : floatOfInt .f64 (fsgn s q) = Ieee.double.nearest (decide (fsgn s q < 0)) (fsgn s q).natAbs 0 := rfl
  rw [e, fsgn_abs, nearest_whole hK _ hr hl, fword_rung _ (by omega), fword_neg _ (by omega), hr]
  refine ⟨hl, ?_⟩
  rcases Nat.eq_zero_or_pos q with h0 | h0
  · subst h0; rw [Nat.zero_mul]; cases s <;> rfl
  · have : decide (fsgn s q < 0) = s := by unfold fsgn; cases s <;> simp <;> omega
    rw [this]

theorem rest_ex {K x : Nat} (hK : K = 1074) (hi : frung x < 9218868437227405312) (hq : fval (frung x) / 2 ^ K ≤ 9007199254740992) :
    ∃ f y, floatOfInt .f64 (fsgn (fneg x) (fval (frung x) / 2 ^ K)) = f ∧ floatBits .sub .f64 x f = some y ∧
      flt 4602678819172646912 y = (!fneg x && decide (2 ^ K < 2 * (fval (frung x) % 2 ^ K))) ∧ feq y 4602678819172646912 = (!fneg x && decide (2 ^ K = 2 * (fval (frung x) % 2 ^ K))) ∧
      flt y 13826050856027422720 = (fneg x && decide (2 ^ K < 2 * (fval (frung x) % 2 ^ K))) ∧ feq y 13826050856027422720 = (fneg x && decide (2 ^ K = 2 * (fval (frung x) % 2 ^ K))) := by
  obtain ⟨f, hf, hfl, hfv⟩ := whole_float hK (fneg x) hq
  have hdm := Nat.div_add_mod (fval (frung x)) (2 ^ K)
  rw [Nat.mul_comm] at hdm
  have hrem : ∃ r, fval r = fval (frung x) % 2 ^ K := by
    unfold fval
    rcases Nat.lt_or_ge (fexp (frung x)) K with he | he
    · rw [(split_val he).2.1]
      exact exists_rung _ _ (Nat.lt_of_le_of_lt (Nat.mod_le _ _) (fmag_lt _))
    · refine ⟨0, ?_⟩
      rw [show fexp (frung x) = (fexp (frung x) - K) + K by omega, Nat.pow_add, ← Nat.mul_assoc, Nat.mul_mod_left]; exact fval_zero
  obtain ⟨r, hr⟩ := hrem
  have hrl : r < 9218868437227405312 := by
    rw [← fval_lt, hr, fval_inf hK]
    refine Nat.lt_of_lt_of_le (Nat.mod_lt _ (Nat.two_pow_pos K)) (Nat.pow_le_pow_right (by decide) (by omega))
  have hval : fsgn (fneg x) (fval (frung x)) - fsgn (fneg f) (fval (frung f)) = fsgn (fneg x) (fval r) := by
    rw [hfv, hr]
    generalize fval (frung x) / 2 ^ K * 2 ^ K = u at *
    generalize fval (frung x) % 2 ^ K = v at *
    unfold fsgn; cases fneg x <;> simp <;> omega
  obtain ⟨z, hz, hzs⟩ := sub_exact (fneg x) hi hfl hval hrl
  refine ⟨f, fword z r, hf, hz, ?_⟩
  have hw : r < 9223372036854775808 := by omega
  have hy : fnan (fword z r) = false := by unfold fnan; rw [fword_rung z hw]; simp; omega
  have hH := fval_half hK
  have c1 : (2 ^ K < 2 * (fval (frung x) % 2 ^ K)) ↔ 4602678819172646912 < r := by
    rw [← hr, ← hH]
    have := @fval_lt 4602678819172646912 r
    omega
  have c2 : (2 ^ K = 2 * (fval (frung x) % 2 ^ K)) ↔ 4602678819172646912 = r := by
    rw [← hr, ← hH]; exact ⟨fun h => fval_inj (by omega), fun h => by rw [h]⟩
  have n1 : fnan 4602678819172646912 = false := by decide
  have n2 : fnan 13826050856027422720 = false := by decide
  have s1 : srung 4602678819172646912 = 4602678819172646912 := by decide
  have s2 : srung 13826050856027422720 = -4602678819172646912 := by decide
  have d1 : decide (2 ^ K < 2 * (fval (frung x) % 2 ^ K)) = decide (4602678819172646912 < r) := decide_eq_decide.2 c1
  have d2 : decide (2 ^ K = 2 * (fval (frung x) % 2 ^ K)) = decide (4602678819172646912 = r) := decide_eq_decide.2 c2
  unfold flt feq
  rw [hy, n1, n2, s1, s2, fword_srung hw, d1, d2]
  clear d1 d2 c1 c2
  by_cases h0 : r = 0
  · subst h0; unfold fsgn; cases z <;> cases fneg x <;> simp
  · have hz2 := hzs h0
    subst hz2
    unfold fsgn
    cases fneg x
    · refine ⟨?_, ?_, ?_, ?_⟩ <;> (rw [Bool.eq_iff_iff]; simp; try omega)
    · refine ⟨?_, ?_, ?_, ?_⟩ <;> (rw [Bool.eq_iff_iff]; simp; try omega)

set_option maxHeartbeats 1000000 in
theorem refWhole_calls (x : Nat) (w : World) (hx : x < 18446744073709551616) :
    Calls Try.prog 14 #[.float .f64 x] w fun e w' => e = .returned (.tuple #[.int .i64 (wholeR x).1, .int .i64 (wholeR x).2]) ∧ Below w.heap.size w w' := by
  cases hn : fnan x
  rotate_left
  · have hR : wholeR x = (0, 50) := by unfold wholeR refuseR; rw [hn]; simp
    rw [hR]
    clear hR
    go_enter Try.func14, Try.ntmps14
    go_wp2_with fail
    refine (none_calls x _).mono ?_
    rintro e w1 ⟨rfl, rfl⟩
    rw [hn]
    go_wp2
    go_ret2
    exact ⟨rfl, Below.refl _ _⟩
  by_cases hi : frung x = 9218868437227405312
  · have hR : wholeR x = (0, 51) := by unfold wholeR refuseR; rw [hn]; simp [hi]
    have hb : (frung x == 9218868437227405312) = true := by simpa using hi
    rw [hR]
    clear hR
    go_enter Try.func14, Try.ntmps14
    go_wp2_with fail
    refine (none_calls x _).mono ?_
    rintro e w1 ⟨rfl, rfl⟩
    rw [hn]
    go_wp2_with fail
    refine (endless_calls x _ hx).mono ?_
    rintro e w2 ⟨rfl, b2⟩
    rw [hb]
    go_wp2
    go_ret2
    exact ⟨rfl, b2⟩
  have hb : (frung x == 9218868437227405312) = false := by simpa using hi
  have hrz : refuseR x = 0 := by unfold refuseR; rw [hn, if_neg (by simp), if_neg hi]
  have hil := (refuse_zero hrz).2
  cases h1 : flt 4845873199050653696 x
  rotate_left
  · have hR : wholeR x = (0, 54) := by unfold wholeR; rw [if_neg (by simp [hrz]), h1]; simp
    rw [hR]
    clear hR
    go_enter Try.func14, Try.ntmps14
    go_wp2_with fail
    refine (none_calls x _).mono ?_
    rintro e w1 ⟨rfl, rfl⟩
    rw [hn]
    go_wp2_with fail
    refine (endless_calls x _ hx).mono ?_
    rintro e w2 ⟨rfl, b2⟩
    rw [hb]
    go_wp2
    go_ret2
    exact ⟨rfl, b2⟩
  cases h2 : flt x 14069245235905429504
  rotate_left
  · have hR : wholeR x = (0, 54) := by unfold wholeR; rw [if_neg (by simp [hrz]), h1, h2]; simp
    rw [hR]
    clear hR
    go_enter Try.func14, Try.ntmps14
    go_wp2_with fail
    refine (none_calls x _).mono ?_
    rintro e w1 ⟨rfl, rfl⟩
    rw [hn]
    go_wp2_with fail
    refine (endless_calls x _ hx).mono ?_
    rintro e w2 ⟨rfl, b2⟩
    rw [hb]
    go_wp2
    go_ret2
    exact ⟨rfl, b2⟩
  have hR : wholeR x = (fsgn (fneg x) (fev 1074 (fval (frung x))), 0) := by unfold wholeR; rw [if_neg (by simp [hrz]), h1, h2]; simp
  rw [hR]
  obtain ⟨K, hK⟩ := fK_is
  rw [← hK]
  obtain ⟨hle, hq⟩ := fev_le (range_val hK hn h1 h2)
  obtain ⟨f, y, hf, hsub, c1, c2, c3, c4⟩ := rest_ex hK hil hq
  have ht := toInt_cut hK hil hq
  unfold fev
  clear hR hle hrz hi
  generalize decide (2 ^ K < 2 * (fval (frung x) % 2 ^ K)) = g1 at *
  generalize decide (2 ^ K = 2 * (fval (frung x) % 2 ^ K)) = g2 at *
  generalize fval (frung x) / 2 ^ K = q at *
  have hodd : ((fsgn (fneg x) q).tmod 2 != 0) = decide (q % 2 = 1) := by
    have hm : (q : Int).tmod 2 = ((q % 2 : Nat) : Int) := (Int.ofNat_tmod q 2).symm
    unfold fsgn; cases fneg x
    · simp only [Bool.false_eq_true, if_false]; rw [hm, Bool.eq_iff_iff, bne_iff_ne, decide_eq_true_eq]; omega
    · simp only [if_true]; rw [Int.neg_tmod, hm, Bool.eq_iff_iff, bne_iff_ne, decide_eq_true_eq]; omega
  have hup : fsgn false (q + 1) = fsgn false q + 1 := by unfold fsgn; simp
  have hdn : fsgn true (q + 1) = fsgn true q - 1 := by unfold fsgn; simp; omega
  have hb1 : -9007199254740992 ≤ fsgn (fneg x) q := by unfold fsgn; cases fneg x <;> simp <;> omega
  have hb2 : fsgn (fneg x) q ≤ 9007199254740992 := by unfold fsgn; cases fneg x <;> simp <;> omega
  have HU : Hid _ := hup
  have HN : Hid _ := hdn
  clear hup hdn
  generalize hs : fneg x = s at *
  generalize hz : fsgn s q = N at *
  have HZ : Hid _ := hz
  clear hz
  have hop : ∀ t w, (binOp .sub t (.float .f64 x) (.float .f64 f)).run Try.prog w = .ok (.float .f64 y) w := fun t w => run_float_arith w .sub t .f64 x f y hsub
  have hc : ∀ w, (convert 22 3 (.float .f64 x)).run Try.prog w = .ok (.int .i64 N) w := fun w => run_convert_float_int w 22 3 .f64 .i64 x N (by rw [Try.underlying22]; rfl) Try.underlying3 ht
  clear hsub ht hK
  have HS : Hid _ := hs
  clear hs
  have w1' : IntKind.i64.wrap (N + 1) = N + 1 := by rw [IntKind.wrap_i64]; omega
  have w2' : IntKind.i64.wrap (N - 1) = N - 1 := by rw [IntKind.wrap_i64]; omega
  generalize ho : decide (q % 2 = 1) = o at *
  clear ho
  cases s <;> cases g1 <;> cases g2 <;> cases o
  all_goals
    simp only [Bool.not_false, Bool.not_true, Bool.true_and, Bool.false_and, Bool.or_false, Bool.or_true, Bool.false_or, Bool.and_false, Bool.and_true, Bool.true_or, Bool.toNat_true, Bool.toNat_false, Nat.add_zero] at *
    go_enter Try.func14, Try.ntmps14
    go_wp2_with fail
    refine (none_calls x _).mono ?_
    rintro e w1 ⟨rfl, rfl⟩
    rw [hn]
    go_wp2_with fail
    refine (endless_calls x _ hx).mono ?_
    rintro e w2 ⟨rfl, b2⟩
    rw [hb]
    go_wp2
    go_ret2
    refine ⟨?_, b2⟩
    first | (rw [HU.out, HZ.out]; rfl) | (rw [HN.out, HZ.out]; rfl) | (rw [HZ.out]; rfl)

theorem quoteWhole_calls (x : Nat) (w : World) (hx : x < 18446744073709551616) :
    Calls Try.prog 6 #[.float .f64 x] w fun e w' => e = .returned (.bool true) ∧ Below w.heap.size w w' := by
  have H1 : Hid _ := fun wx => whole_calls x wx hx
  have H2 : Hid _ := fun wx => refWhole_calls x wx hx
  generalize wholeR x = R at *
  obtain ⟨a, b⟩ := R
  go_enter Try.func6, Try.ntmps6
  go_wp2_with fail
  refine (H1.out _).mono ?_
  rintro e w1 ⟨rfl, rfl⟩
  go_wp2_with fail
  refine (H2.out _).mono ?_
  rintro e w2 ⟨rfl, b2⟩
  go_wp2_with fail
  refine (awake_calls _).mono ?_
  rintro e w3 ⟨rfl, rfl⟩
  go_wp2
  go_ret
  exact ⟨rfl, b2⟩
end Go.Proofs.Ytaklpeklkkceaaa
