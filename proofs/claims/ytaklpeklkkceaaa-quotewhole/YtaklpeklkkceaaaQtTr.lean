/- The document's Ticks comes to what the program's does. -/
import Derived.Test.YtaklpeklkkceaaaQtTk
namespace Go.Proofs.Ytaklpeklkkceaaa
open Go.RowKit
set_option linter.unusedSimpArgs false
set_option linter.unusedVariables false

theorem dbl_step (s : Bool) (j r : Nat) : Ieee.double.add (fword s (min (fdbls j r) 9218868437227405312)) (fword s (min (fdbls j r) 9218868437227405312)) = some (fword s (min (fdbls (j + 1) r) 9218868437227405312)) := by
  have h : min (fdbls j r) 9218868437227405312 < 9223372036854775808 := by omega
  rw [add_self (by rw [fword_rung s h]; omega), fword_rung s h, fword_neg s h, fdbl_cap]; rfl

theorem far_ticks {x n : Nat} (hn : fnan x = false) (h0 : flt x 0 = false) (h : flt 4787326403894837248 x = true) : tkR (fword (fneg x) (min (fdbls n (frung x)) 9218868437227405312)) = (0, 54) := by
  have hi : frung x ≤ 9218868437227405312 := by unfold fnan at hn; simp at hn; omega
  have hw : min (fdbls n (frung x)) 9218868437227405312 < 9223372036854775808 := by omega
  have hl := fdbls_le n (frung x)
  unfold tkR
  rw [if_pos]
  refine flt_le (by decide) ?_ h ?_
  · unfold fnan; rw [fword_rung _ hw]; simp; omega
  · rw [fword_srung hw]
    have : 4787326403894837248 < srung x := by
      unfold flt at h; rw [hn, show fnan 4787326403894837248 = false by decide, show srung 4787326403894837248 = 4787326403894837248 by decide] at h; simpa using h
    unfold srung fsgn at *
    cases hs : fneg x <;> simp [hs] at this ⊢ <;> omega

theorem refTicks_calls (x : Nat) (k : Int) (w : World) (hx : x < 18446744073709551616) :
    Calls Try.prog 8 #[.float .f64 x, .int .i64 k] w fun e w' => e = .returned (.tuple #[.int .i64 (ticksR x k).1, .int .i64 (ticksR x k).2]) ∧ Below w.heap.size w w' := by
  by_cases hk0 : k < 0
  · have hR : ticksR x k = (0, 1) := by unfold ticksR; rw [if_pos (by omega)]
    rw [hR]
    go_enter Try.func8, Try.ntmps8
    go_wp2
    go_ret2
    exact ⟨rfl, Below.refl _ _⟩
  by_cases hk1 : 20 < k
  · have hR : ticksR x k = (0, 1) := by unfold ticksR; rw [if_pos (by omega)]
    rw [hR]
    go_enter Try.func8, Try.ntmps8
    go_wp2
    go_ret2
    exact ⟨rfl, Below.refl _ _⟩
  cases hn : fnan x
  rotate_left
  · have hR : ticksR x k = (0, 50) := by unfold ticksR; rw [if_neg (by omega), hn]; rfl
    rw [hR]
    go_enter Try.func8, Try.ntmps8
    go_wp2_with fail
    refine (none_calls x _).mono ?_
    rintro e w1 ⟨rfl, rfl⟩
    rw [hn]
    go_wp2
    go_ret2
    exact ⟨rfl, Below.refl _ _⟩
  by_cases hi : frung x = 9218868437227405312
  · have hR : ticksR x k = (0, 51) := by unfold ticksR; rw [if_neg (by omega), hn, if_neg (by simp), if_pos hi]
    have hb : (frung x == 9218868437227405312) = true := by simpa using hi
    rw [hR]
    go_enter Try.func8, Try.ntmps8
    go_wp2_with fail
    refine (none_calls x _).mono ?_
    rintro e w1 ⟨rfl, rfl⟩
    rw [hn]
    go_wp2_with fail
    refine (endless_calls x _ hx).mono ?_
    rintro e w2 ⟨rfl, b2⟩
    rw [hb]
    go_wp2
    go_ret2
    exact ⟨rfl, b2⟩
  have hb : (frung x == 9218868437227405312) = false := by simpa using hi
  cases h0 : flt x 0
  rotate_left
  · have hR : ticksR x k = (0, 52) := by unfold ticksR; rw [if_neg (by omega), hn, if_neg (by simp), if_neg hi, if_pos h0]
    rw [hR]
    go_enter Try.func8, Try.ntmps8
    go_wp2_with fail
    refine (none_calls x _).mono ?_
    rintro e w1 ⟨rfl, rfl⟩
    rw [hn]
    go_wp2_with fail
    refine (endless_calls x _ hx).mono ?_
    rintro e w2 ⟨rfl, b2⟩
    rw [hb]
    go_wp2
    go_ret2
    exact ⟨rfl, b2⟩
  obtain ⟨n, rfl⟩ := Int.eq_ofNat_of_zero_le (show 0 ≤ k by omega)
  have hR : ticksR x n = tkR (fword (fneg x) (min (fdbls n (frung x)) 9218868437227405312)) := by
    unfold ticksR; rw [if_neg (by omega), hn, if_neg (by simp), if_neg (by omega), if_neg (by simp [h0]), Int.toNat_natCast]
  cases hf : flt 4787326403894837248 x
  rotate_left
  · rw [hR, far_ticks hn h0 hf]
    clear hR
    go_enter Try.func8, Try.ntmps8
    go_wp2_with fail
    refine (none_calls x _).mono ?_
    rintro e w1 ⟨rfl, rfl⟩
    rw [hn]
    go_wp2_with fail
    refine (endless_calls x _ hx).mono ?_
    rintro e w2 ⟨rfl, b2⟩
    rw [hb]
    go_wp2
    go_ret2
    exact ⟨rfl, b2⟩
  have hsg : srung (fword (fneg x) (min (fdbls n (frung x)) 9218868437227405312)) ≥ 0 := by
    rw [fword_srung (by omega)]
    have : ¬ srung x < 0 := by
      unfold flt at h0; rw [hn, show fnan 0 = false by decide, show srung 0 = 0 by decide] at h0; simpa using h0
    unfold srung fsgn at this
    unfold fsgn
    cases hs : fneg x
    · simp
    · simp [hs] at this ⊢
      have e0 : frung x = 0 := by omega
      have : fval (fdbls n (frung x)) = 0 := by rw [fval_dbls, e0, fval_zero, Nat.zero_mul]
      rw [fval_eq_zero] at this; omega
  have hle : frung (fword (fneg x) (min (fdbls n (frung x)) 9218868437227405312)) ≤ 9218868437227405312 := by rw [fword_rung _ (by omega)]; omega
  have hx0 : fword (fneg x) (min (fdbls 0 (frung x)) 9218868437227405312) = x := by
    rw [show fdbls 0 (frung x) = frung x from rfl, Nat.min_eq_left (by unfold fnan at hn; simp at hn; omega), fword_self hx]
  rw [hR]
  clear hR
  generalize hA : tkR (fword (fneg x) (min (fdbls n (frung x)) 9218868437227405312)) = A at *
  have HA : Hid _ := hA
  have HX : Hid _ := hx0
  have HW : Hid _ := hn
  clear hA hx0
  go_enter Try.func8, Try.ntmps8
  go_wp2_with fail
  refine (none_calls x _).mono ?_
  rintro e w1 ⟨rfl, rfl⟩
  rw [hn]
  go_wp2_with fail
  refine (endless_calls x _ hx).mono ?_
  rintro e w2 ⟨rfl, b2⟩
  rw [hb]
  clear hn hb
  go_wp2_with fail
  go_loop [0, 6] (fun p i => ∃ j : Nat, j ≤ n ∧ i = .int .i64 j ∧ p = .float .f64 (fword (fneg x) (min (fdbls j (frung x)) 9218868437227405312))) (fun _ i => n - (intOf i).toNat)
  case atStart => exact ⟨0, Nat.zero_le _, rfl, by rw [HX.out]⟩
  case round =>
    obtain ⟨j, hj, rfl, rfl⟩ := hrel
    by_cases hlt : j < n
    · have hd : decide ((j : Int) < (n : Int)) = true := by simp only [decide_eq_true_eq]; omega
      have hst := dbl_step (fneg x) j (frung x)
      generalize hy' : fword (fneg x) (min (fdbls (j + 1) (frung x)) 9218868437227405312) = y' at *
      have HY : Hid _ := hy'
      clear hy'
      generalize fword (fneg x) (min (fdbls j (frung x)) 9218868437227405312) = y at *
      have hop : ∀ t w, (binOp .add t (.float .f64 y) (.float .f64 y)).run Try.prog w = .ok (.float .f64 y') w := fun t w => run_float_arith w .add t .f64 y y y' hst
      go_wp2
      exact ⟨⟨j + 1, by omega, by go_num, by rw [HY.out]⟩, by simp [intOf]; omega⟩
    · have hd : decide ((j : Int) < (n : Int)) = false := by simp only [decide_eq_false_iff_not]; omega
      obtain rfl : j = n := by omega
      generalize fword (fneg x) (min (fdbls j (frung x)) 9218868437227405312) = y at *
      cases hbf : flt 4787326403894837248 y
      rotate_left
      · have hT : tkR y = (0, 54) := by unfold tkR; rw [if_pos hbf]
        have HT : Hid _ := hT
        clear hT
        go_wp2
        go_ret2
        exact ⟨by rw [← HA.out, HT.out]; rfl, b2⟩
      obtain ⟨hc0, -, -, -⟩ := toInt_fits hle hsg hbf
      have hT : tkR y = if feq (floatOfInt .f64 (fsgn (fneg y) (fval (frung y) / 2 ^ 1074))) y then (fsgn (fneg y) (fval (frung y) / 2 ^ 1074), 0) else (0, 53) := by unfold tkR; rw [if_neg (by simp [hbf])]
      generalize fsgn (fneg y) (fval (frung y) / 2 ^ 1074) = m at *
      have hc : ∀ w, (convert 22 3 (.float .f64 y)).run Try.prog w = .ok (.int .i64 m) w := fun w => run_convert_float_int w 22 3 .f64 .i64 y m (by rw [Try.underlying22]; rfl) Try.underlying3 hc0
      have HT : Hid _ := hT
      clear hT hc0
      cases hq : feq (floatOfInt .f64 m) y
      all_goals
        go_wp2
        go_ret2
        exact ⟨by rw [← HA.out, HT.out, hq]; rfl, b2⟩
end Go.Proofs.Ytaklpeklkkceaaa
