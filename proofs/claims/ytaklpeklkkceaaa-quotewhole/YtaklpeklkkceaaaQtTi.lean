/- QuoteTicks, QuotePrices and QuoteExact for every input: what they answer. -/
import Derived.Test.YtaklpeklkkceaaaQtAw
namespace Go.Proofs.Ytaklpeklkkceaaa
open Go.RowKit
set_option linter.unusedSimpArgs false
set_option linter.unusedVariables false

theorem quoteTicks_calls (x : Nat) (k : Int) (w : World) (hx : x < 18446744073709551616) :
    Calls Try.prog 3 #[.float .f64 x, .int .i64 k] w fun e w' => e = .returned (.bool true) ∧ Below w.heap.size w w' := by
  have H1 : Hid _ := fun wx => ticks_calls x k wx hx
  have H2 : Hid _ := fun wx => refTicks_calls x k wx hx
  generalize ticksR x k = R at *
  obtain ⟨a, b⟩ := R
  go_enter Try.func3, Try.ntmps3
  go_wp2_with fail
  refine (H1.out _).mono ?_
  rintro e w1 ⟨rfl, rfl⟩
  go_wp2_with fail
  refine (H2.out _).mono ?_
  rintro e w2 ⟨rfl, b2⟩
  go_wp2_with fail
  refine (awake_calls _).mono ?_
  rintro e w3 ⟨rfl, rfl⟩
  go_wp2
  go_ret
  exact ⟨rfl, b2⟩

theorem flt_rung {a b : Nat} (ha : a ≤ 9218868437227405312) (hb : b ≤ 9218868437227405312) : flt a b = decide (a < b) := by
  obtain ⟨ra, sa⟩ := small_rung (x := a) (by omega)
  obtain ⟨rb, sb⟩ := small_rung (x := b) (by omega)
  have na : fnan a = false := by unfold fnan; rw [ra]; simp; omega
  have nb : fnan b = false := by unfold fnan; rw [rb]; simp; omega
  unfold flt; rw [na, nb]; unfold srung; rw [ra, rb, sa, sb]; unfold fsgn
  rw [Bool.eq_iff_iff]; simp
theorem feq_rung {a : Nat} (ha : a ≤ 9218868437227405312) : feq a a = true := by
  obtain ⟨ra, sa⟩ := small_rung (x := a) (by omega)
  have na : fnan a = false := by unfold fnan; rw [ra]; simp; omega
  rw [feq_self, na]; rfl

theorem whole_rung {n : Nat} (h : n ≤ 1099511627776) : tkR (frungOf n) = ((n : Int), 0) := by
  obtain ⟨K, hK⟩ := fK_is
  have hl := frungOf_lt (n := n) (by omega)
  obtain ⟨hr, hs⟩ := small_rung (x := frungOf n) (by omega)
  have hv := fval_rungOf (n := n) hK (by omega)
  have hd : fval (frungOf n) / 2 ^ 1074 = n := by rw [← hK, hv, Nat.mul_div_cancel _ (Nat.two_pow_pos K)]
  have h40 : flt 4787326403894837248 (frungOf n) = false := by
    rw [flt_rung (by decide) (by omega)]
    simp only [decide_eq_false_iff_not]
    rw [show 4787326403894837248 = ftwo 40 by decide, ← fval_lt, hv, fval_ftwo hK]
    intro hc
    have := Nat.lt_of_mul_lt_mul_right hc
    rw [show (2 : Nat) ^ 40 = 1099511627776 by decide] at this
    omega
  unfold tkR
  rw [if_neg (by simp [h40]), hr, hs, hd]
  have e : fsgn false n = (n : Int) := rfl
  rw [e, floatOfInt_nat (by omega), feq_rung (by omega)]
  rfl

theorem ticks_price {n k : Nat} (h : n ≤ 1099511627776) (hk : k ≤ 20) : ticksR (prc n k) k = ((n : Int), 0) := by
  have hl := prc_lt (k := k) h
  obtain ⟨hr, hs⟩ := small_rung (x := prc n k) (by omega)
  have hd : fdbls k (prc n k) = frungOf n := fval_inj (by rw [fval_dbls, fval_prc h hk])
  have hl2 := frungOf_lt (n := n) (by omega)
  unfold ticksR
  rw [if_neg (by omega), show fnan (prc n k) = false by unfold fnan; rw [hr]; simp; omega, if_neg (by simp), if_neg (by rw [hr]; omega), flt_rung (by omega) (by decide), if_neg (by simp), hr, hs, Int.toNat_natCast, hd,
    Nat.min_eq_left (by omega), fword_false, whole_rung h]

theorem quotePrices_calls (n k : Int) (w : World) :
    Calls Try.prog 4 #[.int .i64 n, .int .i64 k] w fun e w' => e = .returned (.bool true) ∧ Below w.heap.size w w' := by
  have H1 : Hid _ := fun wx => price_calls n k wx
  have H2 : Hid _ := fun wx => refPrice_calls n k wx
  by_cases hc : 0 ≤ k ∧ k ≤ 20 ∧ 0 ≤ n ∧ n ≤ 1099511627776
  · have hR : priceR n k = (prc n.toNat k.toNat, 0) := by unfold priceR; rw [if_pos hc]
    rw [hR] at H1 H2
    obtain ⟨m, rfl⟩ := Int.eq_ofNat_of_zero_le (show 0 ≤ n by omega)
    obtain ⟨j, rfl⟩ := Int.eq_ofNat_of_zero_le (show 0 ≤ k by omega)
    simp only [Int.toNat_natCast] at H1 H2
    have hl := prc_lt (k := j) (show m ≤ 1099511627776 by omega)
    have hT := fun wx => ticks_calls (prc m j) j wx (by omega)
    rw [ticks_price (by omega) (by omega)] at hT
    have H3 : Hid _ := hT
    clear hT hR
    generalize prc m j = r at *
    go_enter Try.func4, Try.ntmps4
    go_wp2_with fail
    refine (H1.out _).mono ?_
    rintro e w1 ⟨rfl, rfl⟩
    go_wp2_with fail
    refine (H2.out _).mono ?_
    rintro e w2 ⟨rfl, rfl⟩
    go_wp2_with fail
    refine (alike_calls r r _).mono ?_
    rintro e w2 ⟨rfl, rfl⟩
    go_wp2_with fail
    refine (H3.out _).mono ?_
    rintro e w2 ⟨rfl, rfl⟩
    go_wp2_with fail
    refine (awake_calls _).mono ?_
    rintro e w3 ⟨rfl, rfl⟩
    go_wp2
    go_ret
    exact ⟨rfl, Below.refl _ _⟩
  · have hR : priceR n k = (0, 1) := by unfold priceR; rw [if_neg hc]
    rw [hR] at H1 H2
    go_enter Try.func4, Try.ntmps4
    go_wp2_with fail
    refine (H1.out _).mono ?_
    rintro e w1 ⟨rfl, rfl⟩
    go_wp2_with fail
    refine (H2.out _).mono ?_
    rintro e w2 ⟨rfl, rfl⟩
    go_wp2_with fail
    refine (alike_calls 0 0 _).mono ?_
    rintro e w2 ⟨rfl, rfl⟩
    go_wp2_with fail
    refine (awake_calls _).mono ?_
    rintro e w3 ⟨rfl, rfl⟩
    go_wp2
    go_ret
    exact ⟨rfl, Below.refl _ _⟩

theorem frungOf_zero {n : Nat} (h : n < 9007199254740992) (h0 : frungOf n = 0) : n = 0 := by
  obtain ⟨K, hK⟩ := fK_is
  have hv := fval_rungOf (n := n) hK h
  rw [h0, fval_zero] at hv
  rcases Nat.eq_zero_or_pos n with h1 | h1
  · exact h1
  · have := Nat.mul_pos h1 (Nat.two_pow_pos K); omega

theorem ticks_taken {x : Nat} {k n : Int} (hx : x < 18446744073709551616) (h : ticksR x k = (n, 0)) :
    ∃ m j : Nat, n = m ∧ k = j ∧ m ≤ 1099511627776 ∧ j ≤ 20 ∧ feq (prc m j) x = true := by
  unfold ticksR at h
  split at h
  · cases h
  rename_i hk
  obtain ⟨j, rfl⟩ := Int.eq_ofNat_of_zero_le (show 0 ≤ k by omega)
  cases hn : fnan x
  rotate_left
  · rw [hn] at h; cases h
  rw [hn, if_neg (by simp)] at h
  split at h
  · cases h
  rename_i hi
  split at h
  · cases h
  rename_i h0
  rw [Int.toNat_natCast] at h
  have hxi : frung x < 9218868437227405312 := by unfold fnan at hn; simp at hn; omega
  have hsx : 0 ≤ srung x := by
    have : flt x 0 = false := by simpa using h0
    unfold flt at this; rw [hn, show fnan 0 = false by decide, show srung 0 = 0 by decide] at this; simpa using this
  have hsg : srung (fword (fneg x) (min (fdbls j (frung x)) 9218868437227405312)) ≥ 0 := by
    rw [fword_srung (by omega)]
    unfold srung fsgn at hsx
    unfold fsgn
    cases hs : fneg x
    · simp
    · simp [hs] at hsx ⊢
      have e0 : frung x = 0 := by omega
      have : fval (fdbls j (frung x)) = 0 := by rw [fval_dbls, e0, fval_zero, Nat.zero_mul]
      rw [fval_eq_zero] at this; omega
  have hfr : frung (fword (fneg x) (min (fdbls j (frung x)) 9218868437227405312)) = min (fdbls j (frung x)) 9218868437227405312 := fword_rung _ (by omega)
  have hsr : srung (fword (fneg x) (min (fdbls j (frung x)) 9218868437227405312)) = fsgn (fneg x) (min (fdbls j (frung x)) 9218868437227405312) := fword_srung (by omega)
  generalize hy : fword (fneg x) (min (fdbls j (frung x)) 9218868437227405312) = y at *
  clear hy
  unfold tkR at h
  split at h
  · cases h
  rename_i hb
  obtain ⟨-, hyi, hm0, hm1⟩ := toInt_fits (by omega) hsg (by simpa using hb)
  generalize fsgn (fneg y) (fval (frung y) / 2 ^ 1074) = M at *
  obtain ⟨m, rfl⟩ := Int.eq_ofNat_of_zero_le hm0
  split at h
  rotate_left
  · cases h
  rename_i hq
  cases h
  refine ⟨m, j, rfl, rfl, by omega, by omega, ?_⟩
  have hlm := frungOf_lt (n := m) (by omega)
  rw [floatOfInt_nat (by omega)] at hq
  unfold feq at hq
  simp at hq
  have hq2 := hq.2
  obtain ⟨hrm, hsm⟩ := small_rung (x := frungOf m) (by omega)
  rw [hsr] at hq2
  unfold srung at hq2
  rw [hrm, hsm, Nat.min_eq_left (by omega)] at hq2
  have hlp := prc_lt (k := j) (show m ≤ 1099511627776 by omega)
  obtain ⟨hrp, hsp⟩ := small_rung (x := prc m j) (by omega)
  have hnp : fnan (prc m j) = false := by unfold fnan; rw [hrp]; simp; omega
  have hvp := fval_prc (n := m) (k := j) (by omega) (by omega)
  unfold feq
  rw [hnp, hn]
  simp only [Bool.not_false, Bool.true_and, decide_eq_true_eq]
  unfold srung fsgn at *
  rw [hrp, hsp]
  cases hs : fneg x
  · simp [hs] at hq2 ⊢
    have e : frungOf m = fdbls j (frung x) := by omega
    have : fval (prc m j) * 2 ^ j = fval (frung x) * 2 ^ j := by rw [hvp, e, fval_dbls]
    have := fval_inj (Nat.eq_of_mul_eq_mul_right (Nat.two_pow_pos j) this)
    omega
  · simp [hs] at hq2 hsx ⊢
    have e1 : frung x = 0 := by omega
    have e2 : frungOf m = 0 := by omega
    have e3 := frungOf_zero (by omega) e2
    subst e3
    rw [e1, show prc 0 j = 0 from rfl]; rfl

theorem ticks_refused {x : Nat} {k n e : Int} (h : ticksR x k = (n, e)) (he : e ≠ 0) : n = 0 := by
  unfold ticksR tkR at h
  repeat' (split at h)
  all_goals (cases h; first | rfl | (exact absurd rfl he))

theorem quoteExact_calls (x : Nat) (k : Int) (w : World) (hx : x < 18446744073709551616) :
    Calls Try.prog 5 #[.float .f64 x, .int .i64 k] w fun e w' => e = .returned (.bool true) ∧ Below w.heap.size w w' := by
  have H1 : Hid _ := fun wx => ticks_calls x k wx hx
  generalize hR : ticksR x k = R at *
  obtain ⟨n, e⟩ := R
  by_cases he : e = 0
  · subst he
    obtain ⟨m, j, rfl, rfl, hm, hj, hq⟩ := ticks_taken hx hR
    clear hR
    have hp := fun wx => price_calls m j wx
    rw [show priceR m j = (prc m j, 0) by unfold priceR; rw [if_pos (by omega)]; simp] at hp
    have H2 : Hid _ := hp
    clear hp
    generalize prc m j = r at *
    have d1 : decide ((m : Int) ≤ 1099511627776) = true := by simp only [decide_eq_true_eq]; omega
    go_enter Try.func5, Try.ntmps5
    go_wp2_with fail
    refine (H1.out _).mono ?_
    rintro e w1 ⟨rfl, rfl⟩
    go_wp2_with fail
    refine (H2.out _).mono ?_
    rintro e w2 ⟨rfl, rfl⟩
    go_wp2_with fail
    refine (awake_calls _).mono ?_
    rintro e w3 ⟨rfl, rfl⟩
    go_wp2
    go_ret
    exact ⟨rfl, Below.refl _ _⟩
  · have := ticks_refused hR he
    subst this
    clear hR
    go_enter Try.func5, Try.ntmps5
    go_wp2_with fail
    refine (H1.out _).mono ?_
    rintro e w1 ⟨rfl, rfl⟩
    go_wp2_with fail
    refine (awake_calls _).mono ?_
    rintro e w3 ⟨rfl, rfl⟩
    go_wp2
    go_ret
    exact ⟨rfl, Below.refl _ _⟩
end Go.Proofs.Ytaklpeklkkceaaa
