/- QuoteOrder for every three floats: what it answers. -/
import Derived.Test.YtjcnnfpbodhbgaaQtOr
namespace Go.Proofs.Ytjcnnfpbodhbgaa
open Go.RowKit
set_option linter.unusedSimpArgs false
set_option linter.unusedVariables false

theorem rank_le (x : Nat) (hx : x < 18446744073709551616) : rankR x ≤ 18446744073709551615 := by
  have := frung_lt x
  rw [rank_rung hx]; split
  · omega
  · split <;> omega
theorem rank_nan {x : Nat} (hx : x < 18446744073709551616) : fnan x = decide (rankR x = 18446744073709551615) := by
  have := frung_lt x
  rw [rank_rung hx]
  cases hn : fnan x
  · unfold fnan at hn
    simp at hn
    cases fneg x <;> simp <;> omega
  · simp

set_option maxHeartbeats 1000000 in
theorem quoteOrder_calls (a b c : Nat) (w : World) (ha : a < 18446744073709551616) (hb : b < 18446744073709551616) (hc : c < 18446744073709551616) :
    Calls Try.prog 5 #[.float .f64 a, .float .f64 b, .float .f64 c] w fun e w' => e = .returned (.bool true) ∧ Below w.heap.size w w' := by
  have hnot : ∀ (x : Bool) (w : World), (Op.unary .not (.bool x)).run Try.prog w = .ok (.bool (!x)) w := fun _ _ => rfl
  have L1 := fun wx => less_calls a b wx ha hb
  have L2 := fun wx => less_calls b a wx hb ha
  have L3 := fun wx => less_calls b c wx hb hc
  have L4 := fun wx => less_calls a c wx ha hc
  have B1 := fun wx => below_calls a b wx
  have B2 := fun wx => below_calls b a wx
  have R1 : Hid _ := fun wx => rank_calls a wx ha
  have R2 : Hid _ := fun wx => rank_calls b wx hb
  have S := rank_same ha hb
  have na := rank_nan ha
  have nb := rank_nan hb
  have la := rank_le a ha
  have lb := rank_le b hb
  rw [← below_less ha hb] at B1
  rw [← below_less hb ha] at B2
  unfold lessR at L1 L2 L3 L4 B1 B2
  have A1 : Hid _ := fun wx => alike_calls a b wx
  have N1 : Hid _ := fun wx => none_calls a wx
  have N2 : Hid _ := fun wx => none_calls b wx
  generalize rankR a = ra at *
  generalize rankR b = rb at *
  generalize rankR c = rc at *
  rcases Nat.lt_trichotomy ra rb with h | h | h
  · rw [show decide (ra < rb) = true by simpa using h] at L1 B1
    rw [show decide (rb < ra) = false by simp; omega] at L2 B2
    have hna : fnan a = false := by rw [na]; simp; omega
    have hal : decide (a = b) = false := by
      rw [show decide (ra = rb) = false by simp; omega] at S
      cases hx : decide (a = b)
      · rfl
      · rw [hx] at S; simp at S
    rw [hna] at N1
    rw [hal] at A1
    have d1 : decide ((ra : Int) < (rb : Int)) = true := by simp only [decide_eq_true_eq]; omega
    have d2 : ((ra : Int) == (rb : Int)) = false := by simp; omega
    have L1' : Hid _ := L1
    have L2' : Hid _ := L2
    have B1' : Hid _ := B1
    have B2' : Hid _ := B2
    clear L1 L2 B1 B2 S na nb hna hal
    by_cases h3 : rb < rc
    · rw [show decide (rb < rc) = true by simpa using h3] at L3
      rw [show decide (ra < rc) = true by simp; omega] at L4
      have L3' : Hid _ := L3
      have L4' : Hid _ := L4
      clear L3 L4
      go_enter Try.func5, Try.ntmps5
      go_wp2_with fail
      refine (L1'.out _).mono ?_
      rintro e w1 ⟨rfl, rfl⟩
      go_wp2_with fail
      refine (L2'.out _).mono ?_
      rintro e w1 ⟨rfl, rfl⟩
      go_wp2_with fail
      refine (B1'.out _).mono ?_
      rintro e w1 ⟨rfl, rfl⟩
      go_wp2_with fail
      refine (B2'.out _).mono ?_
      rintro e w1 ⟨rfl, rfl⟩
      go_wp2_with fail
      refine (A1.out _).mono ?_
      rintro e w1 ⟨rfl, rfl⟩
      go_wp2_with fail
      refine (N1.out _).mono ?_
      rintro e w1 ⟨rfl, rfl⟩
      go_wp2_with fail
      refine (L3'.out _).mono ?_
      rintro e w1 ⟨rfl, rfl⟩
      go_wp2_with fail
      refine (L4'.out _).mono ?_
      rintro e w1 ⟨rfl, rfl⟩
      go_wp2_with fail
      refine (R1.out _).mono ?_
      rintro e w1 ⟨rfl, rfl⟩
      go_wp2_with fail
      refine (R2.out _).mono ?_
      rintro e w1 ⟨rfl, rfl⟩
      go_wp2_with fail
      refine (R1.out _).mono ?_
      rintro e w1 ⟨rfl, rfl⟩
      go_wp2_with fail
      refine (R2.out _).mono ?_
      rintro e w1 ⟨rfl, rfl⟩
      go_wp2_with fail
      refine (awake_calls _).mono ?_
      rintro e w7 ⟨rfl, rfl⟩
      go_wp2
      go_ret
      exact ⟨rfl, Below.refl _ _⟩
    · rw [show decide (rb < rc) = false by simp; omega] at L3
      have L3' : Hid _ := L3
      clear L3 L4
      go_enter Try.func5, Try.ntmps5
      go_wp2_with fail
      refine (L1'.out _).mono ?_
      rintro e w1 ⟨rfl, rfl⟩
      go_wp2_with fail
      refine (L2'.out _).mono ?_
      rintro e w1 ⟨rfl, rfl⟩
      go_wp2_with fail
      refine (B1'.out _).mono ?_
      rintro e w1 ⟨rfl, rfl⟩
      go_wp2_with fail
      refine (B2'.out _).mono ?_
      rintro e w1 ⟨rfl, rfl⟩
      go_wp2_with fail
      refine (A1.out _).mono ?_
      rintro e w1 ⟨rfl, rfl⟩
      go_wp2_with fail
      refine (N1.out _).mono ?_
      rintro e w1 ⟨rfl, rfl⟩
      go_wp2_with fail
      refine (L3'.out _).mono ?_
      rintro e w1 ⟨rfl, rfl⟩
      go_wp2_with fail
      refine (R1.out _).mono ?_
      rintro e w1 ⟨rfl, rfl⟩
      go_wp2_with fail
      refine (R2.out _).mono ?_
      rintro e w1 ⟨rfl, rfl⟩
      go_wp2_with fail
      refine (R1.out _).mono ?_
      rintro e w1 ⟨rfl, rfl⟩
      go_wp2_with fail
      refine (R2.out _).mono ?_
      rintro e w1 ⟨rfl, rfl⟩
      go_wp2_with fail
      refine (awake_calls _).mono ?_
      rintro e w7 ⟨rfl, rfl⟩
      go_wp2
      go_ret
      exact ⟨rfl, Below.refl _ _⟩
  · subst h
    rw [show decide (ra < ra) = false by simp] at L1 L2 B1 B2
    rw [show decide (ra = ra) = true by simp] at S
    have L1' : Hid _ := L1
    have L2' : Hid _ := L2
    have B1' : Hid _ := B1
    have B2' : Hid _ := B2
    clear L1 L2 L3 L4 B1 B2
    have hab : fnan a = fnan b := by rw [na, nb]
    clear na nb
    cases hx : decide (a = b)
    · rw [hx] at S A1
      have hna : fnan a = true := by simp at S; exact S.1
      have hnb : fnan b = true := by simp at S; exact S.2
      rw [hna] at N1
      rw [hnb] at N2
      clear hna hnb hab S hx
      go_enter Try.func5, Try.ntmps5
      go_wp2_with fail
      refine (L1'.out _).mono ?_
      rintro e w1 ⟨rfl, rfl⟩
      go_wp2_with fail
      refine (L2'.out _).mono ?_
      rintro e w1 ⟨rfl, rfl⟩
      go_wp2_with fail
      refine (B1'.out _).mono ?_
      rintro e w1 ⟨rfl, rfl⟩
      go_wp2_with fail
      refine (B2'.out _).mono ?_
      rintro e w1 ⟨rfl, rfl⟩
      go_wp2_with fail
      refine (A1.out _).mono ?_
      rintro e w1 ⟨rfl, rfl⟩
      go_wp2_with fail
      refine (N1.out _).mono ?_
      rintro e w1 ⟨rfl, rfl⟩
      go_wp2_with fail
      refine (N2.out _).mono ?_
      rintro e w1 ⟨rfl, rfl⟩
      go_wp2_with fail
      refine (R1.out _).mono ?_
      rintro e w1 ⟨rfl, rfl⟩
      go_wp2_with fail
      refine (R2.out _).mono ?_
      rintro e w1 ⟨rfl, rfl⟩
      go_wp2_with fail
      refine (R1.out _).mono ?_
      rintro e w1 ⟨rfl, rfl⟩
      go_wp2_with fail
      refine (R2.out _).mono ?_
      rintro e w1 ⟨rfl, rfl⟩
      go_wp2_with fail
      refine (awake_calls _).mono ?_
      rintro e w7 ⟨rfl, rfl⟩
      go_wp2
      go_ret
      exact ⟨rfl, Below.refl _ _⟩
    · rw [hx] at A1
      clear hab S hx
      go_enter Try.func5, Try.ntmps5
      go_wp2_with fail
      refine (L1'.out _).mono ?_
      rintro e w1 ⟨rfl, rfl⟩
      go_wp2_with fail
      refine (L2'.out _).mono ?_
      rintro e w1 ⟨rfl, rfl⟩
      go_wp2_with fail
      refine (B1'.out _).mono ?_
      rintro e w1 ⟨rfl, rfl⟩
      go_wp2_with fail
      refine (B2'.out _).mono ?_
      rintro e w1 ⟨rfl, rfl⟩
      go_wp2_with fail
      refine (A1.out _).mono ?_
      rintro e w1 ⟨rfl, rfl⟩
      go_wp2_with fail
      refine (R1.out _).mono ?_
      rintro e w1 ⟨rfl, rfl⟩
      go_wp2_with fail
      refine (R2.out _).mono ?_
      rintro e w1 ⟨rfl, rfl⟩
      go_wp2_with fail
      refine (R1.out _).mono ?_
      rintro e w1 ⟨rfl, rfl⟩
      go_wp2_with fail
      refine (R2.out _).mono ?_
      rintro e w1 ⟨rfl, rfl⟩
      go_wp2_with fail
      refine (awake_calls _).mono ?_
      rintro e w7 ⟨rfl, rfl⟩
      go_wp2
      go_ret
      exact ⟨rfl, Below.refl _ _⟩
  · rw [show decide (ra < rb) = false by simp; omega] at L1 B1
    rw [show decide (rb < ra) = true by simpa using h] at L2 B2
    have hnb : fnan b = false := by rw [nb]; simp; omega
    have hal : decide (a = b) = false := by
      rw [show decide (ra = rb) = false by simp; omega] at S
      cases hx : decide (a = b)
      · rfl
      · rw [hx] at S; simp at S
    rw [hnb] at N2
    rw [hal] at A1
    have d1 : decide ((ra : Int) < (rb : Int)) = false := by simp only [decide_eq_false_iff_not]; omega
    have d2 : ((ra : Int) == (rb : Int)) = false := by simp; omega
    have L1' : Hid _ := L1
    have L2' : Hid _ := L2
    have B1' : Hid _ := B1
    have B2' : Hid _ := B2
    clear L1 L2 L3 L4 B1 B2 S na nb hnb hal
    have d3 : decide (ra < rb) = false := by simp; omega
    cases hna : fnan a
    · rw [hna] at N1
      clear hna
      go_enter Try.func5, Try.ntmps5
      go_wp2_with fail
      refine (L1'.out _).mono ?_
      rintro e w1 ⟨rfl, rfl⟩
      go_wp2_with fail
      refine (L2'.out _).mono ?_
      rintro e w1 ⟨rfl, rfl⟩
      go_wp2_with fail
      refine (B1'.out _).mono ?_
      rintro e w1 ⟨rfl, rfl⟩
      go_wp2_with fail
      refine (B2'.out _).mono ?_
      rintro e w1 ⟨rfl, rfl⟩
      go_wp2_with fail
      refine (A1.out _).mono ?_
      rintro e w1 ⟨rfl, rfl⟩
      go_wp2_with fail
      refine (N1.out _).mono ?_
      rintro e w1 ⟨rfl, rfl⟩
      go_wp2_with fail
      refine (R1.out _).mono ?_
      rintro e w1 ⟨rfl, rfl⟩
      go_wp2_with fail
      refine (R2.out _).mono ?_
      rintro e w1 ⟨rfl, rfl⟩
      go_wp2_with fail
      refine (R1.out _).mono ?_
      rintro e w1 ⟨rfl, rfl⟩
      go_wp2_with fail
      refine (R2.out _).mono ?_
      rintro e w1 ⟨rfl, rfl⟩
      go_wp2_with fail
      refine (awake_calls _).mono ?_
      rintro e w7 ⟨rfl, rfl⟩
      go_wp2
      go_ret
      exact ⟨rfl, Below.refl _ _⟩
    · rw [hna] at N1
      clear hna
      go_enter Try.func5, Try.ntmps5
      go_wp2_with fail
      refine (L1'.out _).mono ?_
      rintro e w1 ⟨rfl, rfl⟩
      go_wp2_with fail
      refine (L2'.out _).mono ?_
      rintro e w1 ⟨rfl, rfl⟩
      go_wp2_with fail
      refine (B1'.out _).mono ?_
      rintro e w1 ⟨rfl, rfl⟩
      go_wp2_with fail
      refine (B2'.out _).mono ?_
      rintro e w1 ⟨rfl, rfl⟩
      go_wp2_with fail
      refine (A1.out _).mono ?_
      rintro e w1 ⟨rfl, rfl⟩
      go_wp2_with fail
      refine (N1.out _).mono ?_
      rintro e w1 ⟨rfl, rfl⟩
      go_wp2_with fail
      refine (N2.out _).mono ?_
      rintro e w1 ⟨rfl, rfl⟩
      go_wp2_with fail
      refine (R1.out _).mono ?_
      rintro e w1 ⟨rfl, rfl⟩
      go_wp2_with fail
      refine (R2.out _).mono ?_
      rintro e w1 ⟨rfl, rfl⟩
      go_wp2_with fail
      refine (R1.out _).mono ?_
      rintro e w1 ⟨rfl, rfl⟩
      go_wp2_with fail
      refine (R2.out _).mono ?_
      rintro e w1 ⟨rfl, rfl⟩
      go_wp2_with fail
      refine (awake_calls _).mono ?_
      rintro e w7 ⟨rfl, rfl⟩
      go_wp2
      go_ret
      exact ⟨rfl, Below.refl _ _⟩
end Go.Proofs.Ytjcnnfpbodhbgaa
