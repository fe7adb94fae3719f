/- The order of floats: Less, Below and Rank; QuoteOrder for every three floats. -/
import Derived.Test.YtoblekdjncikaaaQtAw
namespace Go.Proofs.Ytoblekdjncikaaa
open Go.RowKit
set_option linter.unusedSimpArgs false
set_option linter.unusedVariables false

theorem rank_rung {x : Nat} (hx : x < 18446744073709551616) : rankR x = if fnan x then 18446744073709551615 else if fneg x then 9223372036854775808 - 1 - frung x else 9223372036854775808 + frung x := by
  have h := fword_self hx
  have hr := frung_lt x
  unfold rankR
  cases fnan x
  · unfold fword at h
    cases hs : fneg x <;> simp [hs] at h ⊢ <;> omega
  · rfl
def belowR (a b : Nat) : Bool := if fnan a then false else if fnan b then true else if feq a 0 && feq b 0 then a != 0 && b == 0 else flt a b
theorem below_less {a b : Nat} (ha : a < 18446744073709551616) (hb : b < 18446744073709551616) : lessR a b = belowR a b := by
  have h0 : fnan 0 = false := by decide
  have s0 : srung 0 = 0 := by decide
  have ra := frung_lt a
  have rb := frung_lt b
  have wa := fword_self ha
  have wb := fword_self hb
  unfold lessR belowR
  rw [rank_rung ha, rank_rung hb]
  cases hna : fnan a
  · cases hnb : fnan b
    · unfold feq flt
      rw [hna, hnb, h0, s0]
      unfold fnan at hna hnb
      simp at hna hnb
      unfold srung fsgn
      unfold fword at wa wb
      cases hsa : fneg a <;> cases hsb : fneg b
      all_goals
        simp only [hsa, hsb, Bool.false_eq_true, if_false, if_true] at wa wb ⊢
        rw [Bool.eq_iff_iff]
        simp only [Bool.not_false, Bool.true_and, Bool.and_eq_true, decide_eq_true_eq, bne_iff_ne, beq_iff_eq]
        split <;> simp <;> omega
    · unfold fnan at hna hnb
      simp at hna hnb
      cases fneg a <;> simp <;> omega
  · cases hnb : fnan b
    · unfold fnan at hna hnb
      simp at hna hnb
      cases fneg b <;> simp <;> omega
    · simp
theorem below_calls (a b : Nat) (w : World) : Calls Try.prog 28 #[.float .f64 a, .float .f64 b] w fun e w' => e = .returned (.bool (belowR a b)) ∧ w' = w := by
  have h1 := run_f64bits a
  have h2 := run_f64bits b
  have e1 : ((a : Int) != 0) = (a != 0) := by rw [Bool.eq_iff_iff]; simp
  have e2 : ((b : Int) == 0) = (b == 0) := by rw [Bool.eq_iff_iff]; simp
  cases ha : fnan a
  rotate_left
  · go_enter Try.func28, Try.ntmps28
    go_wp2_with fail
    refine (none_calls a _).mono ?_
    rintro e w1 ⟨rfl, rfl⟩
    rw [ha]
    go_wp2
    go_ret
    exact ⟨by simp [belowR, ha], rfl⟩
  cases hb : fnan b
  rotate_left
  · go_enter Try.func28, Try.ntmps28
    go_wp2_with fail
    refine (none_calls a _).mono ?_
    rintro e w1 ⟨rfl, rfl⟩
    rw [ha]
    go_wp2_with fail
    refine (none_calls b _).mono ?_
    rintro e w1 ⟨rfl, rfl⟩
    rw [hb]
    go_wp2
    go_ret
    exact ⟨by simp [belowR, ha, hb], rfl⟩
  cases h3 : feq a 0 <;> cases h4 : feq b 0 <;> cases h5 : (a != 0)
  all_goals
    go_enter Try.func28, Try.ntmps28
    go_wp2_with fail
    refine (none_calls a _).mono ?_
    rintro e w1 ⟨rfl, rfl⟩
    rw [ha]
    go_wp2_with fail
    refine (none_calls b _).mono ?_
    rintro e w1 ⟨rfl, rfl⟩
    rw [hb]
    go_wp2
    go_ret
    exact ⟨by simp [belowR, ha, hb, h3, h4, h5], rfl⟩

theorem rank_same {a b : Nat} (ha : a < 18446744073709551616) (hb : b < 18446744073709551616) : (decide (a = b) || (fnan a && fnan b)) = decide (rankR a = rankR b) := by
  have ra := frung_lt a
  have rb := frung_lt b
  have wa := fword_self ha
  have wb := fword_self hb
  rw [rank_rung ha, rank_rung hb]
  cases hna : fnan a
  · cases hnb : fnan b
    · unfold fnan at hna hnb
      simp at hna hnb
      unfold fword at wa wb
      cases hsa : fneg a <;> cases hsb : fneg b
      all_goals
        simp only [hsa, hsb, Bool.false_eq_true, if_false, if_true] at wa wb ⊢
        rw [Bool.eq_iff_iff]
        simp
        omega
    · have : a ≠ b := by rintro rfl; rw [hna] at hnb; cases hnb
      unfold fnan at hna hnb
      simp at hna hnb
      cases fneg a <;> simp [this] <;> omega
  · cases hnb : fnan b
    · have : a ≠ b := by rintro rfl; rw [hna] at hnb; cases hnb
      unfold fnan at hna hnb
      simp at hna hnb
      cases fneg b <;> simp [this] <;> omega
    · simp
end Go.Proofs.Ytoblekdjncikaaa
