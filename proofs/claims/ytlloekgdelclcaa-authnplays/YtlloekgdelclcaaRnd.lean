/- round: a number below another one. -/
import Derived.Test.YtlloekgdelclcaaAuX
namespace Go.Proofs.Ytlloekgdelclcaa
open Go.RowKit
set_option linter.unusedSimpArgs false
set_option linter.unusedVariables false

/-- A number below another one. -/
def rnd (n m : Int) : Int := if Int.tmod n m < 0 then -Int.tmod n m else Int.tmod n m
theorem rnd_bounds (n m : Int) (hm : 0 < m) (hm2 : m < 1000000) : 0 ≤ rnd n m ∧ rnd n m < m := by
  unfold rnd
  have h1 := Int.tmod_lt_of_pos n hm
  have h2 := Int.lt_tmod_of_pos n hm
  split <;> omega
theorem round_calls (n m : Int) (w : World) (hm : 0 < m) (hm2 : m < 1000000) : Calls Try.prog 8 #[.int .i64 n, .int .i64 m] w fun e w' => e = .returned (.int .i64 (rnd n m)) ∧ w' = w := by
  have h1 := Int.tmod_lt_of_pos n hm
  have h2 := Int.lt_tmod_of_pos n hm
  unfold rnd
  have hz : ¬ m = 0 := by omega
  by_cases h : Int.tmod n m < 0
  · have hd : decide (Int.tmod n m < 0) = true := decide_eq_true h
    rw [if_pos h]
    go_enter Try.func8, Try.ntmps8
    go_wp2
    go_ret
    exact ⟨rfl, rfl⟩
  · have hd : decide (Int.tmod n m < 0) = false := decide_eq_false h
    rw [if_neg h]
    go_enter Try.func8, Try.ntmps8
    go_wp2
    go_ret
    exact ⟨rfl, rfl⟩
end Go.Proofs.Ytlloekgdelclcaa
