/- Arrays of four numbers, and accounts: whether they are the same. -/
import Derived.Test.YtkgkflgopiabiaaLgN
import Derived.ChangeKeysEq
namespace Go.Proofs.Ytkgkflgopiabiaa
open Go.RowKit
set_option linter.unusedSimpArgs false
set_option linter.unusedVariables false

def arr4 (a b c d : Int) : Array Value := #[.int .i64 a, .int .i64 b, .int .i64 c, .int .i64 d]
theorem eq4 (w : World) (k : Nat) (a b c d a' b' c' d' : Int) : (Op.equalIn (k + 2) 41 (.agg (arr4 a b c d)) (.agg (arr4 a' b' c' d'))).run Try.prog w = .ok (a == a' && (b == b' && (c == c' && d == d'))) w := by
  have hc : Try.prog.cellsOf 3 = 1 := by kernel_rfl
  obtain ⟨i, hi⟩ : ∃ i, Try.prog.info? 3 = some i := Option.isSome_iff_exists.1 (by kernel_rfl)
  have h1 := run_equalIn_array w (k + 1) (arr4 a b c d) (arr4 a' b' c' d') Try.underlying41 hi
  rw [h1, hc, show List.range 4 = [0, 1, 2, 3] from rfl]
  have p0 : ∀ a b c d, (part 3 (arr4 a b c d) 0).run Try.prog w = .ok (.int .i64 a) w := fun _ _ _ _ => by kernel_rfl
  have p1 : ∀ a b c d, (part 3 (arr4 a b c d) 1).run Try.prog w = .ok (.int .i64 b) w := fun _ _ _ _ => by kernel_rfl
  have p2 : ∀ a b c d, (part 3 (arr4 a b c d) 2).run Try.prog w = .ok (.int .i64 c) w := fun _ _ _ _ => by kernel_rfl
  have p3 : ∀ a b c d, (part 3 (arr4 a b c d) 3).run Try.prog w = .ok (.int .i64 d) w := fun _ _ _ _ => by kernel_rfl
  have hq : ∀ x y : Int, (Op.equalIn (k + 1) 3 (.int .i64 x) (.int .i64 y)).run Try.prog w = .ok (x == y) w := fun x y => run_equalIn_int w k 3 .i64 .i64 x y Try.underlying3
  cases h0 : (a == a') <;> cases h1 : (b == b') <;> cases h2 : (c == c') <;> cases h3 : (d == d') <;> simp [Op.eqItems, p0, p1, p2, p3, hq, h0, h1, h2, h3]
theorem eq4l (w : World) (a b c d a' b' c' d' : Int) : (Op.equalIn 10000 41 (.agg #[.int .i64 a, .int .i64 b, .int .i64 c, .int .i64 d]) (.agg #[.int .i64 a', .int .i64 b', .int .i64 c', .int .i64 d'])).run Try.prog w = .ok (a == a' && (b == b' && (c == c' && d == d'))) w := eq4 w 9998 a b c d a' b' c' d'
attribute [go_sem] eq4l
end Go.Proofs.Ytkgkflgopiabiaa
