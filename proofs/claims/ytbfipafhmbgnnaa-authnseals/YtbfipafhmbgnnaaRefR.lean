/- The document's answer: Right, and that it is the program's. -/
import Derived.Test.YtbfipafhmbgnnaaRefA
namespace Go.Proofs.Ytbfipafhmbgnnaa
open Go.RowKit
set_option linter.unusedVariables false
set_option linter.unusedSimpArgs false

/-- Every field lies within its bounds. -/
structure Rg (b : Bd) : Prop where
  v0 : ¬ b.view < 0
  v1 : ¬ 1048576 < b.view
  s0 : ¬ b.seq < 0
  s1 : ¬ 1073741824 < b.seq
  c0 : ¬ b.client < 0
  c1 : ¬ 15 < b.client
  t0 : ¬ b.stamp < 0
  t1 : ¬ 1099511627776 < b.stamp
  d : ¬ (32 : Int) < (b.digest.size : Int)
  x : ¬ (1048576 : Int) < (b.text.size : Int)
  l : ¬ (64 : Int) < (b.list.length : Int)
  a : b.list.all sgOk = true

theorem right_bad {b : Bd} (hk : 1 ≤ b.kind ∧ b.kind ≤ 13) (h : ¬ Rg b) : right b = 14 := by
  by_cases h0 : right b = 0
  · obtain ⟨_, hv, hsq, hc, hst, hdg, htx, hll, hal⟩ := right_ok h0
    exact absurd ⟨by omega, by omega, by omega, by omega, by omega, by omega, by omega, by omega, by omega, by omega, by omega, hal⟩ h
  · unfold right at h0 ⊢
    cases hs : shape b.kind with
    | none =>
      exfalso
      obtain ⟨n, hn⟩ := Int.eq_ofNat_of_zero_le (show 0 ≤ b.kind by omega)
      rw [hn] at hs hk
      have hn : n = 1 ∨ n = 2 ∨ n = 3 ∨ n = 4 ∨ n = 5 ∨ n = 6 ∨ n = 7 ∨ n = 8 ∨ n = 9 ∨ n = 10 ∨ n = 11 ∨ n = 12 ∨ n = 13 := by omega
      rcases hn with rfl | rfl | rfl | rfl | rfl | rfl | rfl | rfl | rfl | rfl | rfl | rfl | rfl <;> simp [shape, shapeN] at hs
    | some s =>
      rw [hs] at h0
      simp only at h0 ⊢
      split
      · rfl
      · rename_i hb; rw [if_neg hb] at h0; exact absurd rfl h0

theorem bits_1 (b : Bd) : badBits b ⟨44, 8, 15, 1, 256, 64⟩ = !allowedB b ⟨#[67, 84, 88]⟩ ⟨#[84]⟩ := by
  unfold badBits allowedB okAt flds isL
  generalize (b.view != 0) = x0
  generalize (b.seq != 0) = x1
  generalize (b.client != 0) = x2
  generalize (b.stamp != 0) = x3
  generalize (!b.digest.toList.isEmpty) = x4
  generalize (!b.text.toList.isEmpty) = x5
  generalize decide (0 < b.list.length) = x6
  revert x0 x1 x2 x3 x4 x5 x6
  decide +kernel

theorem bits_2 (b : Bd) : badBits b ⟨67, 2, 15, 1, 1048576, 4⟩ = !allowedB b ⟨#[86, 83, 76]⟩ ⟨#[83]⟩ := by
  unfold badBits allowedB okAt flds isL
  generalize (b.view != 0) = x0
  generalize (b.seq != 0) = x1
  generalize (b.client != 0) = x2
  generalize (b.stamp != 0) = x3
  generalize (!b.digest.toList.isEmpty) = x4
  generalize (!b.text.toList.isEmpty) = x5
  generalize decide (0 < b.list.length) = x6
  revert x0 x1 x2 x3 x4 x5 x6
  decide +kernel

theorem bits_3 (b : Bd) : badBits b ⟨19, 18, 15, 1, 1048576, 64⟩ = !allowedB b ⟨#[86, 83, 68]⟩ ⟨#[83, 68]⟩ := by
  unfold badBits allowedB okAt flds isL
  generalize (b.view != 0) = x0
  generalize (b.seq != 0) = x1
  generalize (b.client != 0) = x2
  generalize (b.stamp != 0) = x3
  generalize (!b.digest.toList.isEmpty) = x4
  generalize (!b.text.toList.isEmpty) = x5
  generalize decide (0 < b.list.length) = x6
  revert x0 x1 x2 x3 x4 x5 x6
  decide +kernel

theorem bits_4 (b : Bd) : badBits b ⟨19, 18, 15, 1, 1048576, 64⟩ = !allowedB b ⟨#[86, 83, 68]⟩ ⟨#[83, 68]⟩ := by
  unfold badBits allowedB okAt flds isL
  generalize (b.view != 0) = x0
  generalize (b.seq != 0) = x1
  generalize (b.client != 0) = x2
  generalize (b.stamp != 0) = x3
  generalize (!b.digest.toList.isEmpty) = x4
  generalize (!b.text.toList.isEmpty) = x5
  generalize decide (0 < b.list.length) = x6
  revert x0 x1 x2 x3 x4 x5 x6
  decide +kernel

theorem bits_5 (b : Bd) : badBits b ⟨18, 18, 15, 4, 1048576, 64⟩ = !allowedB b ⟨#[83, 68]⟩ ⟨#[83, 68]⟩ := by
  unfold badBits allowedB okAt flds isL
  generalize (b.view != 0) = x0
  generalize (b.seq != 0) = x1
  generalize (b.client != 0) = x2
  generalize (b.stamp != 0) = x3
  generalize (!b.digest.toList.isEmpty) = x4
  generalize (!b.text.toList.isEmpty) = x5
  generalize decide (0 < b.list.length) = x6
  revert x0 x1 x2 x3 x4 x5 x6
  decide +kernel

theorem bits_6 (b : Bd) : badBits b ⟨67, 1, 15, 4, 1048576, 64⟩ = !allowedB b ⟨#[86, 83, 76]⟩ ⟨#[86]⟩ := by
  unfold badBits allowedB okAt flds isL
  generalize (b.view != 0) = x0
  generalize (b.seq != 0) = x1
  generalize (b.client != 0) = x2
  generalize (b.stamp != 0) = x3
  generalize (!b.digest.toList.isEmpty) = x4
  generalize (!b.text.toList.isEmpty) = x5
  generalize decide (0 < b.list.length) = x6
  revert x0 x1 x2 x3 x4 x5 x6
  decide +kernel

theorem bits_7 (b : Bd) : badBits b ⟨65, 65, 15, 1, 1048576, 64⟩ = !allowedB b ⟨#[86, 76]⟩ ⟨#[86, 76]⟩ := by
  unfold badBits allowedB okAt flds isL
  generalize (b.view != 0) = x0
  generalize (b.seq != 0) = x1
  generalize (b.client != 0) = x2
  generalize (b.stamp != 0) = x3
  generalize (!b.digest.toList.isEmpty) = x4
  generalize (!b.text.toList.isEmpty) = x5
  generalize decide (0 < b.list.length) = x6
  revert x0 x1 x2 x3 x4 x5 x6
  decide +kernel

theorem bits_8 (b : Bd) : badBits b ⟨15, 0, 1, 1, 1048576, 64⟩ = !allowedB b ⟨#[86, 83, 67, 84]⟩ ⟨#[]⟩ := by
  unfold badBits allowedB okAt flds isL
  generalize (b.view != 0) = x0
  generalize (b.seq != 0) = x1
  generalize (b.client != 0) = x2
  generalize (b.stamp != 0) = x3
  generalize (!b.digest.toList.isEmpty) = x4
  generalize (!b.text.toList.isEmpty) = x5
  generalize decide (0 < b.list.length) = x6
  revert x0 x1 x2 x3 x4 x5 x6
  decide +kernel

theorem bits_9 (b : Bd) : badBits b ⟨114, 82, 15, 4, 1048576, 64⟩ = !allowedB b ⟨#[83, 68, 88, 76]⟩ ⟨#[83, 68, 76]⟩ := by
  unfold badBits allowedB okAt flds isL
  generalize (b.view != 0) = x0
  generalize (b.seq != 0) = x1
  generalize (b.client != 0) = x2
  generalize (b.stamp != 0) = x3
  generalize (!b.digest.toList.isEmpty) = x4
  generalize (!b.text.toList.isEmpty) = x5
  generalize decide (0 < b.list.length) = x6
  revert x0 x1 x2 x3 x4 x5 x6
  decide +kernel

theorem bits_10 (b : Bd) : badBits b ⟨45, 8, 15, 1, 256, 64⟩ = !allowedB b ⟨#[86, 67, 84, 88]⟩ ⟨#[84]⟩ := by
  unfold badBits allowedB okAt flds isL
  generalize (b.view != 0) = x0
  generalize (b.seq != 0) = x1
  generalize (b.client != 0) = x2
  generalize (b.stamp != 0) = x3
  generalize (!b.digest.toList.isEmpty) = x4
  generalize (!b.text.toList.isEmpty) = x5
  generalize decide (0 < b.list.length) = x6
  revert x0 x1 x2 x3 x4 x5 x6
  decide +kernel

theorem bits_11 (b : Bd) : badBits b ⟨115, 82, 15, 1, 1048576, 64⟩ = !allowedB b ⟨#[86, 83, 68, 88, 76]⟩ ⟨#[83, 68, 76]⟩ := by
  unfold badBits allowedB okAt flds isL
  generalize (b.view != 0) = x0
  generalize (b.seq != 0) = x1
  generalize (b.client != 0) = x2
  generalize (b.stamp != 0) = x3
  generalize (!b.digest.toList.isEmpty) = x4
  generalize (!b.text.toList.isEmpty) = x5
  generalize decide (0 < b.list.length) = x6
  revert x0 x1 x2 x3 x4 x5 x6
  decide +kernel

theorem bits_12 (b : Bd) : badBits b ⟨36, 0, 15, 1, 64, 64⟩ = !allowedB b ⟨#[67, 88]⟩ ⟨#[]⟩ := by
  unfold badBits allowedB okAt flds isL
  generalize (b.view != 0) = x0
  generalize (b.seq != 0) = x1
  generalize (b.client != 0) = x2
  generalize (b.stamp != 0) = x3
  generalize (!b.digest.toList.isEmpty) = x4
  generalize (!b.text.toList.isEmpty) = x5
  generalize decide (0 < b.list.length) = x6
  revert x0 x1 x2 x3 x4 x5 x6
  decide +kernel

theorem bits_13 (b : Bd) : badBits b ⟨114, 82, 15, 4, 1048576, 64⟩ = !allowedB b ⟨#[83, 68, 88, 76]⟩ ⟨#[83, 68, 76]⟩ := by
  unfold badBits allowedB okAt flds isL
  generalize (b.view != 0) = x0
  generalize (b.seq != 0) = x1
  generalize (b.client != 0) = x2
  generalize (b.stamp != 0) = x3
  generalize (!b.digest.toList.isEmpty) = x4
  generalize (!b.text.toList.isEmpty) = x5
  generalize decide (0 < b.list.length) = x6
  revert x0 x1 x2 x3 x4 x5 x6
  decide +kernel

end Go.Proofs.Ytbfipafhmbgnnaa
