/- Where leaves part: the greatest power of two below a number, by its bits. -/
import Derived.Test.YtlnlagmobgkblaaGreatMkP
import Derived.Test.YtlnlagmobgkblaaGreatRows
import Derived.Lib.Strings
import Derived.Lib.Slices
import Derived.Lib.Small
import Derived.Lib.Walk
import Derived.Lib.BitFns
namespace Go.Proofs.YtlnlagmobgkblaaGreat
open Go.RowKit
set_option linter.unusedSimpArgs false
set_option linter.unusedVariables false

theorem tab_at (k : Nat) (h : k < Lib.len8tab.size) : ((Lib.len8tab[k]).toNat : Int) = (Lib.bitLen k : Int) ∧ Lib.bitLen k ≤ 8 := by
  have h2 : k < 256 := by rw [Lib.len8tab_size] at h; exact h
  have e := Lib.len8_eq ⟨k, h2⟩
  refine ⟨?_, Lib.bitLen_le8 ⟨k, h2⟩⟩
  rw [← e]
  unfold Lib.len8
  simp [h]

set_option maxHeartbeats 4000000 in
set_option maxRecDepth 100000 in
theorem len64_small (n : Nat) (w : World) (h : 1 ≤ n) (h2 : n ≤ 65535) : Calls Tryz.prog 84 #[.int .u64 n] w fun e w' => e = .returned (.int .i64 (Lib.bitLen n)) ∧ w' = w := by
  have d1 : decide ((4294967296 : Int) ≤ (n : Int)) = false := by simp only [decide_eq_false_iff_not]; omega
  have d2 : decide ((65536 : Int) ≤ (n : Int)) = false := by simp only [decide_eq_false_iff_not]; omega
  by_cases h3 : 256 ≤ n
  · have d3 : decide ((256 : Int) ≤ (n : Int)) = true := by simp only [decide_eq_true_eq]; omega
    have hs := Lib.bitLen_shift8 n h3 (by omega)
    obtain ⟨t1, t2⟩ := tab_at (n / 256) (by rw [Lib.len8tab_size]; omega)
    go_enter Tryz.func84, Tryz.ntmps84
    go_wp2
    · go_ret
      refine ⟨?_, rfl⟩
      show Ending.returned (Value.int _ _) = _
      rw [hs]
      rfl
    · rename_i hh
      exact absurd (by rw [Lib.len8tab_size]; omega) hh
  · have d3 : decide ((256 : Int) ≤ (n : Int)) = false := by simp only [decide_eq_false_iff_not]; omega
    obtain ⟨t1, t2⟩ := tab_at n (by rw [Lib.len8tab_size]; omega)
    go_enter Tryz.func84, Tryz.ntmps84
    go_wp2
    · go_ret
      refine ⟨?_, rfl⟩
      show Ending.returned (Value.int _ _) = _
      rfl
    · rename_i hh
      exact absurd (by rw [Lib.len8tab_size]; omega) hh

theorem len_small (n : Nat) (w : World) (h : 1 ≤ n) (h2 : n ≤ 65535) : Calls Tryz.prog 70 #[.int .u64 n] w fun e w' => e = .returned (.int .i64 (Lib.bitLen n)) ∧ w' = w := by
  go_enter Tryz.func70, Tryz.ntmps70
  go_wp2_with fail
  refine (len64_small n _ h h2).mono ?_
  rintro e w1 ⟨rfl, rfl⟩
  go_wp2
  go_ret
  exact ⟨rfl, rfl⟩

set_option maxHeartbeats 1000000 in
set_option maxRecDepth 100000 in
theorem split_calls (n : Nat) (w : World) (h : 2 ≤ n) (h2 : n ≤ 65536) : Calls Tryz.prog 58 #[.int .i64 n] w fun e w' => e = .returned (.int .i64 (hf n)) ∧ w' = w := by
  have hl := len_small (n - 1) w (by omega) (by omega)
  have hb := bitLen_log (x := n - 1) (by omega) (by omega)
  have hb2 := hf_bounds h
  rw [hb] at hl
  have e1 : ((n - 1 : Nat) : Int) = (n : Int) - 1 := by omega
  rw [e1] at hl
  have hk : Nat.log2 (n - 1) < 17 := (Nat.log2_lt (by omega)).2 (by omega)
  unfold hf at *
  generalize Nat.log2 (n - 1) = K at *
  go_enter Tryz.func58, Tryz.ntmps58
  go_wp2_with fail
  refine hl.mono ?_
  rintro e w1 ⟨rfl, rfl⟩
  go_wp2
  go_ret
  refine ⟨?_, rfl⟩
  show Ending.returned (Value.int _ _) = _
  congr 2
  have e2 : ((2 ^ K : Nat) : Int) = (2 : Int) ^ K := by push_cast; rfl
  generalize (2 : Int) ^ K = Z at *
  unfold wrap64
  omega
end Go.Proofs.YtlnlagmobgkblaaGreat
