/- The leaves of layer 1: what is within a bound, giving up, the reader's next byte. -/
import Derived.Test.YtlhfdgeknpmdfaaBase
import Derived.Test.YtlhfdgeknpmdfaaRows
import Derived.Handy
import Derived.WalkLawsBesides
import Derived.Deep.QuietTactic
import Derived.BigQuiet
namespace Go.Proofs.Ytlhfdgeknpmdfaa
open Go.RowKit
set_option linter.unusedSimpArgs false
set_option linter.unusedVariables false

def gu (e : Int) : List PanicEntry := [{ v := .iface 120 (.agg #[.int .i64 e]), recovered := false }]

theorem within_calls (n m : Int) (w : World) :
    Calls Try.prog 71 #[.int .i64 n, .int .i64 m] w fun e w' => e = .returned (.bool (decide (0 ≤ n ∧ n ≤ m))) ∧ w' = w := by
  by_cases h0 : 0 ≤ n
  · go_enter Try.func71, Try.ntmps71
    go_wp2
    go_ret
    exact ⟨by simp [h0], rfl⟩
  · have h1 : decide (0 ≤ n) = false := by simpa using h0
    go_enter Try.func71, Try.ntmps71
    go_wp2
    go_ret
    exact ⟨by simp, rfl⟩

theorem giveUp_calls (e0 : Int) (w : World) :
    Calls Try.prog 83 #[.int .i64 e0] w fun e w' => e = .panicked (gu e0) ∧ w' = w := by
  go_enter Try.func83, Try.ntmps83
  go_wp2
  exact ⟨rfl, rfl, rfl⟩

theorem next_ok (b : Nat) (s : ByteArray) (a : Nat) (w : World) (hr : Rdr w b s a) (hs : s.size ≤ maxLen) (ha : a < s.size) :
    Calls Try.prog 84 #[.pointer (some ⟨b, 0, none⟩)] w fun e w' => e = .returned (.int .u8 s[a].toNat) ∧ Off b w w' ∧ Rdr w' b s ((a + 1 : Nat) : Int) := by
  unfold maxLen at hs
  obtain ⟨h1, h2, h3, h4⟩ := id hr
  have hd : decide (s.size ≤ a) = false := by simpa using ha
  go_enter Try.func84, Try.ntmps84
  go_wp2
  go_region
  go_wp2
  go_region
  go_wp2
  go_ret
  exact ⟨rfl, ((Off.refl b w).setCell (p := ⟨b, 1, none⟩) rfl _).drew.drew, (hr.set _).drew.drew⟩

theorem next_short (b : Nat) (s : ByteArray) (a : Nat) (w : World) (hr : Rdr w b s a) (ha : ¬ a < s.size) :
    Calls Try.prog 84 #[.pointer (some ⟨b, 0, none⟩)] w fun e w' => e = .panicked (gu 10) ∧ Off b w w' := by
  obtain ⟨h1, h2, h3, h4⟩ := hr
  have hd : decide (s.size ≤ a) = true := by simpa using ha
  go_enter Try.func84, Try.ntmps84
  go_wp2
  go_region
  go_wp2
  exact ⟨rfl, rfl, rfl, Off.drew (Off.refl _ _)⟩
end Go.Proofs.Ytlhfdgeknpmdfaa
