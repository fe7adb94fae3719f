/- awake: the chapter's examples hold. -/
import Derived.Test.YtoblekdjncikaaaQtPr
import Derived.Test.YtoblekdjncikaaaQtRk
namespace Go.Proofs.Ytoblekdjncikaaa
open Go.RowKit
set_option linter.unusedSimpArgs false
set_option linter.unusedVariables false

theorem copysign_calls (w : World) : Calls Try.prog 20 #[.float .f64 0, .float .f64 13830554455654793216] w fun e w' => e = .returned (.float .f64 9223372036854775808) ∧ w' = w := by
  have h1 := run_f64bits 0
  have h2 := run_f64bits 13830554455654793216
  have h3 := run_f64from
  go_enter Try.func20, Try.ntmps20
  go_wp2

  go_ret
  exact ⟨rfl, rfl⟩
theorem ex_ticks : ticksR 4609434218613702656 6 = (96, 0) := by decide +kernel
theorem ex_not : ticksR 4599075939470750515 6 = (0, 53) := by decide +kernel
theorem ex_price : priceR 96 6 = (4609434218613702656, 0) := by decide +kernel
theorem ex_less : lessR 9223372036854775808 0 = true := by decide +kernel
theorem awake_calls (w : World) : Calls Try.prog 7 #[] w fun e w' => e = .returned (.bool true) ∧ w' = w := by
  have h1 := fun wx => ticks_calls 4609434218613702656 6 wx (by decide)
  have h2 := fun wx => ticks_calls 4599075939470750515 6 wx (by decide)
  have h3 := fun wx => price_calls 96 6 wx
  have h4 := fun wx => less_calls 9223372036854775808 0 wx (by decide) (by decide)
  rw [ex_ticks] at h1
  rw [ex_not] at h2
  rw [ex_price] at h3
  rw [ex_less] at h4
  have h5 : feq 4609434218613702656 4609434218613702656 = true := by decide
  have H1 : Hid _ := h1
  have H2 : Hid _ := h2
  have H3 : Hid _ := h3
  have H4 : Hid _ := h4
  clear h1 h2 h3 h4
  go_enter Try.func7, Try.ntmps7
  go_wp2_with fail
  refine (H1.out _).mono ?_
  rintro e w1 ⟨rfl, rfl⟩
  go_wp2_with fail
  refine (H2.out _).mono ?_
  rintro e w1 ⟨rfl, rfl⟩
  go_wp2_with fail
  refine (H3.out _).mono ?_
  rintro e w1 ⟨rfl, rfl⟩
  go_wp2_with fail
  refine (copysign_calls _).mono ?_
  rintro e w1 ⟨rfl, rfl⟩
  go_wp2_with fail
  refine (H4.out _).mono ?_
  rintro e w1 ⟨rfl, rfl⟩
  go_wp2
  go_ret
  exact ⟨rfl, rfl⟩
end Go.Proofs.Ytoblekdjncikaaa
