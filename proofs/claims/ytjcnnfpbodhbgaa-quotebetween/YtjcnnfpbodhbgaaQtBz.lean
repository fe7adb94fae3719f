/- QuoteBetween for every bid and ask: its walk. -/
import Derived.Test.YtjcnnfpbodhbgaaQtBw
namespace Go.Proofs.Ytjcnnfpbodhbgaa
open Go.RowKit
set_option linter.unusedSimpArgs false
set_option linter.unusedVariables false

theorem sub_self_cases (x : Nat) : (floatBits .sub .f64 x x = none) ∨ (frung x < 9218868437227405312 ∧ floatBits .sub .f64 x x = some 0) := by
  rcases Nat.lt_trichotomy (frung x) 9218868437227405312 with h | h | h
  · exact .inr ⟨h, sub_self h⟩
  · exact .inl (sub_inf h)
  · exact .inl (sub_nan (by unfold fnan; simp; omega))

set_option maxHeartbeats 2000000 in
theorem quoteBetween_calls (a b : Nat) (w : World) :
    Calls Try.prog 4 #[.float .f64 a, .float .f64 b] w fun e w' => e = .returned (.bool true) ∧ Below w.heap.size w w' := by
  have H1 : Hid _ := fun wx => mid_calls a b wx
  rcases sub_self_cases a with ha | ⟨hai, ha⟩
  · generalize midR a b = m at *
    have h3 : ∀ t w, (binOp .sub t (.float .f64 a) (.float .f64 a)).run Try.prog w = .ok (.float .f64 (pickNan w a a)) w.drew := fun t w => run_float_none w .sub t a a (by simp) ha
    clear ha
    go_enter Try.func4, Try.ntmps4
    go_wp2_with fail
    refine (H1.out _).mono ?_
    rintro e w1 ⟨rfl, b1⟩
    go_wp2_with fail
    refine (none_calls _ _).mono ?_
    rintro e w2 ⟨rfl, rfl⟩
    rw [pickNan_nan]
    go_wp2_with fail
    refine (awake_calls _).mono ?_
    rintro e w3 ⟨rfl, rfl⟩
    go_wp2
    go_ret
    exact ⟨rfl, b1.drew⟩
  have h3 : ∀ t w, (binOp .sub t (.float .f64 a) (.float .f64 a)).run Try.prog w = .ok (.float .f64 0) w := fun t w => run_float_arith w .sub t .f64 a a 0 ha
  rcases sub_self_cases b with hb | ⟨hbi, hb⟩
  · generalize midR a b = m at *
    have h4 : ∀ t w, (binOp .sub t (.float .f64 b) (.float .f64 b)).run Try.prog w = .ok (.float .f64 (pickNan w b b)) w.drew := fun t w => run_float_none w .sub t b b (by simp) hb
    clear ha hb
    go_enter Try.func4, Try.ntmps4
    go_wp2_with fail
    refine (H1.out _).mono ?_
    rintro e w1 ⟨rfl, b1⟩
    go_wp2_with fail
    refine (none_calls _ _).mono ?_
    rintro e w2 ⟨rfl, rfl⟩
    rw [show fnan 0 = false by decide]
    go_wp2_with fail
    refine (none_calls _ _).mono ?_
    rintro e w2 ⟨rfl, rfl⟩
    rw [pickNan_nan]
    go_wp2_with fail
    refine (awake_calls _).mono ?_
    rintro e w3 ⟨rfl, rfl⟩
    go_wp2
    go_ret
    exact ⟨rfl, b1.drew⟩
  have h4 : ∀ t w, (binOp .sub t (.float .f64 b) (.float .f64 b)).run Try.prog w = .ok (.float .f64 0) w := fun t w => run_float_arith w .sub t .f64 b b 0 hb
  have na : fnan a = false := by unfold fnan; simp; omega
  have nb : fnan b = false := by unfold fnan; simp; omega
  have hmb := fun h1 h2 h3 h4 => mid_between (a := a) (b := b) (lo := h1) (hi := h2) h3 hai h4 hbi
  have s1 := small_not na
  have s2 := small_not nb
  generalize midR a b = m at *
  have hsw : flt b a = false → srung a ≤ srung b := by intro h; unfold flt at h; rw [na, nb] at h; simpa using h
  have hsw2 : flt b a = true → srung b ≤ srung a := by intro h; unfold flt at h; rw [na, nb] at h; simp at h; omega
  have key : ∀ lo hi : Nat, fnan lo = false → fnan hi = false → fnan m = false ∧ srung lo ≤ srung m ∧ srung m ≤ srung hi → (flt lo m || feq m lo) = true ∧ (flt m hi || feq m hi) = true := by
    intro lo hi hl hh ⟨h1, h2, h3⟩
    unfold flt feq
    rw [hl, hh, h1]
    simp
    omega
  clear ha hb
  cases hs : flt b a
  · have hle := hsw hs
    have hM : (flt a 118622047889322841 && flt 9341994084744098649 a) = false → (flt b 118622047889322841 && flt 9341994084744098649 b) = false → Hid ((flt a m || feq m a) = true ∧ (flt m b || feq m b) = true) := fun h1 h2 => key a b na nb (hmb a b (s1 h1) (s2 h2) (.inl ⟨rfl, rfl⟩) hle)
    clear hsw hsw2 key hmb s1 s2
    cases c1 : flt b 118622047889322841 <;> cases c2 : flt 9341994084744098649 b <;> cases c3 : flt a 118622047889322841 <;> cases c4 : flt 9341994084744098649 a
    all_goals
      rw [c1, c2, c3, c4] at hM
      try (obtain ⟨k1, k2⟩ := (hM rfl rfl).out)
      clear hM
      go_enter Try.func4, Try.ntmps4
      go_wp2_with fail
      refine (H1.out _).mono ?_
      rintro e w1 ⟨rfl, b1⟩
      go_wp2_with fail
      refine (none_calls _ _).mono ?_
      rintro e w2 ⟨rfl, rfl⟩
      rw [show fnan 0 = false by decide]
      go_wp2_with fail
      refine (none_calls _ _).mono ?_
      rintro e w2 ⟨rfl, rfl⟩
      rw [show fnan 0 = false by decide]
      go_wp2_with fail
      refine (awake_calls _).mono ?_
      rintro e w3 ⟨rfl, rfl⟩
      go_wp2
      go_ret
      exact ⟨rfl, b1⟩
  · have hle := hsw2 hs
    have hM : (flt a 118622047889322841 && flt 9341994084744098649 a) = false → (flt b 118622047889322841 && flt 9341994084744098649 b) = false → Hid ((flt b m || feq m b) = true ∧ (flt m a || feq m a) = true) := fun h1 h2 => key b a nb na (hmb b a (s1 h1) (s2 h2) (.inr ⟨rfl, rfl⟩) hle)
    clear hsw hsw2 key hmb s1 s2
    cases c1 : flt b 118622047889322841 <;> cases c2 : flt 9341994084744098649 b <;> cases c3 : flt a 118622047889322841 <;> cases c4 : flt 9341994084744098649 a
    all_goals
      rw [c1, c2, c3, c4] at hM
      try (obtain ⟨k1, k2⟩ := (hM rfl rfl).out)
      clear hM
      go_enter Try.func4, Try.ntmps4
      go_wp2_with fail
      refine (H1.out _).mono ?_
      rintro e w1 ⟨rfl, b1⟩
      go_wp2_with fail
      refine (none_calls _ _).mono ?_
      rintro e w2 ⟨rfl, rfl⟩
      rw [show fnan 0 = false by decide]
      go_wp2_with fail
      refine (none_calls _ _).mono ?_
      rintro e w2 ⟨rfl, rfl⟩
      rw [show fnan 0 = false by decide]
      go_wp2_with fail
      refine (awake_calls _).mono ?_
      rintro e w3 ⟨rfl, rfl⟩
      go_wp2
      go_ret
      exact ⟨rfl, b1⟩
end Go.Proofs.Ytjcnnfpbodhbgaa
