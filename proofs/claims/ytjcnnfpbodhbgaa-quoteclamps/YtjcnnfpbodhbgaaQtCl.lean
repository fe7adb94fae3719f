/- Clamp, of the program and of the document; QuoteClamps for every float and bounds. -/
import Derived.Test.YtjcnnfpbodhbgaaQtOd
import Derived.Test.YtjcnnfpbodhbgaaQtMd
namespace Go.Proofs.Ytjcnnfpbodhbgaa
open Go.RowKit
set_option linter.unusedSimpArgs false
set_option linter.unusedVariables false

def clampR (x lo hi : Nat) : Nat × Int :=
  if fnan lo || fnan hi || lessR hi lo then (0, 1) else if fnan x then (9221120237041090561, 0) else if lessR x lo then (lo, 0) else if lessR hi x then (hi, 0) else (x, 0)

theorem clamp_calls (x lo hi : Nat) (w : World) (hx : x < 18446744073709551616) (hl : lo < 18446744073709551616) (hh : hi < 18446744073709551616) :
    Calls Try.prog 18 #[.float .f64 x, .float .f64 lo, .float .f64 hi] w fun e w' => e = .returned (.tuple #[.float .f64 (clampR x lo hi).1, .int .i64 (clampR x lo hi).2]) ∧ w' = w := by
  have L1 := fun wx => less_calls hi lo wx hh hl
  have L2 := fun wx => less_calls x lo wx hx hl
  have L3 := fun wx => less_calls hi x wx hh hx
  have H1 : Hid _ := L1
  have H2 : Hid _ := L2
  have H3 : Hid _ := L3
  clear L1 L2 L3
  generalize hR : clampR x lo hi = R at *
  have HR : Hid _ := hR
  clear hR
  unfold clampR at HR
  cases h1 : fnan lo
  rotate_left
  · go_enter Try.func18, Try.ntmps18
    go_wp2_with fail
    refine (isNaN_calls lo _).mono ?_
    rintro e w1 ⟨rfl, rfl⟩
    rw [h1]
    go_wp2
    go_ret2
    exact ⟨by rw [← HR.out]; simp [h1], rfl⟩
  cases h2 : fnan hi
  rotate_left
  · go_enter Try.func18, Try.ntmps18
    go_wp2_with fail
    refine (isNaN_calls lo _).mono ?_
    rintro e w1 ⟨rfl, rfl⟩
    rw [h1]
    go_wp2_with fail
    refine (isNaN_calls hi _).mono ?_
    rintro e w1 ⟨rfl, rfl⟩
    rw [h2]
    go_wp2
    go_ret2
    exact ⟨by rw [← HR.out]; simp [h1, h2], rfl⟩
  cases h3 : lessR hi lo
  rotate_left
  · rw [h3] at H1
    go_enter Try.func18, Try.ntmps18
    go_wp2_with fail
    refine (isNaN_calls lo _).mono ?_
    rintro e w1 ⟨rfl, rfl⟩
    rw [h1]
    go_wp2_with fail
    refine (isNaN_calls hi _).mono ?_
    rintro e w1 ⟨rfl, rfl⟩
    rw [h2]
    go_wp2_with fail
    refine (H1.out _).mono ?_
    rintro e w1 ⟨rfl, rfl⟩
    go_wp2
    go_ret2
    exact ⟨by rw [← HR.out]; simp [h1, h2, h3], rfl⟩
  rw [h3] at H1
  cases h4 : fnan x
  rotate_left
  · go_enter Try.func18, Try.ntmps18
    go_wp2_with fail
    refine (isNaN_calls lo _).mono ?_
    rintro e w1 ⟨rfl, rfl⟩
    rw [h1]
    go_wp2_with fail
    refine (isNaN_calls hi _).mono ?_
    rintro e w1 ⟨rfl, rfl⟩
    rw [h2]
    go_wp2_with fail
    refine (H1.out _).mono ?_
    rintro e w1 ⟨rfl, rfl⟩
    go_wp2_with fail
    refine (isNaN_calls x _).mono ?_
    rintro e w1 ⟨rfl, rfl⟩
    rw [h4]
    go_wp2_with fail
    refine (nan_calls _).mono ?_
    rintro e w1 ⟨rfl, rfl⟩
    go_wp2
    go_ret2
    exact ⟨by rw [← HR.out]; simp [h1, h2, h3, h4], rfl⟩
  cases h5 : lessR x lo
  rotate_left
  · rw [h5] at H2
    go_enter Try.func18, Try.ntmps18
    go_wp2_with fail
    refine (isNaN_calls lo _).mono ?_
    rintro e w1 ⟨rfl, rfl⟩
    rw [h1]
    go_wp2_with fail
    refine (isNaN_calls hi _).mono ?_
    rintro e w1 ⟨rfl, rfl⟩
    rw [h2]
    go_wp2_with fail
    refine (H1.out _).mono ?_
    rintro e w1 ⟨rfl, rfl⟩
    go_wp2_with fail
    refine (isNaN_calls x _).mono ?_
    rintro e w1 ⟨rfl, rfl⟩
    rw [h4]
    go_wp2_with fail
    refine (H2.out _).mono ?_
    rintro e w1 ⟨rfl, rfl⟩
    go_wp2
    go_ret2
    exact ⟨by rw [← HR.out]; simp [h1, h2, h3, h4, h5], rfl⟩
  rw [h5] at H2
  cases h6 : lessR hi x
  all_goals
    rw [h6] at H3
    go_enter Try.func18, Try.ntmps18
    go_wp2_with fail
    refine (isNaN_calls lo _).mono ?_
    rintro e w1 ⟨rfl, rfl⟩
    rw [h1]
    go_wp2_with fail
    refine (isNaN_calls hi _).mono ?_
    rintro e w1 ⟨rfl, rfl⟩
    rw [h2]
    go_wp2_with fail
    refine (H1.out _).mono ?_
    rintro e w1 ⟨rfl, rfl⟩
    go_wp2_with fail
    refine (isNaN_calls x _).mono ?_
    rintro e w1 ⟨rfl, rfl⟩
    rw [h4]
    go_wp2_with fail
    refine (H2.out _).mono ?_
    rintro e w1 ⟨rfl, rfl⟩
    go_wp2_with fail
    refine (H3.out _).mono ?_
    rintro e w1 ⟨rfl, rfl⟩
    go_wp2
    go_ret2
    exact ⟨by rw [← HR.out]; simp [h1, h2, h3, h4, h5, h6], rfl⟩

theorem refClamp_calls (x lo hi : Nat) (w : World) (hx : x < 18446744073709551616) (hl : lo < 18446744073709551616) (hh : hi < 18446744073709551616) :
    Calls Try.prog 19 #[.float .f64 x, .float .f64 lo, .float .f64 hi] w fun e w' => e = .returned (.tuple #[.float .f64 (clampR x lo hi).1, .int .i64 (clampR x lo hi).2]) ∧ w' = w := by
  have L1 := fun wx => below_calls hi lo wx
  have L2 := fun wx => below_calls x lo wx
  have L3 := fun wx => below_calls hi x wx
  rw [← below_less hh hl] at L1
  rw [← below_less hx hl] at L2
  rw [← below_less hh hx] at L3
  have H1 : Hid _ := L1
  have H2 : Hid _ := L2
  have H3 : Hid _ := L3
  clear L1 L2 L3
  generalize hR : clampR x lo hi = R at *
  have HR : Hid _ := hR
  clear hR
  unfold clampR at HR
  cases h1 : fnan lo
  rotate_left
  · go_enter Try.func19, Try.ntmps19
    go_wp2_with fail
    refine (none_calls lo _).mono ?_
    rintro e w1 ⟨rfl, rfl⟩
    rw [h1]
    go_wp2
    go_ret2
    exact ⟨by rw [← HR.out]; simp [h1], rfl⟩
  cases h2 : fnan hi
  rotate_left
  · go_enter Try.func19, Try.ntmps19
    go_wp2_with fail
    refine (none_calls lo _).mono ?_
    rintro e w1 ⟨rfl, rfl⟩
    rw [h1]
    go_wp2_with fail
    refine (none_calls hi _).mono ?_
    rintro e w1 ⟨rfl, rfl⟩
    rw [h2]
    go_wp2
    go_ret2
    exact ⟨by rw [← HR.out]; simp [h1, h2], rfl⟩
  cases h3 : lessR hi lo
  rotate_left
  · rw [h3] at H1
    go_enter Try.func19, Try.ntmps19
    go_wp2_with fail
    refine (none_calls lo _).mono ?_
    rintro e w1 ⟨rfl, rfl⟩
    rw [h1]
    go_wp2_with fail
    refine (none_calls hi _).mono ?_
    rintro e w1 ⟨rfl, rfl⟩
    rw [h2]
    go_wp2_with fail
    refine (H1.out _).mono ?_
    rintro e w1 ⟨rfl, rfl⟩
    go_wp2
    go_ret2
    exact ⟨by rw [← HR.out]; simp [h1, h2, h3], rfl⟩
  rw [h3] at H1
  cases h4 : fnan x
  rotate_left
  · go_enter Try.func19, Try.ntmps19
    go_wp2_with fail
    refine (none_calls lo _).mono ?_
    rintro e w1 ⟨rfl, rfl⟩
    rw [h1]
    go_wp2_with fail
    refine (none_calls hi _).mono ?_
    rintro e w1 ⟨rfl, rfl⟩
    rw [h2]
    go_wp2_with fail
    refine (H1.out _).mono ?_
    rintro e w1 ⟨rfl, rfl⟩
    go_wp2_with fail
    refine (none_calls x _).mono ?_
    rintro e w1 ⟨rfl, rfl⟩
    rw [h4]
    go_wp2_with fail
    refine (refNaN_calls _).mono ?_
    rintro e w1 ⟨rfl, rfl⟩
    go_wp2
    go_ret2
    exact ⟨by rw [← HR.out]; simp [h1, h2, h3, h4], rfl⟩
  cases h5 : lessR x lo
  rotate_left
  · rw [h5] at H2
    go_enter Try.func19, Try.ntmps19
    go_wp2_with fail
    refine (none_calls lo _).mono ?_
    rintro e w1 ⟨rfl, rfl⟩
    rw [h1]
    go_wp2_with fail
    refine (none_calls hi _).mono ?_
    rintro e w1 ⟨rfl, rfl⟩
    rw [h2]
    go_wp2_with fail
    refine (H1.out _).mono ?_
    rintro e w1 ⟨rfl, rfl⟩
    go_wp2_with fail
    refine (none_calls x _).mono ?_
    rintro e w1 ⟨rfl, rfl⟩
    rw [h4]
    go_wp2_with fail
    refine (H2.out _).mono ?_
    rintro e w1 ⟨rfl, rfl⟩
    go_wp2
    go_ret2
    exact ⟨by rw [← HR.out]; simp [h1, h2, h3, h4, h5], rfl⟩
  rw [h5] at H2
  cases h6 : lessR hi x
  all_goals
    rw [h6] at H3
    go_enter Try.func19, Try.ntmps19
    go_wp2_with fail
    refine (none_calls lo _).mono ?_
    rintro e w1 ⟨rfl, rfl⟩
    rw [h1]
    go_wp2_with fail
    refine (none_calls hi _).mono ?_
    rintro e w1 ⟨rfl, rfl⟩
    rw [h2]
    go_wp2_with fail
    refine (H1.out _).mono ?_
    rintro e w1 ⟨rfl, rfl⟩
    go_wp2_with fail
    refine (none_calls x _).mono ?_
    rintro e w1 ⟨rfl, rfl⟩
    rw [h4]
    go_wp2_with fail
    refine (H2.out _).mono ?_
    rintro e w1 ⟨rfl, rfl⟩
    go_wp2_with fail
    refine (H3.out _).mono ?_
    rintro e w1 ⟨rfl, rfl⟩
    go_wp2
    go_ret2
    exact ⟨by rw [← HR.out]; simp [h1, h2, h3, h4, h5, h6], rfl⟩

/-- Once more changes nothing; what is a number lies within the bounds. -/
theorem clamp_again {x lo hi a : Nat} (hx : x < 18446744073709551616) (hl : lo < 18446744073709551616) (hh : hi < 18446744073709551616) (h : clampR x lo hi = (a, 0)) :
    a < 18446744073709551616 ∧ clampR a lo hi = (a, 0) ∧ (fnan a = false → lessR a lo = false ∧ lessR hi a = false) := by
  unfold clampR at h
  split at h
  · cases h
  rename_i h0
  have h0' : (fnan lo || fnan hi || lessR hi lo) = false := by simpa using h0
  have h0s := h0'
  simp only [Bool.or_eq_false_iff] at h0'
  obtain ⟨⟨hnl, hnh⟩, hlh⟩ := h0'
  have hlh' : rankR lo ≤ rankR hi := by unfold lessR at hlh; simp at hlh; exact hlh
  have hll : lessR lo lo = false := by unfold lessR; simp
  have hhh : lessR hi hi = false := by unfold lessR; simp
  split at h
  · cases h
    refine ⟨by decide, ?_, ?_⟩
    · unfold clampR; rw [h0s]; rfl
    · intro hc; exact absurd hc (by decide)
  rename_i hnx
  have hnx' : fnan x = false := by simpa using hnx
  split at h
  · cases h
    have e1 : lessR hi lo = false := hlh
    refine ⟨hl, ?_, fun _ => ⟨hll, hlh⟩⟩
    unfold clampR; rw [h0s, hnl, hll, hlh]; rfl
  rename_i hxl
  have hxl' : lessR x lo = false := by simpa using hxl
  split at h
  · cases h
    have e1 : lessR hi lo = false := hlh
    refine ⟨hh, ?_, fun _ => ⟨hlh, hhh⟩⟩
    unfold clampR; rw [h0s, hnh, hhh, hlh]; rfl
  rename_i hhx
  have hhx' : lessR hi x = false := by simpa using hhx
  cases h
  refine ⟨hx, ?_, fun _ => ⟨hxl', hhx'⟩⟩
  unfold clampR; rw [h0s, hnx', hxl', hhx']; rfl

theorem clamp_err {x lo hi a : Nat} {e : Int} (h : clampR x lo hi = (a, e)) : e = 0 ∨ e = 1 := by
  unfold clampR at h
  repeat' (split at h)
  all_goals (cases h; simp)

theorem quoteClamps_calls (x lo hi : Nat) (w : World) (hx : x < 18446744073709551616) (hl : lo < 18446744073709551616) (hh : hi < 18446744073709551616) :
    Calls Try.prog 6 #[.float .f64 x, .float .f64 lo, .float .f64 hi] w fun e w' => e = .returned (.bool true) ∧ Below w.heap.size w w' := by
  have hnot : ∀ (x : Bool) (w : World), (Op.unary .not (.bool x)).run Try.prog w = .ok (.bool (!x)) w := fun _ _ => rfl
  have H1 : Hid _ := fun wx => clamp_calls x lo hi wx hx hl hh
  have H2 : Hid _ := fun wx => refClamp_calls x lo hi wx hx hl hh
  generalize hR : clampR x lo hi = R at *
  obtain ⟨a, e⟩ := R
  rcases clamp_err hR with rfl | rfl
  · obtain ⟨ha, hA, hb⟩ := clamp_again hx hl hh hR
    have h3 := fun wx => clamp_calls a lo hi wx ha hl hh
    rw [hA] at h3
    have H3 : Hid _ := h3
    clear h3 hA hR
    cases hn : fnan a
    · obtain ⟨hb1, hb2⟩ := hb hn
      have L1 := fun wx => less_calls a lo wx ha hl
      have L2 := fun wx => less_calls hi a wx hh ha
      rw [hb1] at L1
      rw [hb2] at L2
      have H4 : Hid _ := L1
      have H5 : Hid _ := L2
      clear L1 L2 hb hb1 hb2
      go_enter Try.func6, Try.ntmps6
      go_wp2_with fail
      refine (H1.out _).mono ?_
      rintro e w1 ⟨rfl, rfl⟩
      go_wp2_with fail
      refine (H2.out _).mono ?_
      rintro e w1 ⟨rfl, rfl⟩
      go_wp2_with fail
      refine (alike_calls a a _).mono ?_
      rintro e w1 ⟨rfl, rfl⟩
      go_wp2_with fail
      refine (H3.out _).mono ?_
      rintro e w1 ⟨rfl, rfl⟩
      go_wp2_with fail
      refine (alike_calls a a _).mono ?_
      rintro e w1 ⟨rfl, rfl⟩
      go_wp2_with fail
      refine (none_calls a _).mono ?_
      rintro e w1 ⟨rfl, rfl⟩
      rw [hn]
      go_wp2_with fail
      refine (H4.out _).mono ?_
      rintro e w1 ⟨rfl, rfl⟩
      go_wp2_with fail
      refine (H5.out _).mono ?_
      rintro e w1 ⟨rfl, rfl⟩
      go_wp2_with fail
      refine (awake_calls _).mono ?_
      rintro e w7 ⟨rfl, rfl⟩
      go_wp2
      go_ret
      exact ⟨rfl, Below.refl _ _⟩
    · clear hb
      go_enter Try.func6, Try.ntmps6
      go_wp2_with fail
      refine (H1.out _).mono ?_
      rintro e w1 ⟨rfl, rfl⟩
      go_wp2_with fail
      refine (H2.out _).mono ?_
      rintro e w1 ⟨rfl, rfl⟩
      go_wp2_with fail
      refine (alike_calls a a _).mono ?_
      rintro e w1 ⟨rfl, rfl⟩
      go_wp2_with fail
      refine (H3.out _).mono ?_
      rintro e w1 ⟨rfl, rfl⟩
      go_wp2_with fail
      refine (alike_calls a a _).mono ?_
      rintro e w1 ⟨rfl, rfl⟩
      go_wp2_with fail
      refine (none_calls a _).mono ?_
      rintro e w1 ⟨rfl, rfl⟩
      rw [hn]
      go_wp2_with fail
      refine (awake_calls _).mono ?_
      rintro e w7 ⟨rfl, rfl⟩
      go_wp2
      go_ret
      exact ⟨rfl, Below.refl _ _⟩
  · clear hR
    go_enter Try.func6, Try.ntmps6
    go_wp2_with fail
    refine (H1.out _).mono ?_
    rintro e w1 ⟨rfl, rfl⟩
    go_wp2_with fail
    refine (H2.out _).mono ?_
    rintro e w1 ⟨rfl, rfl⟩
    go_wp2_with fail
    refine (alike_calls a a _).mono ?_
    rintro e w1 ⟨rfl, rfl⟩
    go_wp2_with fail
    refine (awake_calls _).mono ?_
    rintro e w7 ⟨rfl, rfl⟩
    go_wp2
    go_ret
    exact ⟨rfl, Below.refl _ _⟩
end Go.Proofs.Ytjcnnfpbodhbgaa
