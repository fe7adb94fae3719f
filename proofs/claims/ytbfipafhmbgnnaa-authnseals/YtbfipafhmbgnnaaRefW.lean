/- The document's Right walked. -/
import Derived.Test.YtbfipafhmbgnnaaRefK
namespace Go.Proofs.Ytbfipafhmbgnnaa
open Go.RowKit
set_option linter.unusedVariables false
set_option linter.unusedSimpArgs false

set_option maxRecDepth 100000 in
set_option maxHeartbeats 4000000 in
theorem rightRef_1 (b : Bd) (p : Option Addr) (c : Nat) (w : World) (hk : b.kind = 1) (h : Rg b) (h1 : b.digest.size ≤ maxLen) (h2 : b.text.size ≤ maxLen) (h3 : b.list.length < 9223372036854775807) (hl : Sgs w (.slice p b.list.length c) b.list) :
    Calls Try.prog 17 #[b.val (.slice p b.list.length c)] w fun e w' => e = .returned (.int .i64 (right b)) ∧ Below w.heap.size w w' := by
  have hnot : ∀ (x : Bool) (w : World), (Op.unary .not (.bool x)).run Try.prog w = .ok (.bool (!x)) w := fun _ _ => rfl
  have hrk := right_1 b hk h
  have hnew := bdAt_new w b (.slice p b.list.length c) 24
  have hfa := fun wx (hb : Below w.heap.size w wx) => fitAll_ref (.slice p b.list.length c) b.list wx (hl.below hb) h3
  have hal := fun wx => allowed_ref b p c ⟨#[67, 84, 88]⟩ ⟨#[84]⟩ wx h3 (by decide) (by decide)
  rw [h.a] at hfa
  have HRK : Hid _ := hrk
  have HFA : Hid _ := hfa
  have HAL : Hid _ := hal
  have d1 : decide (b.view < 0) = false := by simpa using h.v0
  have d2 : decide (1048576 < b.view) = false := by simpa using h.v1
  have d3 : decide (b.seq < 0) = false := by simpa using h.s0
  have d4 : decide (1073741824 < b.seq) = false := by simpa using h.s1
  have d5 : decide (b.client < 0) = false := by simpa using h.c0
  have d6 : decide (15 < b.client) = false := by simpa using h.c1
  have d7 : decide (b.stamp < 0) = false := by simpa using h.t0
  have d8 : decide (1099511627776 < b.stamp) = false := by simpa using h.t1
  have d9 : decide ((32 : Int) < (b.digest.size : Int)) = false := by simpa using h.d
  have d10 : decide ((1048576 : Int) < (b.text.size : Int)) = false := by simpa using h.x
  have d11 : decide ((64 : Int) < (b.list.length : Int)) = false := by simpa using h.l
  have hs0 : 0 ≤ b.seq := by have := h.s0; omega
  have hs1 : b.seq ≤ 1073741824 := by have := h.s1; omega
  have kd0 : decide (b.kind < 1) = false := by rw [hk]; decide
  have kd1 : decide (13 < b.kind) = false := by rw [hk]; decide
  have ke1 : (b.kind == 1) = true := by rw [hk]; decide
  clear hrk hfa hal h hl hk
  unfold maxLen at h1 h2
  unfold Bd.val
  go_enter Try.func17, Try.ntmps17
  go_wp2_with fail
  refine (HFA.out _ (by go_grown)).mono ?_
  rintro e w1 ⟨rfl, b1⟩
  obtain ⟨a0, a1, a2, a3, a4, a5, a6, a7, a8⟩ := hnew.below b1
  have B1 : Below w.heap.size w w1 := (show Below w.heap.size w _ by go_grown).trans (b1.mono (by simp))
  have A1 := hnew.below b1
  clear hnew b1
  go_wp2_with fail
  refine (HAL.out _).mono ?_
  rintro e w2 ⟨rfl, b2⟩
  have B2 := B1.trans (b2.mono B1.size)
  have A2 := A1.below b2
  clear a0 a1 a2 a3 a4 a5 a6 a7 a8
  obtain ⟨a0, a1, a2, a3, a4, a5, a6, a7, a8⟩ := A2
  cases hA : allowedB b ⟨#[67, 84, 88]⟩ ⟨#[84]⟩ with
  | false =>
    have hfin : Hid (right b = 14) := by show _ = _; rw [HRK.out, hA]; simp
    clear hA
    go_wp2
    go_ret
    exact ⟨by rw [hfin.out]; rfl, B2⟩
  | true =>
    cases hc : decide ((b.text.size : Int) ≤ 256) with
    | false =>
      have hfin : Hid (right b = 14) := by
        show _ = _
        rw [HRK.out, if_neg]
        rintro ⟨_, h⟩
        simp at hc; omega
      clear hA
      go_wp2
      go_ret
      exact ⟨by rw [hfin.out]; rfl, B2⟩
    | true =>
      have hfin : Hid (right b = 0) := by
        show _ = _
        rw [HRK.out, if_pos]
        refine ⟨hA, ?_⟩
        simp at hc; omega
      clear hA
      go_wp2
      go_ret
      exact ⟨by rw [hfin.out]; rfl, B2⟩

set_option maxRecDepth 100000 in
set_option maxHeartbeats 4000000 in
theorem rightRef_2 (b : Bd) (p : Option Addr) (c : Nat) (w : World) (hk : b.kind = 2) (h : Rg b) (h1 : b.digest.size ≤ maxLen) (h2 : b.text.size ≤ maxLen) (h3 : b.list.length < 9223372036854775807) (hl : Sgs w (.slice p b.list.length c) b.list) :
    Calls Try.prog 17 #[b.val (.slice p b.list.length c)] w fun e w' => e = .returned (.int .i64 (right b)) ∧ Below w.heap.size w w' := by
  have hnot : ∀ (x : Bool) (w : World), (Op.unary .not (.bool x)).run Try.prog w = .ok (.bool (!x)) w := fun _ _ => rfl
  have hrk := right_2 b hk h
  have hnew := bdAt_new w b (.slice p b.list.length c) 24
  have hfa := fun wx (hb : Below w.heap.size w wx) => fitAll_ref (.slice p b.list.length c) b.list wx (hl.below hb) h3
  have hal := fun wx => allowed_ref b p c ⟨#[86, 83, 76]⟩ ⟨#[83]⟩ wx h3 (by decide) (by decide)
  rw [h.a] at hfa
  have HRK : Hid _ := hrk
  have HFA : Hid _ := hfa
  have HAL : Hid _ := hal
  have d1 : decide (b.view < 0) = false := by simpa using h.v0
  have d2 : decide (1048576 < b.view) = false := by simpa using h.v1
  have d3 : decide (b.seq < 0) = false := by simpa using h.s0
  have d4 : decide (1073741824 < b.seq) = false := by simpa using h.s1
  have d5 : decide (b.client < 0) = false := by simpa using h.c0
  have d6 : decide (15 < b.client) = false := by simpa using h.c1
  have d7 : decide (b.stamp < 0) = false := by simpa using h.t0
  have d8 : decide (1099511627776 < b.stamp) = false := by simpa using h.t1
  have d9 : decide ((32 : Int) < (b.digest.size : Int)) = false := by simpa using h.d
  have d10 : decide ((1048576 : Int) < (b.text.size : Int)) = false := by simpa using h.x
  have d11 : decide ((64 : Int) < (b.list.length : Int)) = false := by simpa using h.l
  have hs0 : 0 ≤ b.seq := by have := h.s0; omega
  have hs1 : b.seq ≤ 1073741824 := by have := h.s1; omega
  have kd0 : decide (b.kind < 1) = false := by rw [hk]; decide
  have kd1 : decide (13 < b.kind) = false := by rw [hk]; decide
  have ke1 : (b.kind == 1) = false := by rw [hk]; decide
  have ke2 : (b.kind == 2) = true := by rw [hk]; decide
  clear hrk hfa hal h hl hk
  unfold maxLen at h1 h2
  unfold Bd.val
  go_enter Try.func17, Try.ntmps17
  go_wp2_with fail
  refine (HFA.out _ (by go_grown)).mono ?_
  rintro e w1 ⟨rfl, b1⟩
  obtain ⟨a0, a1, a2, a3, a4, a5, a6, a7, a8⟩ := hnew.below b1
  have B1 : Below w.heap.size w w1 := (show Below w.heap.size w _ by go_grown).trans (b1.mono (by simp))
  have A1 := hnew.below b1
  clear hnew b1
  go_wp2_with fail
  refine (HAL.out _).mono ?_
  rintro e w2 ⟨rfl, b2⟩
  have B2 := B1.trans (b2.mono B1.size)
  have A2 := A1.below b2
  clear a0 a1 a2 a3 a4 a5 a6 a7 a8
  obtain ⟨a0, a1, a2, a3, a4, a5, a6, a7, a8⟩ := A2
  cases hA : allowedB b ⟨#[86, 83, 76]⟩ ⟨#[83]⟩ with
  | false =>
    have hfin : Hid (right b = 14) := by show _ = _; rw [HRK.out, hA]; simp
    clear hA
    go_wp2
    go_ret
    exact ⟨by rw [hfin.out]; rfl, B2⟩
  | true =>
    cases hc : decide ((b.list.length : Int) ≤ 4) with
    | false =>
      have hfin : Hid (right b = 14) := by
        show _ = _
        rw [HRK.out, if_neg]
        rintro ⟨_, h⟩
        simp at hc; omega
      clear hA
      go_wp2
      go_ret
      exact ⟨by rw [hfin.out]; rfl, B2⟩
    | true =>
      have hfin : Hid (right b = 0) := by
        show _ = _
        rw [HRK.out, if_pos]
        refine ⟨hA, ?_⟩
        simp at hc; omega
      clear hA
      go_wp2
      go_ret
      exact ⟨by rw [hfin.out]; rfl, B2⟩

set_option maxRecDepth 100000 in
set_option maxHeartbeats 4000000 in
theorem rightRef_3 (b : Bd) (p : Option Addr) (c : Nat) (w : World) (hk : b.kind = 3) (h : Rg b) (h1 : b.digest.size ≤ maxLen) (h2 : b.text.size ≤ maxLen) (h3 : b.list.length < 9223372036854775807) (hl : Sgs w (.slice p b.list.length c) b.list) :
    Calls Try.prog 17 #[b.val (.slice p b.list.length c)] w fun e w' => e = .returned (.int .i64 (right b)) ∧ Below w.heap.size w w' := by
  have hnot : ∀ (x : Bool) (w : World), (Op.unary .not (.bool x)).run Try.prog w = .ok (.bool (!x)) w := fun _ _ => rfl
  have hrk := right_3 b hk h
  have hnew := bdAt_new w b (.slice p b.list.length c) 24
  have hfa := fun wx (hb : Below w.heap.size w wx) => fitAll_ref (.slice p b.list.length c) b.list wx (hl.below hb) h3
  have hal := fun wx => allowed_ref b p c ⟨#[86, 83, 68]⟩ ⟨#[83, 68]⟩ wx h3 (by decide) (by decide)
  rw [h.a] at hfa
  have HRK : Hid _ := hrk
  have HFA : Hid _ := hfa
  have HAL : Hid _ := hal
  have d1 : decide (b.view < 0) = false := by simpa using h.v0
  have d2 : decide (1048576 < b.view) = false := by simpa using h.v1
  have d3 : decide (b.seq < 0) = false := by simpa using h.s0
  have d4 : decide (1073741824 < b.seq) = false := by simpa using h.s1
  have d5 : decide (b.client < 0) = false := by simpa using h.c0
  have d6 : decide (15 < b.client) = false := by simpa using h.c1
  have d7 : decide (b.stamp < 0) = false := by simpa using h.t0
  have d8 : decide (1099511627776 < b.stamp) = false := by simpa using h.t1
  have d9 : decide ((32 : Int) < (b.digest.size : Int)) = false := by simpa using h.d
  have d10 : decide ((1048576 : Int) < (b.text.size : Int)) = false := by simpa using h.x
  have d11 : decide ((64 : Int) < (b.list.length : Int)) = false := by simpa using h.l
  have hs0 : 0 ≤ b.seq := by have := h.s0; omega
  have hs1 : b.seq ≤ 1073741824 := by have := h.s1; omega
  have kd0 : decide (b.kind < 1) = false := by rw [hk]; decide
  have kd1 : decide (13 < b.kind) = false := by rw [hk]; decide
  have ke1 : (b.kind == 1) = false := by rw [hk]; decide
  have ke2 : (b.kind == 2) = false := by rw [hk]; decide
  have ke3 : (b.kind == 3) = true := by rw [hk]; decide
  clear hrk hfa hal h hl hk
  unfold maxLen at h1 h2
  unfold Bd.val
  go_enter Try.func17, Try.ntmps17
  go_wp2_with fail
  refine (HFA.out _ (by go_grown)).mono ?_
  rintro e w1 ⟨rfl, b1⟩
  obtain ⟨a0, a1, a2, a3, a4, a5, a6, a7, a8⟩ := hnew.below b1
  have B1 : Below w.heap.size w w1 := (show Below w.heap.size w _ by go_grown).trans (b1.mono (by simp))
  have A1 := hnew.below b1
  clear hnew b1
  go_wp2_with fail
  refine (HAL.out _).mono ?_
  rintro e w2 ⟨rfl, b2⟩
  have B2 := B1.trans (b2.mono B1.size)
  have A2 := A1.below b2
  clear a0 a1 a2 a3 a4 a5 a6 a7 a8
  obtain ⟨a0, a1, a2, a3, a4, a5, a6, a7, a8⟩ := A2
  cases hA : allowedB b ⟨#[86, 83, 68]⟩ ⟨#[83, 68]⟩ with
  | false =>
    have hfin : Hid (right b = 14) := by show _ = _; rw [HRK.out, hA]; simp
    clear hA
    go_wp2
    go_ret
    exact ⟨by rw [hfin.out]; rfl, B2⟩
  | true =>
    have hfin : Hid (right b = 0) := by show _ = _; rw [HRK.out, hA]; simp
    clear hA
    go_wp2
    go_ret
    exact ⟨by rw [hfin.out]; rfl, B2⟩

set_option maxRecDepth 100000 in
set_option maxHeartbeats 4000000 in
theorem rightRef_4 (b : Bd) (p : Option Addr) (c : Nat) (w : World) (hk : b.kind = 4) (h : Rg b) (h1 : b.digest.size ≤ maxLen) (h2 : b.text.size ≤ maxLen) (h3 : b.list.length < 9223372036854775807) (hl : Sgs w (.slice p b.list.length c) b.list) :
    Calls Try.prog 17 #[b.val (.slice p b.list.length c)] w fun e w' => e = .returned (.int .i64 (right b)) ∧ Below w.heap.size w w' := by
  have hnot : ∀ (x : Bool) (w : World), (Op.unary .not (.bool x)).run Try.prog w = .ok (.bool (!x)) w := fun _ _ => rfl
  have hrk := right_4 b hk h
  have hnew := bdAt_new w b (.slice p b.list.length c) 24
  have hfa := fun wx (hb : Below w.heap.size w wx) => fitAll_ref (.slice p b.list.length c) b.list wx (hl.below hb) h3
  have hal := fun wx => allowed_ref b p c ⟨#[86, 83, 68]⟩ ⟨#[83, 68]⟩ wx h3 (by decide) (by decide)
  rw [h.a] at hfa
  have HRK : Hid _ := hrk
  have HFA : Hid _ := hfa
  have HAL : Hid _ := hal
  have d1 : decide (b.view < 0) = false := by simpa using h.v0
  have d2 : decide (1048576 < b.view) = false := by simpa using h.v1
  have d3 : decide (b.seq < 0) = false := by simpa using h.s0
  have d4 : decide (1073741824 < b.seq) = false := by simpa using h.s1
  have d5 : decide (b.client < 0) = false := by simpa using h.c0
  have d6 : decide (15 < b.client) = false := by simpa using h.c1
  have d7 : decide (b.stamp < 0) = false := by simpa using h.t0
  have d8 : decide (1099511627776 < b.stamp) = false := by simpa using h.t1
  have d9 : decide ((32 : Int) < (b.digest.size : Int)) = false := by simpa using h.d
  have d10 : decide ((1048576 : Int) < (b.text.size : Int)) = false := by simpa using h.x
  have d11 : decide ((64 : Int) < (b.list.length : Int)) = false := by simpa using h.l
  have hs0 : 0 ≤ b.seq := by have := h.s0; omega
  have hs1 : b.seq ≤ 1073741824 := by have := h.s1; omega
  have kd0 : decide (b.kind < 1) = false := by rw [hk]; decide
  have kd1 : decide (13 < b.kind) = false := by rw [hk]; decide
  have ke1 : (b.kind == 1) = false := by rw [hk]; decide
  have ke2 : (b.kind == 2) = false := by rw [hk]; decide
  have ke3 : (b.kind == 3) = false := by rw [hk]; decide
  have ke4 : (b.kind == 4) = true := by rw [hk]; decide
  clear hrk hfa hal h hl hk
  unfold maxLen at h1 h2
  unfold Bd.val
  go_enter Try.func17, Try.ntmps17
  go_wp2_with fail
  refine (HFA.out _ (by go_grown)).mono ?_
  rintro e w1 ⟨rfl, b1⟩
  obtain ⟨a0, a1, a2, a3, a4, a5, a6, a7, a8⟩ := hnew.below b1
  have B1 : Below w.heap.size w w1 := (show Below w.heap.size w _ by go_grown).trans (b1.mono (by simp))
  have A1 := hnew.below b1
  clear hnew b1
  go_wp2_with fail
  refine (HAL.out _).mono ?_
  rintro e w2 ⟨rfl, b2⟩
  have B2 := B1.trans (b2.mono B1.size)
  have A2 := A1.below b2
  clear a0 a1 a2 a3 a4 a5 a6 a7 a8
  obtain ⟨a0, a1, a2, a3, a4, a5, a6, a7, a8⟩ := A2
  cases hA : allowedB b ⟨#[86, 83, 68]⟩ ⟨#[83, 68]⟩ with
  | false =>
    have hfin : Hid (right b = 14) := by show _ = _; rw [HRK.out, hA]; simp
    clear hA
    go_wp2
    go_ret
    exact ⟨by rw [hfin.out]; rfl, B2⟩
  | true =>
    have hfin : Hid (right b = 0) := by show _ = _; rw [HRK.out, hA]; simp
    clear hA
    go_wp2
    go_ret
    exact ⟨by rw [hfin.out]; rfl, B2⟩

set_option maxRecDepth 100000 in
set_option maxHeartbeats 4000000 in
theorem rightRef_5 (b : Bd) (p : Option Addr) (c : Nat) (w : World) (hk : b.kind = 5) (h : Rg b) (h1 : b.digest.size ≤ maxLen) (h2 : b.text.size ≤ maxLen) (h3 : b.list.length < 9223372036854775807) (hl : Sgs w (.slice p b.list.length c) b.list) :
    Calls Try.prog 17 #[b.val (.slice p b.list.length c)] w fun e w' => e = .returned (.int .i64 (right b)) ∧ Below w.heap.size w w' := by
  have hnot : ∀ (x : Bool) (w : World), (Op.unary .not (.bool x)).run Try.prog w = .ok (.bool (!x)) w := fun _ _ => rfl
  have hrk := right_5 b hk h
  have hnew := bdAt_new w b (.slice p b.list.length c) 24
  have hfa := fun wx (hb : Below w.heap.size w wx) => fitAll_ref (.slice p b.list.length c) b.list wx (hl.below hb) h3
  have hal := fun wx => allowed_ref b p c ⟨#[83, 68]⟩ ⟨#[83, 68]⟩ wx h3 (by decide) (by decide)
  rw [h.a] at hfa
  have HRK : Hid _ := hrk
  have HFA : Hid _ := hfa
  have HAL : Hid _ := hal
  have d1 : decide (b.view < 0) = false := by simpa using h.v0
  have d2 : decide (1048576 < b.view) = false := by simpa using h.v1
  have d3 : decide (b.seq < 0) = false := by simpa using h.s0
  have d4 : decide (1073741824 < b.seq) = false := by simpa using h.s1
  have d5 : decide (b.client < 0) = false := by simpa using h.c0
  have d6 : decide (15 < b.client) = false := by simpa using h.c1
  have d7 : decide (b.stamp < 0) = false := by simpa using h.t0
  have d8 : decide (1099511627776 < b.stamp) = false := by simpa using h.t1
  have d9 : decide ((32 : Int) < (b.digest.size : Int)) = false := by simpa using h.d
  have d10 : decide ((1048576 : Int) < (b.text.size : Int)) = false := by simpa using h.x
  have d11 : decide ((64 : Int) < (b.list.length : Int)) = false := by simpa using h.l
  have hs0 : 0 ≤ b.seq := by have := h.s0; omega
  have hs1 : b.seq ≤ 1073741824 := by have := h.s1; omega
  have kd0 : decide (b.kind < 1) = false := by rw [hk]; decide
  have kd1 : decide (13 < b.kind) = false := by rw [hk]; decide
  have ke1 : (b.kind == 1) = false := by rw [hk]; decide
  have ke2 : (b.kind == 2) = false := by rw [hk]; decide
  have ke3 : (b.kind == 3) = false := by rw [hk]; decide
  have ke4 : (b.kind == 4) = false := by rw [hk]; decide
  have ke5 : (b.kind == 5) = true := by rw [hk]; decide
  clear hrk hfa hal h hl hk
  unfold maxLen at h1 h2
  unfold Bd.val
  go_enter Try.func17, Try.ntmps17
  go_wp2_with fail
  refine (HFA.out _ (by go_grown)).mono ?_
  rintro e w1 ⟨rfl, b1⟩
  obtain ⟨a0, a1, a2, a3, a4, a5, a6, a7, a8⟩ := hnew.below b1
  have B1 : Below w.heap.size w w1 := (show Below w.heap.size w _ by go_grown).trans (b1.mono (by simp))
  have A1 := hnew.below b1
  clear hnew b1
  go_wp2_with fail
  refine (HAL.out _).mono ?_
  rintro e w2 ⟨rfl, b2⟩
  have B2 := B1.trans (b2.mono B1.size)
  have A2 := A1.below b2
  clear a0 a1 a2 a3 a4 a5 a6 a7 a8
  obtain ⟨a0, a1, a2, a3, a4, a5, a6, a7, a8⟩ := A2
  cases hA : allowedB b ⟨#[83, 68]⟩ ⟨#[83, 68]⟩ with
  | false =>
    have hfin : Hid (right b = 14) := by show _ = _; rw [HRK.out, hA]; simp
    clear hA
    go_wp2
    go_ret
    exact ⟨by rw [hfin.out]; rfl, B2⟩
  | true =>
    cases hc : (b.seq % 4 == 0) with
    | false =>
      have hfin : Hid (right b = 14) := by
        show _ = _
        rw [HRK.out, if_neg]
        rintro ⟨_, h⟩
        simp at hc; omega
      clear hA
      go_wp2
      go_ret
      exact ⟨by rw [hfin.out]; rfl, B2⟩
    | true =>
      have hfin : Hid (right b = 0) := by
        show _ = _
        rw [HRK.out, if_pos]
        refine ⟨hA, ?_⟩
        simp at hc; omega
      clear hA
      go_wp2
      go_ret
      exact ⟨by rw [hfin.out]; rfl, B2⟩

set_option maxRecDepth 100000 in
set_option maxHeartbeats 4000000 in
theorem rightRef_6 (b : Bd) (p : Option Addr) (c : Nat) (w : World) (hk : b.kind = 6) (h : Rg b) (h1 : b.digest.size ≤ maxLen) (h2 : b.text.size ≤ maxLen) (h3 : b.list.length < 9223372036854775807) (hl : Sgs w (.slice p b.list.length c) b.list) :
    Calls Try.prog 17 #[b.val (.slice p b.list.length c)] w fun e w' => e = .returned (.int .i64 (right b)) ∧ Below w.heap.size w w' := by
  have hnot : ∀ (x : Bool) (w : World), (Op.unary .not (.bool x)).run Try.prog w = .ok (.bool (!x)) w := fun _ _ => rfl
  have hrk := right_6 b hk h
  have hnew := bdAt_new w b (.slice p b.list.length c) 24
  have hfa := fun wx (hb : Below w.heap.size w wx) => fitAll_ref (.slice p b.list.length c) b.list wx (hl.below hb) h3
  have hal := fun wx => allowed_ref b p c ⟨#[86, 83, 76]⟩ ⟨#[86]⟩ wx h3 (by decide) (by decide)
  rw [h.a] at hfa
  have HRK : Hid _ := hrk
  have HFA : Hid _ := hfa
  have HAL : Hid _ := hal
  have d1 : decide (b.view < 0) = false := by simpa using h.v0
  have d2 : decide (1048576 < b.view) = false := by simpa using h.v1
  have d3 : decide (b.seq < 0) = false := by simpa using h.s0
  have d4 : decide (1073741824 < b.seq) = false := by simpa using h.s1
  have d5 : decide (b.client < 0) = false := by simpa using h.c0
  have d6 : decide (15 < b.client) = false := by simpa using h.c1
  have d7 : decide (b.stamp < 0) = false := by simpa using h.t0
  have d8 : decide (1099511627776 < b.stamp) = false := by simpa using h.t1
  have d9 : decide ((32 : Int) < (b.digest.size : Int)) = false := by simpa using h.d
  have d10 : decide ((1048576 : Int) < (b.text.size : Int)) = false := by simpa using h.x
  have d11 : decide ((64 : Int) < (b.list.length : Int)) = false := by simpa using h.l
  have hs0 : 0 ≤ b.seq := by have := h.s0; omega
  have hs1 : b.seq ≤ 1073741824 := by have := h.s1; omega
  have kd0 : decide (b.kind < 1) = false := by rw [hk]; decide
  have kd1 : decide (13 < b.kind) = false := by rw [hk]; decide
  have ke1 : (b.kind == 1) = false := by rw [hk]; decide
  have ke2 : (b.kind == 2) = false := by rw [hk]; decide
  have ke3 : (b.kind == 3) = false := by rw [hk]; decide
  have ke4 : (b.kind == 4) = false := by rw [hk]; decide
  have ke5 : (b.kind == 5) = false := by rw [hk]; decide
  have ke6 : (b.kind == 6) = true := by rw [hk]; decide
  clear hrk hfa hal h hl hk
  unfold maxLen at h1 h2
  unfold Bd.val
  go_enter Try.func17, Try.ntmps17
  go_wp2_with fail
  refine (HFA.out _ (by go_grown)).mono ?_
  rintro e w1 ⟨rfl, b1⟩
  obtain ⟨a0, a1, a2, a3, a4, a5, a6, a7, a8⟩ := hnew.below b1
  have B1 : Below w.heap.size w w1 := (show Below w.heap.size w _ by go_grown).trans (b1.mono (by simp))
  have A1 := hnew.below b1
  clear hnew b1
  go_wp2_with fail
  refine (HAL.out _).mono ?_
  rintro e w2 ⟨rfl, b2⟩
  have B2 := B1.trans (b2.mono B1.size)
  have A2 := A1.below b2
  clear a0 a1 a2 a3 a4 a5 a6 a7 a8
  obtain ⟨a0, a1, a2, a3, a4, a5, a6, a7, a8⟩ := A2
  cases hA : allowedB b ⟨#[86, 83, 76]⟩ ⟨#[86]⟩ with
  | false =>
    have hfin : Hid (right b = 14) := by show _ = _; rw [HRK.out, hA]; simp
    clear hA
    go_wp2
    go_ret
    exact ⟨by rw [hfin.out]; rfl, B2⟩
  | true =>
    cases hc : (b.seq % 4 == 0) with
    | false =>
      have hfin : Hid (right b = 14) := by
        show _ = _
        rw [HRK.out, if_neg]
        rintro ⟨_, h⟩
        simp at hc; omega
      clear hA
      go_wp2
      go_ret
      exact ⟨by rw [hfin.out]; rfl, B2⟩
    | true =>
      have hfin : Hid (right b = 0) := by
        show _ = _
        rw [HRK.out, if_pos]
        refine ⟨hA, ?_⟩
        simp at hc; omega
      clear hA
      go_wp2
      go_ret
      exact ⟨by rw [hfin.out]; rfl, B2⟩

set_option maxRecDepth 100000 in
set_option maxHeartbeats 4000000 in
theorem rightRef_7 (b : Bd) (p : Option Addr) (c : Nat) (w : World) (hk : b.kind = 7) (h : Rg b) (h1 : b.digest.size ≤ maxLen) (h2 : b.text.size ≤ maxLen) (h3 : b.list.length < 9223372036854775807) (hl : Sgs w (.slice p b.list.length c) b.list) :
    Calls Try.prog 17 #[b.val (.slice p b.list.length c)] w fun e w' => e = .returned (.int .i64 (right b)) ∧ Below w.heap.size w w' := by
  have hnot : ∀ (x : Bool) (w : World), (Op.unary .not (.bool x)).run Try.prog w = .ok (.bool (!x)) w := fun _ _ => rfl
  have hrk := right_7 b hk h
  have hnew := bdAt_new w b (.slice p b.list.length c) 24
  have hfa := fun wx (hb : Below w.heap.size w wx) => fitAll_ref (.slice p b.list.length c) b.list wx (hl.below hb) h3
  have hal := fun wx => allowed_ref b p c ⟨#[86, 76]⟩ ⟨#[86, 76]⟩ wx h3 (by decide) (by decide)
  rw [h.a] at hfa
  have HRK : Hid _ := hrk
  have HFA : Hid _ := hfa
  have HAL : Hid _ := hal
  have d1 : decide (b.view < 0) = false := by simpa using h.v0
  have d2 : decide (1048576 < b.view) = false := by simpa using h.v1
  have d3 : decide (b.seq < 0) = false := by simpa using h.s0
  have d4 : decide (1073741824 < b.seq) = false := by simpa using h.s1
  have d5 : decide (b.client < 0) = false := by simpa using h.c0
  have d6 : decide (15 < b.client) = false := by simpa using h.c1
  have d7 : decide (b.stamp < 0) = false := by simpa using h.t0
  have d8 : decide (1099511627776 < b.stamp) = false := by simpa using h.t1
  have d9 : decide ((32 : Int) < (b.digest.size : Int)) = false := by simpa using h.d
  have d10 : decide ((1048576 : Int) < (b.text.size : Int)) = false := by simpa using h.x
  have d11 : decide ((64 : Int) < (b.list.length : Int)) = false := by simpa using h.l
  have hs0 : 0 ≤ b.seq := by have := h.s0; omega
  have hs1 : b.seq ≤ 1073741824 := by have := h.s1; omega
  have kd0 : decide (b.kind < 1) = false := by rw [hk]; decide
  have kd1 : decide (13 < b.kind) = false := by rw [hk]; decide
  have ke1 : (b.kind == 1) = false := by rw [hk]; decide
  have ke2 : (b.kind == 2) = false := by rw [hk]; decide
  have ke3 : (b.kind == 3) = false := by rw [hk]; decide
  have ke4 : (b.kind == 4) = false := by rw [hk]; decide
  have ke5 : (b.kind == 5) = false := by rw [hk]; decide
  have ke6 : (b.kind == 6) = false := by rw [hk]; decide
  have ke7 : (b.kind == 7) = true := by rw [hk]; decide
  clear hrk hfa hal h hl hk
  unfold maxLen at h1 h2
  unfold Bd.val
  go_enter Try.func17, Try.ntmps17
  go_wp2_with fail
  refine (HFA.out _ (by go_grown)).mono ?_
  rintro e w1 ⟨rfl, b1⟩
  obtain ⟨a0, a1, a2, a3, a4, a5, a6, a7, a8⟩ := hnew.below b1
  have B1 : Below w.heap.size w w1 := (show Below w.heap.size w _ by go_grown).trans (b1.mono (by simp))
  have A1 := hnew.below b1
  clear hnew b1
  go_wp2_with fail
  refine (HAL.out _).mono ?_
  rintro e w2 ⟨rfl, b2⟩
  have B2 := B1.trans (b2.mono B1.size)
  have A2 := A1.below b2
  clear a0 a1 a2 a3 a4 a5 a6 a7 a8
  obtain ⟨a0, a1, a2, a3, a4, a5, a6, a7, a8⟩ := A2
  cases hA : allowedB b ⟨#[86, 76]⟩ ⟨#[86, 76]⟩ with
  | false =>
    have hfin : Hid (right b = 14) := by show _ = _; rw [HRK.out, hA]; simp
    clear hA
    go_wp2
    go_ret
    exact ⟨by rw [hfin.out]; rfl, B2⟩
  | true =>
    have hfin : Hid (right b = 0) := by show _ = _; rw [HRK.out, hA]; simp
    clear hA
    go_wp2
    go_ret
    exact ⟨by rw [hfin.out]; rfl, B2⟩

set_option maxRecDepth 100000 in
set_option maxHeartbeats 4000000 in
theorem rightRef_8 (b : Bd) (p : Option Addr) (c : Nat) (w : World) (hk : b.kind = 8) (h : Rg b) (h1 : b.digest.size ≤ maxLen) (h2 : b.text.size ≤ maxLen) (h3 : b.list.length < 9223372036854775807) (hl : Sgs w (.slice p b.list.length c) b.list) :
    Calls Try.prog 17 #[b.val (.slice p b.list.length c)] w fun e w' => e = .returned (.int .i64 (right b)) ∧ Below w.heap.size w w' := by
  have hnot : ∀ (x : Bool) (w : World), (Op.unary .not (.bool x)).run Try.prog w = .ok (.bool (!x)) w := fun _ _ => rfl
  have hrk := right_8 b hk h
  have hnew := bdAt_new w b (.slice p b.list.length c) 24
  have hfa := fun wx (hb : Below w.heap.size w wx) => fitAll_ref (.slice p b.list.length c) b.list wx (hl.below hb) h3
  have hal := fun wx => allowed_ref b p c ⟨#[86, 83, 67, 84]⟩ ⟨#[]⟩ wx h3 (by decide) (by decide)
  rw [h.a] at hfa
  have HRK : Hid _ := hrk
  have HFA : Hid _ := hfa
  have HAL : Hid _ := hal
  have d1 : decide (b.view < 0) = false := by simpa using h.v0
  have d2 : decide (1048576 < b.view) = false := by simpa using h.v1
  have d3 : decide (b.seq < 0) = false := by simpa using h.s0
  have d4 : decide (1073741824 < b.seq) = false := by simpa using h.s1
  have d5 : decide (b.client < 0) = false := by simpa using h.c0
  have d6 : decide (15 < b.client) = false := by simpa using h.c1
  have d7 : decide (b.stamp < 0) = false := by simpa using h.t0
  have d8 : decide (1099511627776 < b.stamp) = false := by simpa using h.t1
  have d9 : decide ((32 : Int) < (b.digest.size : Int)) = false := by simpa using h.d
  have d10 : decide ((1048576 : Int) < (b.text.size : Int)) = false := by simpa using h.x
  have d11 : decide ((64 : Int) < (b.list.length : Int)) = false := by simpa using h.l
  have hs0 : 0 ≤ b.seq := by have := h.s0; omega
  have hs1 : b.seq ≤ 1073741824 := by have := h.s1; omega
  have kd0 : decide (b.kind < 1) = false := by rw [hk]; decide
  have kd1 : decide (13 < b.kind) = false := by rw [hk]; decide
  have ke1 : (b.kind == 1) = false := by rw [hk]; decide
  have ke2 : (b.kind == 2) = false := by rw [hk]; decide
  have ke3 : (b.kind == 3) = false := by rw [hk]; decide
  have ke4 : (b.kind == 4) = false := by rw [hk]; decide
  have ke5 : (b.kind == 5) = false := by rw [hk]; decide
  have ke6 : (b.kind == 6) = false := by rw [hk]; decide
  have ke7 : (b.kind == 7) = false := by rw [hk]; decide
  have ke8 : (b.kind == 8) = true := by rw [hk]; decide
  clear hrk hfa hal h hl hk
  unfold maxLen at h1 h2
  unfold Bd.val
  go_enter Try.func17, Try.ntmps17
  go_wp2_with fail
  refine (HFA.out _ (by go_grown)).mono ?_
  rintro e w1 ⟨rfl, b1⟩
  obtain ⟨a0, a1, a2, a3, a4, a5, a6, a7, a8⟩ := hnew.below b1
  have B1 : Below w.heap.size w w1 := (show Below w.heap.size w _ by go_grown).trans (b1.mono (by simp))
  have A1 := hnew.below b1
  clear hnew b1
  go_wp2_with fail
  refine (HAL.out _).mono ?_
  rintro e w2 ⟨rfl, b2⟩
  have B2 := B1.trans (b2.mono B1.size)
  have A2 := A1.below b2
  clear a0 a1 a2 a3 a4 a5 a6 a7 a8
  obtain ⟨a0, a1, a2, a3, a4, a5, a6, a7, a8⟩ := A2
  cases hA : allowedB b ⟨#[86, 83, 67, 84]⟩ ⟨#[]⟩ with
  | false =>
    have hfin : Hid (right b = 14) := by show _ = _; rw [HRK.out, hA]; simp
    clear hA
    go_wp2
    go_ret
    exact ⟨by rw [hfin.out]; rfl, B2⟩
  | true =>
    cases hc : decide (b.client ≤ 1) with
    | false =>
      have hfin : Hid (right b = 14) := by
        show _ = _
        rw [HRK.out, if_neg]
        rintro ⟨_, h⟩
        simp at hc; omega
      clear hA
      go_wp2
      go_ret
      exact ⟨by rw [hfin.out]; rfl, B2⟩
    | true =>
      have hfin : Hid (right b = 0) := by
        show _ = _
        rw [HRK.out, if_pos]
        refine ⟨hA, ?_⟩
        simp at hc; omega
      clear hA
      go_wp2
      go_ret
      exact ⟨by rw [hfin.out]; rfl, B2⟩

set_option maxRecDepth 100000 in
set_option maxHeartbeats 4000000 in
theorem rightRef_9 (b : Bd) (p : Option Addr) (c : Nat) (w : World) (hk : b.kind = 9) (h : Rg b) (h1 : b.digest.size ≤ maxLen) (h2 : b.text.size ≤ maxLen) (h3 : b.list.length < 9223372036854775807) (hl : Sgs w (.slice p b.list.length c) b.list) :
    Calls Try.prog 17 #[b.val (.slice p b.list.length c)] w fun e w' => e = .returned (.int .i64 (right b)) ∧ Below w.heap.size w w' := by
  have hnot : ∀ (x : Bool) (w : World), (Op.unary .not (.bool x)).run Try.prog w = .ok (.bool (!x)) w := fun _ _ => rfl
  have hrk := right_9 b hk h
  have hnew := bdAt_new w b (.slice p b.list.length c) 24
  have hfa := fun wx (hb : Below w.heap.size w wx) => fitAll_ref (.slice p b.list.length c) b.list wx (hl.below hb) h3
  have hal := fun wx => allowed_ref b p c ⟨#[83, 68, 88, 76]⟩ ⟨#[83, 68, 76]⟩ wx h3 (by decide) (by decide)
  rw [h.a] at hfa
  have HRK : Hid _ := hrk
  have HFA : Hid _ := hfa
  have HAL : Hid _ := hal
  have d1 : decide (b.view < 0) = false := by simpa using h.v0
  have d2 : decide (1048576 < b.view) = false := by simpa using h.v1
  have d3 : decide (b.seq < 0) = false := by simpa using h.s0
  have d4 : decide (1073741824 < b.seq) = false := by simpa using h.s1
  have d5 : decide (b.client < 0) = false := by simpa using h.c0
  have d6 : decide (15 < b.client) = false := by simpa using h.c1
  have d7 : decide (b.stamp < 0) = false := by simpa using h.t0
  have d8 : decide (1099511627776 < b.stamp) = false := by simpa using h.t1
  have d9 : decide ((32 : Int) < (b.digest.size : Int)) = false := by simpa using h.d
  have d10 : decide ((1048576 : Int) < (b.text.size : Int)) = false := by simpa using h.x
  have d11 : decide ((64 : Int) < (b.list.length : Int)) = false := by simpa using h.l
  have hs0 : 0 ≤ b.seq := by have := h.s0; omega
  have hs1 : b.seq ≤ 1073741824 := by have := h.s1; omega
  have kd0 : decide (b.kind < 1) = false := by rw [hk]; decide
  have kd1 : decide (13 < b.kind) = false := by rw [hk]; decide
  have ke1 : (b.kind == 1) = false := by rw [hk]; decide
  have ke2 : (b.kind == 2) = false := by rw [hk]; decide
  have ke3 : (b.kind == 3) = false := by rw [hk]; decide
  have ke4 : (b.kind == 4) = false := by rw [hk]; decide
  have ke5 : (b.kind == 5) = false := by rw [hk]; decide
  have ke6 : (b.kind == 6) = false := by rw [hk]; decide
  have ke7 : (b.kind == 7) = false := by rw [hk]; decide
  have ke8 : (b.kind == 8) = false := by rw [hk]; decide
  have ke9 : (b.kind == 9) = true := by rw [hk]; decide
  clear hrk hfa hal h hl hk
  unfold maxLen at h1 h2
  unfold Bd.val
  go_enter Try.func17, Try.ntmps17
  go_wp2_with fail
  refine (HFA.out _ (by go_grown)).mono ?_
  rintro e w1 ⟨rfl, b1⟩
  obtain ⟨a0, a1, a2, a3, a4, a5, a6, a7, a8⟩ := hnew.below b1
  have B1 : Below w.heap.size w w1 := (show Below w.heap.size w _ by go_grown).trans (b1.mono (by simp))
  have A1 := hnew.below b1
  clear hnew b1
  go_wp2_with fail
  refine (HAL.out _).mono ?_
  rintro e w2 ⟨rfl, b2⟩
  have B2 := B1.trans (b2.mono B1.size)
  have A2 := A1.below b2
  clear a0 a1 a2 a3 a4 a5 a6 a7 a8
  obtain ⟨a0, a1, a2, a3, a4, a5, a6, a7, a8⟩ := A2
  cases hA : allowedB b ⟨#[83, 68, 88, 76]⟩ ⟨#[83, 68, 76]⟩ with
  | false =>
    have hfin : Hid (right b = 14) := by show _ = _; rw [HRK.out, hA]; simp
    clear hA
    go_wp2
    go_ret
    exact ⟨by rw [hfin.out]; rfl, B2⟩
  | true =>
    cases hc : (b.seq % 4 == 0) with
    | false =>
      have hfin : Hid (right b = 14) := by
        show _ = _
        rw [HRK.out, if_neg]
        rintro ⟨_, h⟩
        simp at hc; omega
      clear hA
      go_wp2
      go_ret
      exact ⟨by rw [hfin.out]; rfl, B2⟩
    | true =>
      have hfin : Hid (right b = 0) := by
        show _ = _
        rw [HRK.out, if_pos]
        refine ⟨hA, ?_⟩
        simp at hc; omega
      clear hA
      go_wp2
      go_ret
      exact ⟨by rw [hfin.out]; rfl, B2⟩

set_option maxRecDepth 100000 in
set_option maxHeartbeats 4000000 in
theorem rightRef_10 (b : Bd) (p : Option Addr) (c : Nat) (w : World) (hk : b.kind = 10) (h : Rg b) (h1 : b.digest.size ≤ maxLen) (h2 : b.text.size ≤ maxLen) (h3 : b.list.length < 9223372036854775807) (hl : Sgs w (.slice p b.list.length c) b.list) :
    Calls Try.prog 17 #[b.val (.slice p b.list.length c)] w fun e w' => e = .returned (.int .i64 (right b)) ∧ Below w.heap.size w w' := by
  have hnot : ∀ (x : Bool) (w : World), (Op.unary .not (.bool x)).run Try.prog w = .ok (.bool (!x)) w := fun _ _ => rfl
  have hrk := right_10 b hk h
  have hnew := bdAt_new w b (.slice p b.list.length c) 24
  have hfa := fun wx (hb : Below w.heap.size w wx) => fitAll_ref (.slice p b.list.length c) b.list wx (hl.below hb) h3
  have hal := fun wx => allowed_ref b p c ⟨#[86, 67, 84, 88]⟩ ⟨#[84]⟩ wx h3 (by decide) (by decide)
  rw [h.a] at hfa
  have HRK : Hid _ := hrk
  have HFA : Hid _ := hfa
  have HAL : Hid _ := hal
  have d1 : decide (b.view < 0) = false := by simpa using h.v0
  have d2 : decide (1048576 < b.view) = false := by simpa using h.v1
  have d3 : decide (b.seq < 0) = false := by simpa using h.s0
  have d4 : decide (1073741824 < b.seq) = false := by simpa using h.s1
  have d5 : decide (b.client < 0) = false := by simpa using h.c0
  have d6 : decide (15 < b.client) = false := by simpa using h.c1
  have d7 : decide (b.stamp < 0) = false := by simpa using h.t0
  have d8 : decide (1099511627776 < b.stamp) = false := by simpa using h.t1
  have d9 : decide ((32 : Int) < (b.digest.size : Int)) = false := by simpa using h.d
  have d10 : decide ((1048576 : Int) < (b.text.size : Int)) = false := by simpa using h.x
  have d11 : decide ((64 : Int) < (b.list.length : Int)) = false := by simpa using h.l
  have hs0 : 0 ≤ b.seq := by have := h.s0; omega
  have hs1 : b.seq ≤ 1073741824 := by have := h.s1; omega
  have kd0 : decide (b.kind < 1) = false := by rw [hk]; decide
  have kd1 : decide (13 < b.kind) = false := by rw [hk]; decide
  have ke1 : (b.kind == 1) = false := by rw [hk]; decide
  have ke2 : (b.kind == 2) = false := by rw [hk]; decide
  have ke3 : (b.kind == 3) = false := by rw [hk]; decide
  have ke4 : (b.kind == 4) = false := by rw [hk]; decide
  have ke5 : (b.kind == 5) = false := by rw [hk]; decide
  have ke6 : (b.kind == 6) = false := by rw [hk]; decide
  have ke7 : (b.kind == 7) = false := by rw [hk]; decide
  have ke8 : (b.kind == 8) = false := by rw [hk]; decide
  have ke9 : (b.kind == 9) = false := by rw [hk]; decide
  have ke13 : (b.kind == 13) = false := by rw [hk]; decide
  have ke10 : (b.kind == 10) = true := by rw [hk]; decide
  clear hrk hfa hal h hl hk
  unfold maxLen at h1 h2
  unfold Bd.val
  go_enter Try.func17, Try.ntmps17
  go_wp2_with fail
  refine (HFA.out _ (by go_grown)).mono ?_
  rintro e w1 ⟨rfl, b1⟩
  obtain ⟨a0, a1, a2, a3, a4, a5, a6, a7, a8⟩ := hnew.below b1
  have B1 : Below w.heap.size w w1 := (show Below w.heap.size w _ by go_grown).trans (b1.mono (by simp))
  have A1 := hnew.below b1
  clear hnew b1
  go_wp2_with fail
  refine (HAL.out _).mono ?_
  rintro e w2 ⟨rfl, b2⟩
  have B2 := B1.trans (b2.mono B1.size)
  have A2 := A1.below b2
  clear a0 a1 a2 a3 a4 a5 a6 a7 a8
  obtain ⟨a0, a1, a2, a3, a4, a5, a6, a7, a8⟩ := A2
  cases hA : allowedB b ⟨#[86, 67, 84, 88]⟩ ⟨#[84]⟩ with
  | false =>
    have hfin : Hid (right b = 14) := by show _ = _; rw [HRK.out, hA]; simp
    clear hA
    go_wp2
    go_ret
    exact ⟨by rw [hfin.out]; rfl, B2⟩
  | true =>
    cases hc : decide ((b.text.size : Int) ≤ 256) with
    | false =>
      have hfin : Hid (right b = 14) := by
        show _ = _
        rw [HRK.out, if_neg]
        rintro ⟨_, h⟩
        simp at hc; omega
      clear hA
      go_wp2
      go_ret
      exact ⟨by rw [hfin.out]; rfl, B2⟩
    | true =>
      have hfin : Hid (right b = 0) := by
        show _ = _
        rw [HRK.out, if_pos]
        refine ⟨hA, ?_⟩
        simp at hc; omega
      clear hA
      go_wp2
      go_ret
      exact ⟨by rw [hfin.out]; rfl, B2⟩

set_option maxRecDepth 100000 in
set_option maxHeartbeats 4000000 in
theorem rightRef_11 (b : Bd) (p : Option Addr) (c : Nat) (w : World) (hk : b.kind = 11) (h : Rg b) (h1 : b.digest.size ≤ maxLen) (h2 : b.text.size ≤ maxLen) (h3 : b.list.length < 9223372036854775807) (hl : Sgs w (.slice p b.list.length c) b.list) :
    Calls Try.prog 17 #[b.val (.slice p b.list.length c)] w fun e w' => e = .returned (.int .i64 (right b)) ∧ Below w.heap.size w w' := by
  have hnot : ∀ (x : Bool) (w : World), (Op.unary .not (.bool x)).run Try.prog w = .ok (.bool (!x)) w := fun _ _ => rfl
  have hrk := right_11 b hk h
  have hnew := bdAt_new w b (.slice p b.list.length c) 24
  have hfa := fun wx (hb : Below w.heap.size w wx) => fitAll_ref (.slice p b.list.length c) b.list wx (hl.below hb) h3
  have hal := fun wx => allowed_ref b p c ⟨#[86, 83, 68, 88, 76]⟩ ⟨#[83, 68, 76]⟩ wx h3 (by decide) (by decide)
  rw [h.a] at hfa
  have HRK : Hid _ := hrk
  have HFA : Hid _ := hfa
  have HAL : Hid _ := hal
  have d1 : decide (b.view < 0) = false := by simpa using h.v0
  have d2 : decide (1048576 < b.view) = false := by simpa using h.v1
  have d3 : decide (b.seq < 0) = false := by simpa using h.s0
  have d4 : decide (1073741824 < b.seq) = false := by simpa using h.s1
  have d5 : decide (b.client < 0) = false := by simpa using h.c0
  have d6 : decide (15 < b.client) = false := by simpa using h.c1
  have d7 : decide (b.stamp < 0) = false := by simpa using h.t0
  have d8 : decide (1099511627776 < b.stamp) = false := by simpa using h.t1
  have d9 : decide ((32 : Int) < (b.digest.size : Int)) = false := by simpa using h.d
  have d10 : decide ((1048576 : Int) < (b.text.size : Int)) = false := by simpa using h.x
  have d11 : decide ((64 : Int) < (b.list.length : Int)) = false := by simpa using h.l
  have hs0 : 0 ≤ b.seq := by have := h.s0; omega
  have hs1 : b.seq ≤ 1073741824 := by have := h.s1; omega
  have kd0 : decide (b.kind < 1) = false := by rw [hk]; decide
  have kd1 : decide (13 < b.kind) = false := by rw [hk]; decide
  have ke1 : (b.kind == 1) = false := by rw [hk]; decide
  have ke2 : (b.kind == 2) = false := by rw [hk]; decide
  have ke3 : (b.kind == 3) = false := by rw [hk]; decide
  have ke4 : (b.kind == 4) = false := by rw [hk]; decide
  have ke5 : (b.kind == 5) = false := by rw [hk]; decide
  have ke6 : (b.kind == 6) = false := by rw [hk]; decide
  have ke7 : (b.kind == 7) = false := by rw [hk]; decide
  have ke8 : (b.kind == 8) = false := by rw [hk]; decide
  have ke9 : (b.kind == 9) = false := by rw [hk]; decide
  have ke13 : (b.kind == 13) = false := by rw [hk]; decide
  have ke10 : (b.kind == 10) = false := by rw [hk]; decide
  have ke11 : (b.kind == 11) = true := by rw [hk]; decide
  clear hrk hfa hal h hl hk
  unfold maxLen at h1 h2
  unfold Bd.val
  go_enter Try.func17, Try.ntmps17
  go_wp2_with fail
  refine (HFA.out _ (by go_grown)).mono ?_
  rintro e w1 ⟨rfl, b1⟩
  obtain ⟨a0, a1, a2, a3, a4, a5, a6, a7, a8⟩ := hnew.below b1
  have B1 : Below w.heap.size w w1 := (show Below w.heap.size w _ by go_grown).trans (b1.mono (by simp))
  have A1 := hnew.below b1
  clear hnew b1
  go_wp2_with fail
  refine (HAL.out _).mono ?_
  rintro e w2 ⟨rfl, b2⟩
  have B2 := B1.trans (b2.mono B1.size)
  have A2 := A1.below b2
  clear a0 a1 a2 a3 a4 a5 a6 a7 a8
  obtain ⟨a0, a1, a2, a3, a4, a5, a6, a7, a8⟩ := A2
  cases hA : allowedB b ⟨#[86, 83, 68, 88, 76]⟩ ⟨#[83, 68, 76]⟩ with
  | false =>
    have hfin : Hid (right b = 14) := by show _ = _; rw [HRK.out, hA]; simp
    clear hA
    go_wp2
    go_ret
    exact ⟨by rw [hfin.out]; rfl, B2⟩
  | true =>
    have hfin : Hid (right b = 0) := by show _ = _; rw [HRK.out, hA]; simp
    clear hA
    go_wp2
    go_ret
    exact ⟨by rw [hfin.out]; rfl, B2⟩

set_option maxRecDepth 100000 in
set_option maxHeartbeats 4000000 in
theorem rightRef_12 (b : Bd) (p : Option Addr) (c : Nat) (w : World) (hk : b.kind = 12) (h : Rg b) (h1 : b.digest.size ≤ maxLen) (h2 : b.text.size ≤ maxLen) (h3 : b.list.length < 9223372036854775807) (hl : Sgs w (.slice p b.list.length c) b.list) :
    Calls Try.prog 17 #[b.val (.slice p b.list.length c)] w fun e w' => e = .returned (.int .i64 (right b)) ∧ Below w.heap.size w w' := by
  have hnot : ∀ (x : Bool) (w : World), (Op.unary .not (.bool x)).run Try.prog w = .ok (.bool (!x)) w := fun _ _ => rfl
  have hrk := right_12 b hk h
  have hnew := bdAt_new w b (.slice p b.list.length c) 24
  have hfa := fun wx (hb : Below w.heap.size w wx) => fitAll_ref (.slice p b.list.length c) b.list wx (hl.below hb) h3
  have hal := fun wx => allowed_ref b p c ⟨#[67, 88]⟩ ⟨#[]⟩ wx h3 (by decide) (by decide)
  rw [h.a] at hfa
  have HRK : Hid _ := hrk
  have HFA : Hid _ := hfa
  have HAL : Hid _ := hal
  have d1 : decide (b.view < 0) = false := by simpa using h.v0
  have d2 : decide (1048576 < b.view) = false := by simpa using h.v1
  have d3 : decide (b.seq < 0) = false := by simpa using h.s0
  have d4 : decide (1073741824 < b.seq) = false := by simpa using h.s1
  have d5 : decide (b.client < 0) = false := by simpa using h.c0
  have d6 : decide (15 < b.client) = false := by simpa using h.c1
  have d7 : decide (b.stamp < 0) = false := by simpa using h.t0
  have d8 : decide (1099511627776 < b.stamp) = false := by simpa using h.t1
  have d9 : decide ((32 : Int) < (b.digest.size : Int)) = false := by simpa using h.d
  have d10 : decide ((1048576 : Int) < (b.text.size : Int)) = false := by simpa using h.x
  have d11 : decide ((64 : Int) < (b.list.length : Int)) = false := by simpa using h.l
  have hs0 : 0 ≤ b.seq := by have := h.s0; omega
  have hs1 : b.seq ≤ 1073741824 := by have := h.s1; omega
  have kd0 : decide (b.kind < 1) = false := by rw [hk]; decide
  have kd1 : decide (13 < b.kind) = false := by rw [hk]; decide
  have ke1 : (b.kind == 1) = false := by rw [hk]; decide
  have ke2 : (b.kind == 2) = false := by rw [hk]; decide
  have ke3 : (b.kind == 3) = false := by rw [hk]; decide
  have ke4 : (b.kind == 4) = false := by rw [hk]; decide
  have ke5 : (b.kind == 5) = false := by rw [hk]; decide
  have ke6 : (b.kind == 6) = false := by rw [hk]; decide
  have ke7 : (b.kind == 7) = false := by rw [hk]; decide
  have ke8 : (b.kind == 8) = false := by rw [hk]; decide
  have ke9 : (b.kind == 9) = false := by rw [hk]; decide
  have ke13 : (b.kind == 13) = false := by rw [hk]; decide
  have ke10 : (b.kind == 10) = false := by rw [hk]; decide
  have ke11 : (b.kind == 11) = false := by rw [hk]; decide
  have ke12 : (b.kind == 12) = true := by rw [hk]; decide
  clear hrk hfa hal h hl hk
  unfold maxLen at h1 h2
  unfold Bd.val
  go_enter Try.func17, Try.ntmps17
  go_wp2_with fail
  refine (HFA.out _ (by go_grown)).mono ?_
  rintro e w1 ⟨rfl, b1⟩
  obtain ⟨a0, a1, a2, a3, a4, a5, a6, a7, a8⟩ := hnew.below b1
  have B1 : Below w.heap.size w w1 := (show Below w.heap.size w _ by go_grown).trans (b1.mono (by simp))
  have A1 := hnew.below b1
  clear hnew b1
  go_wp2_with fail
  refine (HAL.out _).mono ?_
  rintro e w2 ⟨rfl, b2⟩
  have B2 := B1.trans (b2.mono B1.size)
  have A2 := A1.below b2
  clear a0 a1 a2 a3 a4 a5 a6 a7 a8
  obtain ⟨a0, a1, a2, a3, a4, a5, a6, a7, a8⟩ := A2
  cases hA : allowedB b ⟨#[67, 88]⟩ ⟨#[]⟩ with
  | false =>
    have hfin : Hid (right b = 14) := by show _ = _; rw [HRK.out, hA]; simp
    clear hA
    go_wp2
    go_ret
    exact ⟨by rw [hfin.out]; rfl, B2⟩
  | true =>
    cases hc : decide ((b.text.size : Int) ≤ 64) with
    | false =>
      have hfin : Hid (right b = 14) := by
        show _ = _
        rw [HRK.out, if_neg]
        rintro ⟨_, h⟩
        simp at hc; omega
      clear hA
      go_wp2
      go_ret
      exact ⟨by rw [hfin.out]; rfl, B2⟩
    | true =>
      have hfin : Hid (right b = 0) := by
        show _ = _
        rw [HRK.out, if_pos]
        refine ⟨hA, ?_⟩
        simp at hc; omega
      clear hA
      go_wp2
      go_ret
      exact ⟨by rw [hfin.out]; rfl, B2⟩

set_option maxRecDepth 100000 in
set_option maxHeartbeats 4000000 in
theorem rightRef_13 (b : Bd) (p : Option Addr) (c : Nat) (w : World) (hk : b.kind = 13) (h : Rg b) (h1 : b.digest.size ≤ maxLen) (h2 : b.text.size ≤ maxLen) (h3 : b.list.length < 9223372036854775807) (hl : Sgs w (.slice p b.list.length c) b.list) :
    Calls Try.prog 17 #[b.val (.slice p b.list.length c)] w fun e w' => e = .returned (.int .i64 (right b)) ∧ Below w.heap.size w w' := by
  have hnot : ∀ (x : Bool) (w : World), (Op.unary .not (.bool x)).run Try.prog w = .ok (.bool (!x)) w := fun _ _ => rfl
  have hrk := right_13 b hk h
  have hnew := bdAt_new w b (.slice p b.list.length c) 24
  have hfa := fun wx (hb : Below w.heap.size w wx) => fitAll_ref (.slice p b.list.length c) b.list wx (hl.below hb) h3
  have hal := fun wx => allowed_ref b p c ⟨#[83, 68, 88, 76]⟩ ⟨#[83, 68, 76]⟩ wx h3 (by decide) (by decide)
  rw [h.a] at hfa
  have HRK : Hid _ := hrk
  have HFA : Hid _ := hfa
  have HAL : Hid _ := hal
  have d1 : decide (b.view < 0) = false := by simpa using h.v0
  have d2 : decide (1048576 < b.view) = false := by simpa using h.v1
  have d3 : decide (b.seq < 0) = false := by simpa using h.s0
  have d4 : decide (1073741824 < b.seq) = false := by simpa using h.s1
  have d5 : decide (b.client < 0) = false := by simpa using h.c0
  have d6 : decide (15 < b.client) = false := by simpa using h.c1
  have d7 : decide (b.stamp < 0) = false := by simpa using h.t0
  have d8 : decide (1099511627776 < b.stamp) = false := by simpa using h.t1
  have d9 : decide ((32 : Int) < (b.digest.size : Int)) = false := by simpa using h.d
  have d10 : decide ((1048576 : Int) < (b.text.size : Int)) = false := by simpa using h.x
  have d11 : decide ((64 : Int) < (b.list.length : Int)) = false := by simpa using h.l
  have hs0 : 0 ≤ b.seq := by have := h.s0; omega
  have hs1 : b.seq ≤ 1073741824 := by have := h.s1; omega
  have kd0 : decide (b.kind < 1) = false := by rw [hk]; decide
  have kd1 : decide (13 < b.kind) = false := by rw [hk]; decide
  have ke1 : (b.kind == 1) = false := by rw [hk]; decide
  have ke2 : (b.kind == 2) = false := by rw [hk]; decide
  have ke3 : (b.kind == 3) = false := by rw [hk]; decide
  have ke4 : (b.kind == 4) = false := by rw [hk]; decide
  have ke5 : (b.kind == 5) = false := by rw [hk]; decide
  have ke6 : (b.kind == 6) = false := by rw [hk]; decide
  have ke7 : (b.kind == 7) = false := by rw [hk]; decide
  have ke8 : (b.kind == 8) = false := by rw [hk]; decide
  have ke9 : (b.kind == 9) = false := by rw [hk]; decide
  have ke13 : (b.kind == 13) = true := by rw [hk]; decide
  clear hrk hfa hal h hl hk
  unfold maxLen at h1 h2
  unfold Bd.val
  go_enter Try.func17, Try.ntmps17
  go_wp2_with fail
  refine (HFA.out _ (by go_grown)).mono ?_
  rintro e w1 ⟨rfl, b1⟩
  obtain ⟨a0, a1, a2, a3, a4, a5, a6, a7, a8⟩ := hnew.below b1
  have B1 : Below w.heap.size w w1 := (show Below w.heap.size w _ by go_grown).trans (b1.mono (by simp))
  have A1 := hnew.below b1
  clear hnew b1
  go_wp2_with fail
  refine (HAL.out _).mono ?_
  rintro e w2 ⟨rfl, b2⟩
  have B2 := B1.trans (b2.mono B1.size)
  have A2 := A1.below b2
  clear a0 a1 a2 a3 a4 a5 a6 a7 a8
  obtain ⟨a0, a1, a2, a3, a4, a5, a6, a7, a8⟩ := A2
  cases hA : allowedB b ⟨#[83, 68, 88, 76]⟩ ⟨#[83, 68, 76]⟩ with
  | false =>
    have hfin : Hid (right b = 14) := by show _ = _; rw [HRK.out, hA]; simp
    clear hA
    go_wp2
    go_ret
    exact ⟨by rw [hfin.out]; rfl, B2⟩
  | true =>
    cases hc : (b.seq % 4 == 0) with
    | false =>
      have hfin : Hid (right b = 14) := by
        show _ = _
        rw [HRK.out, if_neg]
        rintro ⟨_, h⟩
        simp at hc; omega
      clear hA
      go_wp2
      go_ret
      exact ⟨by rw [hfin.out]; rfl, B2⟩
    | true =>
      have hfin : Hid (right b = 0) := by
        show _ = _
        rw [HRK.out, if_pos]
        refine ⟨hA, ?_⟩
        simp at hc; omega
      clear hA
      go_wp2
      go_ret
      exact ⟨by rw [hfin.out]; rfl, B2⟩

end Go.Proofs.Ytbfipafhmbgnnaa
