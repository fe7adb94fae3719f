/- What a kind asks of numbers and texts. -/
import Derived.Test.YtocphdikppeijaaWx09
namespace Go.Proofs.Ytocphdikppeijaa
open Go.RowKit
set_option linter.unusedVariables false
set_option linter.unusedSimpArgs false

def fitsN (b : Bd) (s : Sh) : Bool := decide (0 ≤ b.view ∧ b.view ≤ 1048576) && decide (0 ≤ b.seq ∧ b.seq ≤ 1073741824) && (b.seq.tmod s.every == 0) && decide (0 ≤ b.client ∧ b.client ≤ s.client) && decide (0 ≤ b.stamp ∧ b.stamp ≤ 1099511627776)
def fitsT (b : Bd) (s : Sh) : Bool := decide (b.digest.size ≤ 32) && decide (b.text.size ≤ s.text) && decide (b.list.length ≤ s.list) && b.list.all sgOk

set_option maxHeartbeats 1000000 in
theorem fitsNumbers_calls (b : Bd) (lv : Value) (s : Sh) (w : World) (hev : 1 ≤ s.every ∧ s.every ≤ 4) :
    Calls Try.prog 87 #[b.val lv, s.val] w fun e w' => e = .returned (.bool (fitsN b s)) ∧ Below w.heap.size w w' := by
  unfold Bd.val Sh.val fitsN
  have w1 := within_calls b.view 1048576
  have w2 := within_calls b.seq 1073741824
  have w3 := within_calls b.client s.client
  have w4 := within_calls b.stamp 1099511627776
  have hev0 : ¬ (s.every : Int) = 0 := by omega
  have hev1 : ¬ (s.every : Int) = -1 := by omega
  cases e1 : decide (0 ≤ b.view ∧ b.view ≤ 1048576) with
  | false =>
    rw [e1] at w1
    have W1 : Hid _ := w1
    clear w1 w2 w3 w4 e1
    go_enter Try.func87, Try.ntmps87
    go_wp2_with fail
    refine (W1.out _).mono ?_
    rintro e wa ⟨rfl, rfl⟩
    go_wp2
    go_ret
    exact ⟨rfl, by go_grown⟩
  | true =>
    rw [e1] at w1
    have W1 : Hid _ := w1
    clear w1 e1
    cases e2 : decide (0 ≤ b.seq ∧ b.seq ≤ 1073741824) with
    | false =>
      rw [e2] at w2
      have W2 : Hid _ := w2
      clear w2 w3 w4 e2
      go_enter Try.func87, Try.ntmps87
      go_wp2_with fail
      refine (W1.out _).mono ?_
      rintro e wa ⟨rfl, rfl⟩
      go_wp2_with fail
      refine (W2.out _).mono ?_
      rintro e wa ⟨rfl, rfl⟩
      go_wp2
      go_ret
      exact ⟨rfl, by go_grown⟩
    | true =>
      have h2 : 0 ≤ b.seq ∧ b.seq ≤ 1073741824 := of_decide_eq_true e2
      rw [e2] at w2
      have W2 : Hid _ := w2
      have hmod : wrap64 (b.seq.tmod s.every) = b.seq.tmod s.every := by
        have : b.seq.tmod s.every = b.seq % s.every := Int.tmod_eq_emod_of_nonneg h2.1
        have h3 := Int.emod_nonneg b.seq hev0
        have h4 := Int.emod_lt_of_pos b.seq (show (0 : Int) < s.every by omega)
        rw [this]; unfold wrap64; omega
      clear w2 e2 h2
      cases h3 : (b.seq.tmod s.every == 0) with
      | false =>
        clear w3 w4
        go_enter Try.func87, Try.ntmps87
        go_wp2_with fail
        refine (W1.out _).mono ?_
        rintro e wa ⟨rfl, rfl⟩
        go_wp2_with fail
        refine (W2.out _).mono ?_
        rintro e wa ⟨rfl, rfl⟩
        go_wp2
        go_ret
        exact ⟨rfl, by go_grown⟩
      | true =>
        cases e3 : decide (0 ≤ b.client ∧ b.client ≤ (s.client : Int)) with
        | false =>
          rw [e3] at w3
          have W3 : Hid _ := w3
          clear w3 w4 e3
          go_enter Try.func87, Try.ntmps87
          go_wp2_with fail
          refine (W1.out _).mono ?_
          rintro e wa ⟨rfl, rfl⟩
          go_wp2_with fail
          refine (W2.out _).mono ?_
          rintro e wa ⟨rfl, rfl⟩
          go_wp2_with fail
          refine (W3.out _).mono ?_
          rintro e wa ⟨rfl, rfl⟩
          go_wp2
          go_ret
          exact ⟨rfl, by go_grown⟩
        | true =>
          rw [e3] at w3
          have W3 : Hid _ := w3
          clear w3 e3
          cases e4 : decide (0 ≤ b.stamp ∧ b.stamp ≤ 1099511627776) with
          | false =>
            rw [e4] at w4
            have W4 : Hid _ := w4
            clear w4 e4
            go_enter Try.func87, Try.ntmps87
            go_wp2_with fail
            refine (W1.out _).mono ?_
            rintro e wa ⟨rfl, rfl⟩
            go_wp2_with fail
            refine (W2.out _).mono ?_
            rintro e wa ⟨rfl, rfl⟩
            go_wp2_with fail
            refine (W3.out _).mono ?_
            rintro e wa ⟨rfl, rfl⟩
            go_wp2_with fail
            refine (W4.out _).mono ?_
            rintro e wa ⟨rfl, rfl⟩
            go_wp2
            go_ret
            exact ⟨rfl, by go_grown⟩
          | true =>
            rw [e4] at w4
            have W4 : Hid _ := w4
            clear w4 e4
            go_enter Try.func87, Try.ntmps87
            go_wp2_with fail
            refine (W1.out _).mono ?_
            rintro e wa ⟨rfl, rfl⟩
            go_wp2_with fail
            refine (W2.out _).mono ?_
            rintro e wa ⟨rfl, rfl⟩
            go_wp2_with fail
            refine (W3.out _).mono ?_
            rintro e wa ⟨rfl, rfl⟩
            go_wp2_with fail
            refine (W4.out _).mono ?_
            rintro e wa ⟨rfl, rfl⟩
            go_wp2
            go_ret
            exact ⟨rfl, by go_grown⟩

set_option maxHeartbeats 1000000 in
theorem fitsTexts_calls (b : Bd) (p : Option Addr) (c : Nat) (s : Sh) (w : World) (h1 : b.digest.size ≤ maxLen) (h2 : b.text.size ≤ maxLen) (h3 : b.list.length < 9223372036854775807) (h4 : s.text ≤ 1048576) (h5 : s.list ≤ 64) (hl : Sgs w (.slice p b.list.length c) b.list) :
    Calls Try.prog 88 #[b.val (.slice p b.list.length c), s.val] w fun e w' => e = .returned (.bool (fitsT b s)) ∧ Below w.heap.size w w' := by
  have hall := fun wx (hb : Below w.heap.size w wx) => areSigned_calls (.slice p b.list.length c) b.list wx (hl.below hb) h3
  have HA : Hid _ := hall
  clear hall hl
  unfold maxLen at h1 h2
  unfold Bd.val Sh.val fitsT
  by_cases g1 : b.digest.size ≤ 32
  · have e1 : decide ((b.digest.size : Int) ≤ 32) = true := by simp only [decide_eq_true_eq]; omega
    have d1 : decide (b.digest.size ≤ 32) = true := by simpa using g1
    rw [d1]
    by_cases g2 : b.text.size ≤ s.text
    · have e2 : decide ((b.text.size : Int) ≤ s.text) = true := by simp only [decide_eq_true_eq]; omega
      have d2 : decide (b.text.size ≤ s.text) = true := by simpa using g2
      rw [d2]
      by_cases g3 : b.list.length ≤ s.list
      · have e3 : decide ((b.list.length : Int) ≤ s.list) = true := by simp only [decide_eq_true_eq]; omega
        have d3 : decide (b.list.length ≤ s.list) = true := by simpa using g3
        rw [d3]
        clear d1 d2 d3
        go_enter Try.func88, Try.ntmps88
        go_wp2_with fail
        refine (HA.out _ (by go_grown)).mono ?_
        rintro e wa ⟨rfl, hb⟩
        go_wp2
        go_ret
        exact ⟨rfl, (show Below w.heap.size w _ by go_grown).trans (hb.mono (by simp; omega))⟩
      · have e3 : decide ((b.list.length : Int) ≤ s.list) = false := by simp only [decide_eq_false_iff_not]; omega
        have d3 : decide (b.list.length ≤ s.list) = false := by simpa using g3
        rw [d3]
        clear d1 d2 d3
        go_enter Try.func88, Try.ntmps88
        go_wp2
        go_ret
        exact ⟨rfl, by go_grown⟩
    · have e2 : decide ((b.text.size : Int) ≤ s.text) = false := by simp only [decide_eq_false_iff_not]; omega
      have d2 : decide (b.text.size ≤ s.text) = false := by simpa using g2
      rw [d2]
      clear d1 d2
      go_enter Try.func88, Try.ntmps88
      go_wp2
      go_ret
      exact ⟨rfl, by go_grown⟩
  · have e1 : decide ((b.digest.size : Int) ≤ 32) = false := by simp only [decide_eq_false_iff_not]; omega
    have d1 : decide (b.digest.size ≤ 32) = false := by simpa using g1
    rw [d1]
    clear d1
    go_enter Try.func88, Try.ntmps88
    go_wp2
    go_ret
    exact ⟨rfl, by go_grown⟩
end Go.Proofs.Ytocphdikppeijaa
