/- The reader's text. -/
import Derived.Test.YtbbhihkeljpikaaClone
import Derived.Deep.RegionWith
namespace Go.Proofs.Ytbbhihkeljpikaa
open Go.RowKit
set_option linter.unusedSimpArgs false
set_option linter.unusedVariables false

def rdText (s : ByteArray) (a : Nat) : Except Int (ByteArray × Nat) :=
  match rdInt s a with
  | .error e => .error e
  | .ok (n, nx) => if 1048576 < n then .error 4 else if s.size < nx + n then .error 10 else .ok (s.extract nx (nx + n), nx + n)

theorem rdText_le {s : ByteArray} {a nx : Nat} {t : ByteArray} (h : rdText s a = .ok (t, nx)) : a ≤ nx ∧ nx ≤ s.size ∧ t.size ≤ 1048576 := by
  unfold rdText at h
  cases hr : rdInt s a with
  | error e => rw [hr] at h; cases h
  | ok p =>
    obtain ⟨n, m⟩ := p
    have hl := rdInt_le hr
    rw [hr] at h
    simp only at h
    split at h
    · cases h
    · split at h
      · cases h
      · simp only [Except.ok.injEq, Prod.mk.injEq] at h
        obtain ⟨rfl, rfl⟩ := h
        refine ⟨by omega, by omega, ?_⟩
        rw [ByteArray.size_extract]; omega

set_option maxRecDepth 100000 in
set_option maxHeartbeats 1000000 in
theorem text_calls (b : Nat) (s : ByteArray) (a : Nat) (w : World) (hr : Rdr w b s a) (hs : s.size ≤ maxLen) (ha : a ≤ s.size) :
    Calls Try.prog 71 #[.pointer (some ⟨b, 0, none⟩)] w (Reads (rdText s a) (fun t => .string t) b s w) := by
  have hn := number_calls b s a w hr hs ha
  unfold maxLen at hs
  unfold rdText
  cases hrd : rdInt s a with
  | error er =>
    rw [hrd] at hn
    go_enter Try.func71, Try.ntmps71
    go_wp2_with fail
    refine hn.mono ?_
    rintro e w1 ⟨rfl, ho⟩
    exact ⟨rfl, rfl, ho⟩
  | ok p =>
    obtain ⟨n, nx⟩ := p
    have hle := rdInt_le hrd
    rw [hrd] at hn
    clear hrd
    by_cases h : 1048576 < n
    · have hd : decide ((1048576 : Int) < n) = true := by simp only [decide_eq_true_eq]; omega
      simp only [h, if_true]
      go_enter Try.func71, Try.ntmps71
      go_wp2_with fail
      refine hn.mono ?_
      rintro e w1 ⟨rfl, ho, hr1⟩
      go_wp2
      exact ⟨rfl, rfl, rfl, ho⟩
    · have hd : decide ((1048576 : Int) < n) = false := by simp only [decide_eq_false_iff_not]; omega
      simp only [h, if_false]
      by_cases h2 : s.size < nx + n
      · have hd2 : decide ((s.size : Int) - nx < n) = true := by simp only [decide_eq_true_eq]; omega
        simp only [h2, if_true]
        go_enter Try.func71, Try.ntmps71
        go_wp2_with fail
        refine hn.mono ?_
        rintro e w1 ⟨rfl, ho, hr1⟩
        obtain ⟨r1, r2, r3, r4⟩ := id hr1
        go_wp2
        go_region
        go_wp2
        exact ⟨rfl, rfl, rfl, ho.drew⟩
      · have hd2 : decide ((s.size : Int) - nx < n) = false := by simp only [decide_eq_false_iff_not]; omega
        have hcl := fun wx => clone_calls (s.extract nx (nx + n)) wx (by rw [ByteArray.size_extract]; omega)
        have HC : Hid _ := hcl
        clear hcl
        have hwr : IntKind.i64.wrap ((nx : Int) + (n : Int)) = ((nx + n : Nat) : Int) := by rw [IntKind.wrap_i64]; omega
        have hsl : ∀ wx : World, (Instr.slice 9 (.string s) (some (.int .i64 (nx : Int))) (some (.int .i64 ((nx : Int) + (n : Int)))) none).run Try.prog wx = .ok (.string (s.extract nx (nx + n))) wx := fun wx => by
          have h := run_slice_string (P := Try.prog) wx 9 s .i64 .i64 (nx : Int) ((nx : Int) + (n : Int)) Try.underlying9 (by omega) (by omega) (by omega)
          have e1 : ((nx : Int)).toNat = nx := by omega
          have e2 : ((nx : Int) + (n : Int)).toNat = nx + n := by omega
          rw [e1, e2] at h
          exact h
        simp only [h2, if_false]
        go_enter Try.func71, Try.ntmps71
        go_wp2_with fail
        refine hn.mono ?_
        rintro e w1 ⟨rfl, ho, hr1⟩
        obtain ⟨r1, r2, r3, r4⟩ := id hr1
        go_wp2
        go_region
        go_wp2
        go_region_with (go_at_call 79; refine (HC.out _).mono ?_; rintro e w2 ⟨rfl, hb2⟩)
        all_goals
          have hr2 := hr1.drew.drew.below hb2
          obtain ⟨q1, q2, q3, q4⟩ := id hr2
          go_wp2
          go_ret
          exact ⟨rfl, ((ho.drew.drew.trans (Off.of_below hb2)).setCell (p := ⟨b, 1, none⟩) rfl _), hr2.set _⟩

/-- What a face answers: what was read, the place behind it, OK; or nothing, and why. -/
def got (r : Except Int (Nat × Nat)) : Array Value :=
  match r with
  | .ok (n, nx) => #[.int .i64 n, .int .i64 nx, .int .i64 0]
  | .error e => #[.int .i64 0, .int .i64 0, .int .i64 e]

def gotT (r : Except Int (ByteArray × Nat)) : Array Value :=
  match r with
  | .ok (t, nx) => #[.string t, .int .i64 nx, .int .i64 0]
  | .error e => #[.string ⟨#[]⟩, .int .i64 0, .int .i64 e]

end Go.Proofs.Ytbbhihkeljpikaa
