/- The reader's small steps: its making, its end, a count, the reason of a panic. -/
import Derived.Test.YtbbhihkeljpikaaNum
namespace Go.Proofs.Ytbbhihkeljpikaa
open Go.RowKit
set_option linter.unusedSimpArgs false
set_option linter.unusedVariables false

theorem reason_calls (e0 : Int) (w : World) :
    Calls Try.prog 58 #[.iface 141 (.agg #[.int .i64 e0])] w fun e w' => e = .returned (.int .i64 e0) ∧ Below w.heap.size w w' := by
  have hta : ∀ w, (Instr.typeAssert (.iface 141 (.agg #[.int .i64 e0])) 20 141 true).run Try.prog w = .ok (.tuple #[.agg #[.int .i64 e0], .bool true]) w := fun _ => by kernel_rfl
  go_enter Try.func58, Try.ntmps58
  go_wp2
  go_ret
  exact ⟨rfl, (Below.refl _ _).alloc (Nat.le_refl _) _⟩

theorem mind_calls (e0 : Int) (w : World) :
    Calls Try.prog 75 #[.int .i64 e0] w fun e w' => (if e0 = 0 then e = .returned (.tuple #[]) else e = .panicked (gu e0)) ∧ w' = w := by
  by_cases h : e0 = 0
  · subst h
    go_enter Try.func75, Try.ntmps75
    go_wp2
    go_end0
    exact ⟨rfl, rfl⟩
  · have hb : (e0 != 0) = true := by simpa using h
    go_enter Try.func75, Try.ntmps75
    go_wp2
    exact ⟨rfl, rfl, by rw [if_neg h]; rfl, rfl⟩

theorem readerOf_ok (s : ByteArray) (m : Int) (w : World) (ha : (s.size : Int) ≤ m) :
    Calls Try.prog 59 #[.string s, .int .i64 m] w fun e w' => e = .returned (.pointer (some ⟨w.heap.size, 0, none⟩)) ∧ w' = w.alloc (.cells #[.string s, .int .i64 0] 144) := by
  have hd : decide (m < (s.size : Int)) = false := by simpa using ha
  go_enter Try.func59, Try.ntmps59
  go_wp2
  go_ret
  exact ⟨rfl, rfl⟩

theorem readerOf_bad (s : ByteArray) (m : Int) (w : World) (ha : m < (s.size : Int)) :
    Calls Try.prog 59 #[.string s, .int .i64 m] w fun e w' => e = .panicked (gu 4) ∧ w' = w := by
  go_enter Try.func59, Try.ntmps59
  go_wp2
  exact ⟨rfl, rfl, rfl, rfl⟩

theorem rdr_new (s : ByteArray) (a : Int) (w : World) (t : TypeId) (b : Nat) (hb : b = w.heap.size) : Rdr (w.alloc (.cells #[.string s, .int .i64 a] t)) b s a := by
  subst hb
  refine ⟨?_, ?_, ?_, ?_⟩
  · simp [go_sem]
  · simp [go_sem]
  · simp [go_sem]
  · simp

theorem end_calls (b : Nat) (s : ByteArray) (a : Nat) (w : World) (hr : Rdr w b s a) :
    Calls Try.prog 61 #[.pointer (some ⟨b, 0, none⟩)] w fun e w' => (if a < s.size then e = .panicked (gu 12) else e = .returned (.tuple #[])) ∧ Off b w w' ∧ Rdr w' b s a := by
  obtain ⟨h1, h2, h3, h4⟩ := id hr
  by_cases h : a < s.size
  · have hd : decide ((a : Int) < s.size) = true := by simpa using h
    go_enter Try.func61, Try.ntmps61
    go_wp2
    go_region
    go_wp2
    exact ⟨rfl, rfl, by rw [if_pos h]; rfl, (Off.refl _ _).drew, hr.drew⟩
  · have hd : decide ((a : Int) < s.size) = false := by simpa using h
    go_enter Try.func61, Try.ntmps61
    go_wp2
    go_region
    go_wp2
    go_end0
    exact ⟨rfl, (Off.refl _ _).drew, hr.drew⟩

/-- How many follow, of at most so many. -/
def rdCount (s : ByteArray) (a most : Nat) : Except Int (Nat × Nat) :=
  match rdInt s a with
  | .ok (n, nx) => if most < n then .error 2 else .ok (n, nx)
  | .error e => .error e

theorem rdF_le (s : ByteArray) (a : Nat) : ∀ (k i n m nx : Nat), rdF s a k i n = .ok (m, nx) → a ≤ nx ∧ nx ≤ s.size ∧ m ≤ 9007199254740992 := by
  intro k
  induction k with
  | zero => intro i n m nx h; simp [rdF] at h
  | succ k ih =>
    intro i n m nx h
    simp only [rdF] at h
    split at h
    · split at h
      · exact ih _ _ _ _ h
      · split at h
        · cases h
        · simp only [Except.ok.injEq, Prod.mk.injEq] at h; omega
    · cases h

theorem rdInt_le {s : ByteArray} {a m nx : Nat} (h : rdInt s a = .ok (m, nx)) : a ≤ nx ∧ nx ≤ s.size ∧ m ≤ 9007199254740992 := rdF_le s a 8 0 0 m nx h

theorem count_calls (b : Nat) (s : ByteArray) (a most : Nat) (w : World) (hr : Rdr w b s a) (hs : s.size ≤ maxLen) (ha : a ≤ s.size) :
    Calls Try.prog 82 #[.pointer (some ⟨b, 0, none⟩), .int .i64 most] w (Reads (rdCount s a most) (fun n => .int .i64 n) b s w) := by
  have hn := number_calls b s a w hr hs ha
  unfold rdCount
  cases hrd : rdInt s a with
  | error er =>
    rw [hrd] at hn
    go_enter Try.func82, Try.ntmps82
    go_wp2_with fail
    refine hn.mono ?_
    rintro e w1 ⟨rfl, ho⟩
    exact ⟨rfl, rfl, ho⟩
  | ok p =>
    obtain ⟨n, nx⟩ := p
    have hle := rdInt_le hrd
    rw [hrd] at hn
    clear hrd
    by_cases h : most < n
    · have hd : decide ((most : Int) < n) = true := by simpa using h
      simp only [h, if_true]
      go_enter Try.func82, Try.ntmps82
      go_wp2_with fail
      refine hn.mono ?_
      rintro e w1 ⟨rfl, ho, hr1⟩
      go_wp2
      exact ⟨rfl, rfl, rfl, ho⟩
    · have hd : decide ((most : Int) < n) = false := by simpa using h
      simp only [h, if_false]
      go_enter Try.func82, Try.ntmps82
      go_wp2_with fail
      refine hn.mono ?_
      rintro e w1 ⟨rfl, ho, hr1⟩
      go_wp2
      go_ret
      exact ⟨rfl, ho, hr1⟩
end Go.Proofs.Ytbbhihkeljpikaa
