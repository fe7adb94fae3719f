/- The reader's number. -/
import Derived.Test.YtpcafjbebhcilaaGreatTm01
namespace Go.Proofs.YtpcafjbebhcilaaGreat
open Go.RowKit
set_option linter.unusedSimpArgs false
set_option linter.unusedVariables false

/-- What reading gives: the value and the place behind it, or a panic of the reader's own. -/
def Reads {α : Type} (r : Except Int (α × Nat)) (val : α → Value) (b : Nat) (s : ByteArray) (w : World) (e : Ending) (w' : World) : Prop :=
  match r with
  | .ok (x, nx) => e = .returned (val x) ∧ Off b w w' ∧ Rdr w' b s nx
  | .error er => e = .panicked (gu er) ∧ Off b w w'

theorem rdF_step (s : ByteArray) (a k m : Nat) (hk : k ≤ 7) (hlt : a + k < s.size) :
    rdF s a (8 - k) k m = if 128 ≤ s[a + k].toNat then rdF s a (7 - k) (k + 1) (m + s[a + k].toNat % 128 * 128 ^ k)
      else if (s[a + k].toNat = 0 ∧ 0 < k) ∨ 9007199254740992 < m + s[a + k].toNat % 128 * 128 ^ k then .error 11
      else .ok (m + s[a + k].toNat % 128 * 128 ^ k, a + k + 1) := by
  have e : 8 - k = (7 - k) + 1 := by omega
  rw [e]
  simp only [rdF, hlt, dite_true]

set_option maxRecDepth 100000 in
theorem number_calls (b : Nat) (s : ByteArray) (a : Nat) (w : World) (hr : Rdr w b s a) (hs : s.size ≤ maxLen) (ha : a ≤ s.size) :
    Calls Tryz.prog 103 #[.pointer (some ⟨b, 0, none⟩)] w (Reads (rdInt s a) (fun n => .int .i64 n) b s w) := by
  have hs' := hs
  unfold maxLen at hs
  go_enter Tryz.func103, Tryz.ntmps103
  go_wp2
  go_loopw [3, 4] (fun n i w1 => ∃ k m : Nat, k ≤ 7 ∧ i = .int .i64 k ∧ n = .int .i64 m ∧ m < 128 ^ k ∧ Hid (rdF s a (8 - k) k m = rdInt s a) ∧ a + k ≤ s.size ∧ Off b w w1 ∧ Rdr w1 b s ((a + k : Nat) : Int)) (fun _ i _ => 8 - (intOf i).toNat)
  case atStart => exact ⟨0, 0, by omega, rfl, rfl, by simp, rfl, by omega, Off.refl _ _, hr⟩
  case round =>
    obtain ⟨k, m, hk, rfl, rfl, hm, hR, hak, ho, hrd⟩ := hrel
    by_cases hlt : a + k < s.size
    · have hc : s[a + k].toNat < 256 := s[a + k].toNat_lt
      have hstep : Hid (_ = _) := (rdF_step s a k m hk hlt).symm.trans hR.out
      obtain ⟨c, hcc⟩ : ∃ c, s[a + k].toNat = c := ⟨_, rfl⟩
      have hj := or7 m _ k hk hm hc
      have hm' := lt128 m (s[a + k].toNat) k hm
      have hnx := next_ok b s (a + k) wr hrd hs' hlt
      have hsm := small128 (s[a + k].toNat % 128) k hk (by omega)
      rw [hcc] at hc hstep hj hm' hnx hsm
      have HN := hnx
      clear hnx hR hcc
      generalize m + c % 128 * 128 ^ k = m' at *
      have hm7 : m' < 9223372036854775808 := by
        have h1 : (128 : Nat) ^ (k + 1) ≤ 128 ^ 8 := Nat.pow_le_pow_right (by decide) (by omega)
        have e : (128 : Nat) ^ 8 < 9223372036854775808 := by decide
        omega
      by_cases h128 : 128 ≤ c
      · rw [if_pos h128] at hstep
        by_cases hk7 : k < 7
        · go_wp2_with fail
          refine HN.mono ?_
          rintro e w1 ⟨rfl, ho1, hr1⟩
          go_wp2
          go_roundw
          case rel => exact ⟨k + 1, m', by omega, by go_num, rfl, hm', (by rw [show 8 - (k + 1) = 7 - k by omega]; exact hstep), by omega, ho.trans ho1, hr1⟩
          case measure => simp [intOf]; omega
        · have e7 : k = 7 := by omega
          subst e7
          have hfin : rdInt s a = .error 11 := hstep.out.symm
          go_wp2_with fail
          refine HN.mono ?_
          rintro e w1 ⟨rfl, ho1, hr1⟩
          go_wp2
          exact ⟨rfl, rfl, by unfold Reads; rw [hfin]; exact ⟨rfl, ho.trans ho1⟩⟩
      · rw [if_neg h128] at hstep
        have hcn : (c : Int) < 128 := by omega
        by_cases hbad : (c = 0 ∧ 0 < k) ∨ 9007199254740992 < m'
        · rw [if_pos hbad] at hstep
          by_cases h1 : c = 0
          · have h2 : 0 < (k : Int) := by
              rcases hbad with h | h
              · omega
              · by_cases hk0 : k = 0
                · subst hk0; have : m' < 128 := hm'; omega
                · omega
            subst h1
            clear hbad
            go_wp2_with fail
            refine HN.mono ?_
            rintro e w1 ⟨rfl, ho1, hr1⟩
            go_wp2
            all_goals exact ⟨rfl, rfl, by unfold Reads; rw [← hstep.out]; exact ⟨rfl, ho.trans ho1⟩⟩
          · have h2 : 9007199254740992 < (m' : Int) := by
              rcases hbad with h | h
              · exact absurd h.1 h1
              · omega
            have hc0' : ((c : Int) == 0) = false := by simpa using h1
            clear hbad h1
            go_wp2_with fail
            refine HN.mono ?_
            rintro e w1 ⟨rfl, ho1, hr1⟩
            go_wp2
            all_goals exact ⟨rfl, rfl, by unfold Reads; rw [← hstep.out]; exact ⟨rfl, ho.trans ho1⟩⟩
        · rw [if_neg hbad] at hstep
          have hm53 : ¬ 9007199254740992 < (m' : Int) := by omega
          have hz : c = 0 → k = 0 := fun h => by omega
          by_cases hc0 : c = 0
          · have hk0 := hz hc0
            subst hc0 hk0
            clear hbad hz
            have hj' : bits .or .i64 (m : Int) (wrap64 (wrap64 (bits .and .u8 0 127))) = (m' : Int) := by simpa using hj
            go_wp2_with fail
            refine HN.mono ?_
            rintro e w1 ⟨rfl, ho1, hr1⟩
            go_wp2
            go_ret
            unfold Reads; rw [← hstep.out]; exact ⟨rfl, ho.trans ho1, hr1⟩
          · clear hbad hz
            have hc0' : ((c : Int) == 0) = false := by simpa using hc0
            go_wp2_with fail
            refine HN.mono ?_
            rintro e w1 ⟨rfl, ho1, hr1⟩
            go_wp2
            go_ret
            unfold Reads; rw [← hstep.out]; exact ⟨rfl, ho.trans ho1, hr1⟩
    · have hfin : rdInt s a = .error 10 := by
        rw [← hR.out]
        have e : 8 - k = (7 - k) + 1 := by omega
        rw [e]; simp [rdF, hlt]
      have HF : Hid (rdInt s a = .error 10) := hfin
      clear hfin hR
      go_wp2_with fail
      refine (next_short b s (a + k) _ hrd hlt).mono ?_
      rintro e w1 ⟨rfl, ho1⟩
      exact ⟨rfl, by unfold Reads; rw [HF.out]; exact ⟨rfl, ho.trans ho1⟩⟩
end Go.Proofs.YtpcafjbebhcilaaGreat

namespace Go.Proofs.YtpcafjbebhcilaaGreat
open Go.RowKit
set_option linter.unusedSimpArgs false
set_option linter.unusedVariables false

theorem reason_calls (e0 : Int) (w : World) :
    Calls Tryz.prog 90 #[.iface 143 (.agg #[.int .i64 e0])] w fun e w' => e = .returned (.int .i64 e0) ∧ Below w.heap.size w w' := by
  have hta : ∀ w, (Instr.typeAssert (.iface 143 (.agg #[.int .i64 e0])) 20 143 true).run Tryz.prog w = .ok (.tuple #[.agg #[.int .i64 e0], .bool true]) w := fun _ => by kernel_rfl
  go_enter Tryz.func90, Tryz.ntmps90
  go_wp2
  go_ret
  exact ⟨rfl, (Below.refl _ _).alloc (Nat.le_refl _) _⟩

theorem mind_calls (e0 : Int) (w : World) :
    Calls Tryz.prog 94 #[.int .i64 e0] w fun e w' => (if e0 = 0 then e = .returned (.tuple #[]) else e = .panicked (gu e0)) ∧ w' = w := by
  by_cases h : e0 = 0
  · subst h
    go_enter Tryz.func94, Tryz.ntmps94
    go_wp2
    go_end0
    exact ⟨rfl, rfl⟩
  · have hb : (e0 != 0) = true := by simpa using h
    go_enter Tryz.func94, Tryz.ntmps94
    go_wp2
    exact ⟨rfl, rfl, by rw [if_neg h]; rfl, rfl⟩

theorem readerOf_ok (s : ByteArray) (m : Int) (w : World) (ha : (s.size : Int) ≤ m) :
    Calls Tryz.prog 91 #[.string s, .int .i64 m] w fun e w' => e = .returned (.pointer (some ⟨w.heap.size, 0, none⟩)) ∧ w' = w.alloc (.cells #[.string s, .int .i64 0] 146) := by
  have hd : decide (m < (s.size : Int)) = false := by simpa using ha
  go_enter Tryz.func91, Tryz.ntmps91
  go_wp2
  go_ret
  exact ⟨rfl, rfl⟩

theorem readerOf_bad (s : ByteArray) (m : Int) (w : World) (ha : m < (s.size : Int)) :
    Calls Tryz.prog 91 #[.string s, .int .i64 m] w fun e w' => e = .panicked (gu 4) ∧ w' = w := by
  go_enter Tryz.func91, Tryz.ntmps91
  go_wp2
  exact ⟨rfl, rfl, rfl, rfl⟩

theorem rdr_new (s : ByteArray) (a : Int) (w : World) (t : TypeId) (b : Nat) (hb : b = w.heap.size) : Rdr (w.alloc (.cells #[.string s, .int .i64 a] t)) b s a := by
  subst hb
  refine ⟨?_, ?_, ?_, ?_⟩
  · simp [go_sem]
  · simp [go_sem]
  · simp [go_sem]
  · simp

theorem end_calls (b : Nat) (s : ByteArray) (a : Nat) (w : World) (hr : Rdr w b s a) :
    Calls Tryz.prog 93 #[.pointer (some ⟨b, 0, none⟩)] w fun e w' => (if a < s.size then e = .panicked (gu 12) else e = .returned (.tuple #[])) ∧ Off b w w' ∧ Rdr w' b s a := by
  obtain ⟨h1, h2, h3, h4⟩ := id hr
  by_cases h : a < s.size
  · have hd : decide ((a : Int) < s.size) = true := by simpa using h
    go_enter Tryz.func93, Tryz.ntmps93
    go_wp2
    go_region
    go_wp2
    exact ⟨rfl, rfl, by rw [if_pos h]; rfl, (Off.refl _ _).drew, hr.drew⟩
  · have hd : decide ((a : Int) < s.size) = false := by simpa using h
    go_enter Tryz.func93, Tryz.ntmps93
    go_wp2
    go_region
    go_wp2
    go_end0
    exact ⟨rfl, (Off.refl _ _).drew, hr.drew⟩

/-- How many follow, of at most so many. -/
def rdCount (s : ByteArray) (a most : Nat) : Except Int (Nat × Nat) :=
  match rdInt s a with
  | .ok (n, nx) => if most < n then .error 2 else .ok (n, nx)
  | .error e => .error e

theorem rdF_le (s : ByteArray) (a : Nat) : ∀ (k i n m nx : Nat), rdF s a k i n = .ok (m, nx) → a ≤ nx ∧ nx ≤ s.size ∧ m ≤ 9007199254740992 := by
  intro k
  induction k with
  | zero => intro i n m nx h; simp [rdF] at h
  | succ k ih =>
    intro i n m nx h
    simp only [rdF] at h
    split at h
    · split at h
      · exact ih _ _ _ _ h
      · split at h
        · cases h
        · simp only [Except.ok.injEq, Prod.mk.injEq] at h; omega
    · cases h

theorem rdInt_le {s : ByteArray} {a m nx : Nat} (h : rdInt s a = .ok (m, nx)) : a ≤ nx ∧ nx ≤ s.size ∧ m ≤ 9007199254740992 := rdF_le s a 8 0 0 m nx h

theorem count_calls (b : Nat) (s : ByteArray) (a most : Nat) (w : World) (hr : Rdr w b s a) (hs : s.size ≤ maxLen) (ha : a ≤ s.size) :
    Calls Tryz.prog 115 #[.pointer (some ⟨b, 0, none⟩), .int .i64 most] w (Reads (rdCount s a most) (fun n => .int .i64 n) b s w) := by
  have hn := number_calls b s a w hr hs ha
  unfold rdCount
  cases hrd : rdInt s a with
  | error er =>
    rw [hrd] at hn
    go_enter Tryz.func115, Tryz.ntmps115
    go_wp2_with fail
    refine hn.mono ?_
    rintro e w1 ⟨rfl, ho⟩
    exact ⟨rfl, rfl, ho⟩
  | ok p =>
    obtain ⟨n, nx⟩ := p
    have hle := rdInt_le hrd
    rw [hrd] at hn
    clear hrd
    by_cases h : most < n
    · have hd : decide ((most : Int) < n) = true := by simpa using h
      simp only [h, if_true]
      go_enter Tryz.func115, Tryz.ntmps115
      go_wp2_with fail
      refine hn.mono ?_
      rintro e w1 ⟨rfl, ho, hr1⟩
      go_wp2
      exact ⟨rfl, rfl, rfl, ho⟩
    · have hd : decide ((most : Int) < n) = false := by simpa using h
      simp only [h, if_false]
      go_enter Tryz.func115, Tryz.ntmps115
      go_wp2_with fail
      refine hn.mono ?_
      rintro e w1 ⟨rfl, ho, hr1⟩
      go_wp2
      go_ret
      exact ⟨rfl, ho, hr1⟩
end Go.Proofs.YtpcafjbebhcilaaGreat
