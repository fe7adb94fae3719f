/- The reader's number. -/
import Derived.Test.YtlhfdgeknpmdfaaLeaf
import Derived.Test.YtlhfdgeknpmdfaaBits
namespace Go.Proofs.Ytlhfdgeknpmdfaa
open Go.RowKit
set_option linter.unusedSimpArgs false
set_option linter.unusedVariables false

/-- What reading gives: the value and the place behind it, or a panic of the reader's own. -/
def Reads {α : Type} (r : Except Int (α × Nat)) (val : α → Value) (b : Nat) (s : ByteArray) (w : World) (e : Ending) (w' : World) : Prop :=
  match r with
  | .ok (x, nx) => e = .returned (val x) ∧ Off b w w' ∧ Rdr w' b s nx
  | .error er => e = .panicked (gu er) ∧ Off b w w'

theorem rdF_step (s : ByteArray) (a k m : Nat) (hk : k ≤ 7) (hlt : a + k < s.size) :
    rdF s a (8 - k) k m = if 128 ≤ s[a + k].toNat then rdF s a (7 - k) (k + 1) (m + s[a + k].toNat % 128 * 128 ^ k)
      else if (s[a + k].toNat = 0 ∧ 0 < k) ∨ 9007199254740992 < m + s[a + k].toNat % 128 * 128 ^ k then .error 11
      else .ok (m + s[a + k].toNat % 128 * 128 ^ k, a + k + 1) := by
  have e : 8 - k = (7 - k) + 1 := by omega
  rw [e]
  simp only [rdF, hlt, dite_true]

set_option maxRecDepth 100000 in
theorem number_calls (b : Nat) (s : ByteArray) (a : Nat) (w : World) (hr : Rdr w b s a) (hs : s.size ≤ maxLen) (ha : a ≤ s.size) :
    Calls Try.prog 70 #[.pointer (some ⟨b, 0, none⟩)] w (Reads (rdInt s a) (fun n => .int .i64 n) b s w) := by
  have hs' := hs
  unfold maxLen at hs
  go_enter Try.func70, Try.ntmps70
  go_wp2
  go_loopw [3, 4] (fun n i w1 => ∃ k m : Nat, k ≤ 7 ∧ i = .int .i64 k ∧ n = .int .i64 m ∧ m < 128 ^ k ∧ Hid (rdF s a (8 - k) k m = rdInt s a) ∧ a + k ≤ s.size ∧ Off b w w1 ∧ Rdr w1 b s ((a + k : Nat) : Int)) (fun _ i _ => 8 - (intOf i).toNat)
  case atStart => exact ⟨0, 0, by omega, rfl, rfl, by simp, rfl, by omega, Off.refl _ _, hr⟩
  case round =>
    obtain ⟨k, m, hk, rfl, rfl, hm, hR, hak, ho, hrd⟩ := hrel
    by_cases hlt : a + k < s.size
    · have hc : s[a + k].toNat < 256 := s[a + k].toNat_lt
      have hstep : Hid (_ = _) := (rdF_step s a k m hk hlt).symm.trans hR.out
      obtain ⟨c, hcc⟩ : ∃ c, s[a + k].toNat = c := ⟨_, rfl⟩
      have hj := or7 m _ k hk hm hc
      have hm' := lt128 m (s[a + k].toNat) k hm
      have hnx := next_ok b s (a + k) wr hrd hs' hlt
      have hsm := small128 (s[a + k].toNat % 128) k hk (by omega)
      rw [hcc] at hc hstep hj hm' hnx hsm
      have HN := hnx
      clear hnx hR hcc
      generalize m + c % 128 * 128 ^ k = m' at *
      have hm7 : m' < 9223372036854775808 := by
        have h1 : (128 : Nat) ^ (k + 1) ≤ 128 ^ 8 := Nat.pow_le_pow_right (by decide) (by omega)
        have e : (128 : Nat) ^ 8 < 9223372036854775808 := by decide
        omega
      by_cases h128 : 128 ≤ c
      · rw [if_pos h128] at hstep
        by_cases hk7 : k < 7
        · go_wp2_with fail
          refine HN.mono ?_
          rintro e w1 ⟨rfl, ho1, hr1⟩
          go_wp2
          go_roundw
          case rel => exact ⟨k + 1, m', by omega, by go_num, rfl, hm', (by rw [show 8 - (k + 1) = 7 - k by omega]; exact hstep), by omega, ho.trans ho1, hr1⟩
          case measure => simp [intOf]; omega
        · have e7 : k = 7 := by omega
          subst e7
          have hfin : rdInt s a = .error 11 := hstep.out.symm
          go_wp2_with fail
          refine HN.mono ?_
          rintro e w1 ⟨rfl, ho1, hr1⟩
          go_wp2
          exact ⟨rfl, rfl, by unfold Reads; rw [hfin]; exact ⟨rfl, ho.trans ho1⟩⟩
      · rw [if_neg h128] at hstep
        have hcn : (c : Int) < 128 := by omega
        by_cases hbad : (c = 0 ∧ 0 < k) ∨ 9007199254740992 < m'
        · rw [if_pos hbad] at hstep
          by_cases h1 : c = 0
          · have h2 : 0 < (k : Int) := by
              rcases hbad with h | h
              · omega
              · by_cases hk0 : k = 0
                · subst hk0; have : m' < 128 := hm'; omega
                · omega
            subst h1
            clear hbad
            go_wp2_with fail
            refine HN.mono ?_
            rintro e w1 ⟨rfl, ho1, hr1⟩
            go_wp2
            all_goals exact ⟨rfl, rfl, by unfold Reads; rw [← hstep.out]; exact ⟨rfl, ho.trans ho1⟩⟩
          · have h2 : 9007199254740992 < (m' : Int) := by
              rcases hbad with h | h
              · exact absurd h.1 h1
              · omega
            have hc0' : ((c : Int) == 0) = false := by simpa using h1
            clear hbad h1
            go_wp2_with fail
            refine HN.mono ?_
            rintro e w1 ⟨rfl, ho1, hr1⟩
            go_wp2
            all_goals exact ⟨rfl, rfl, by unfold Reads; rw [← hstep.out]; exact ⟨rfl, ho.trans ho1⟩⟩
        · rw [if_neg hbad] at hstep
          have hm53 : ¬ 9007199254740992 < (m' : Int) := by omega
          have hz : c = 0 → k = 0 := fun h => by omega
          by_cases hc0 : c = 0
          · have hk0 := hz hc0
            subst hc0 hk0
            clear hbad hz
            have hj' : bits .or .i64 (m : Int) (wrap64 (wrap64 (bits .and .u8 0 127))) = (m' : Int) := by simpa using hj
            go_wp2_with fail
            refine HN.mono ?_
            rintro e w1 ⟨rfl, ho1, hr1⟩
            go_wp2
            go_ret
            unfold Reads; rw [← hstep.out]; exact ⟨rfl, ho.trans ho1, hr1⟩
          · clear hbad hz
            have hc0' : ((c : Int) == 0) = false := by simpa using hc0
            go_wp2_with fail
            refine HN.mono ?_
            rintro e w1 ⟨rfl, ho1, hr1⟩
            go_wp2
            go_ret
            unfold Reads; rw [← hstep.out]; exact ⟨rfl, ho.trans ho1, hr1⟩
    · have hfin : rdInt s a = .error 10 := by
        rw [← hR.out]
        have e : 8 - k = (7 - k) + 1 := by omega
        rw [e]; simp [rdF, hlt]
      have HF : Hid (rdInt s a = .error 10) := hfin
      clear hfin hR
      go_wp2_with fail
      refine (next_short b s (a + k) _ hrd hlt).mono ?_
      rintro e w1 ⟨rfl, ho1⟩
      exact ⟨rfl, by unfold Reads; rw [HF.out]; exact ⟨rfl, ho.trans ho1⟩⟩
end Go.Proofs.Ytlhfdgeknpmdfaa
