/- The document's Int. -/
import Derived.Test.YtlhfdgeknpmdfaaGetL
namespace Go.Proofs.Ytlhfdgeknpmdfaa
open Go.RowKit
set_option linter.unusedSimpArgs false
set_option linter.unusedVariables false

theorem rdF_err (s : ByteArray) (a : Nat) : ∀ (k i n : Nat) (er : Int), rdF s a k i n = .error er → er ≠ 0 := by
  intro k
  induction k with
  | zero => intro i n er h; simp [rdF] at h; omega
  | succ k ih =>
    intro i n er h
    simp only [rdF] at h
    split at h
    · split at h
      · exact ih _ _ _ h
      · split at h
        · simp at h; omega
        · cases h
    · simp at h; omega
theorem rdInt_err {s : ByteArray} {a : Nat} {er : Int} (h : rdInt s a = .error er) : er ≠ 0 := rdF_err s a 8 0 0 er h
set_option maxRecDepth 100000 in
theorem int_ref (s : ByteArray) (a : Nat) (w : World) (hs : s.size ≤ maxLen) (ha : a ≤ s.size) :
    Calls Try.prog 28 #[.string s, .int .i64 a] w fun e w' => e = .returned (.tuple (gotG (rdInt s a))) ∧ w' = w := by
  unfold maxLen at hs
  go_enter Try.func28, Try.ntmps28
  go_wp2
  go_loop [7, 8, 9] (fun n b i => ∃ k m : Nat, k ≤ 8 ∧ i = .int .i64 k ∧ n = .int .i64 m ∧ b = .int .i64 ((128 ^ k : Nat) : Int) ∧ m < 128 ^ k ∧ Hid (rdF s a (8 - k) k m = rdInt s a) ∧ a + k ≤ s.size) (fun _ _ i => 8 - (intOf i).toNat)
  case atStart => exact ⟨0, 0, by omega, rfl, rfl, rfl, by simp, rfl, by omega⟩
  case round =>
    obtain ⟨k, m, hk, rfl, rfl, rfl, hm, hR, hak⟩ := hrel
    by_cases hk8 : k < 8
    · have hd8 : decide ((k : Int) < 8) = true := by simp only [decide_eq_true_eq]; omega
      by_cases hlt : a + k < s.size
      · have hd : decide ((s.size : Int) ≤ (a : Int) + k) = false := by simp only [decide_eq_false_iff_not]; omega
        have hc : s[a + k].toNat < 256 := s[a + k].toNat_lt
        have hstep : Hid (_ = _) := (rdF_step s a k m (by omega) hlt).symm.trans hR.out
        obtain ⟨c, hcc⟩ : ∃ c, s[a + k].toNat = c := ⟨_, rfl⟩
        have hsm := small128 (c % 128) k (by omega) (by omega)
        have hm' := lt128 m c k hm
        have hB : 128 ^ k ≤ 562949953421312 := Nat.le_trans (Nat.pow_le_pow_right (by decide) (show k ≤ 7 by omega)) (by decide)
        have hB1 : 1 ≤ 128 ^ k := Nat.pow_pos (by decide)
        have hpk : 128 ^ (k + 1) = 128 ^ k * 128 := Nat.pow_succ _ _
        rw [hcc] at hc hstep
        rw [hpk] at hm'
        have HP : Hid _ := hpk
        clear hpk
        generalize 128 ^ k = B at *
        generalize hPe : c % 128 * B = P at *
        have h1 : wrap64 ((c : Int) % 128 * (B : Int)) = (P : Int) := by
          have e : (c : Int) % 128 * (B : Int) = ((c % 128 * B : Nat) : Int) := by simp
          rw [e, hPe]; unfold wrap64; omega
        have h2 : wrap64 ((B : Int) * 128) = ((B * 128 : Nat) : Int) := by unfold wrap64; omega
        clear hPe
        by_cases h128 : 128 ≤ c
        · rw [if_pos h128] at hstep
          go_wp2
          refine ⟨⟨k + 1, m + P, by omega, by go_num, by go_num, ?_, ?_, ?_, by omega⟩, by simp [intOf]; omega⟩
          · rw [HP.out]; go_num
          · rw [HP.out]; exact hm'
          · rw [show 8 - (k + 1) = 7 - k by omega]; exact hstep
        · rw [if_neg h128] at hstep
          have hcn : (c : Int) < 128 := by omega
          by_cases hbad : (c = 0 ∧ 0 < k) ∨ 9007199254740992 < m + P
          · rw [if_pos hbad] at hstep
            by_cases hc0 : c = 0
            · have hk0 : ¬ k = 0 := by
                rcases hbad with h | h
                · omega
                · intro h0; subst h0; have e1 := HP.out; simp at e1; omega
              have hd1 : decide (0 < (k : Int)) = true := by simp only [decide_eq_true_eq]; omega
              subst hc0
              have h1' : wrap64 (0 : Int) = (P : Int) := by simpa using h1
              have hP0 : P = 0 := by unfold wrap64 at h1'; omega
              subst hP0
              clear hbad
              go_wp2
              go_ret3
              exact ⟨by rw [← hstep.out]; rfl, rfl⟩
            · have h3 : 9007199254740992 < (m : Int) + (P : Int) := by
                rcases hbad with h | h
                · exact absurd h.1 hc0
                · omega
              have hc0' : ((c : Int) == 0) = false := by simpa using hc0
              clear hbad
              go_wp2
              go_ret3
              exact ⟨by rw [← hstep.out]; rfl, rfl⟩
          · rw [if_neg hbad] at hstep
            have h3 : ¬ 9007199254740992 < (m : Int) + (P : Int) := by omega
            by_cases hc0 : c = 0
            · have hk0 : k = 0 := by omega
              have hd1 : decide (0 < (k : Int)) = false := by simp only [decide_eq_false_iff_not]; omega
              have HK : Hid (k = 0) := hk0
              clear hk0
              subst hc0
              have h1' : wrap64 (0 : Int) = (P : Int) := by simpa using h1
              have hP0 : P = 0 := by unfold wrap64 at h1'; omega
              subst hP0
              clear hbad
              go_wp2
              go_ret3
              exact ⟨by rw [← hstep.out]; have hk := HK.out; subst hk; rfl, rfl⟩
            · have hc0' : ((c : Int) == 0) = false := by simpa using hc0
              clear hbad
              go_wp2
              go_ret3
              exact ⟨by rw [← hstep.out]; rfl, rfl⟩
      · have hd : decide ((s.size : Int) ≤ (a : Int) + k) = true := by simp only [decide_eq_true_eq]; omega
        have hfin : Hid (rdInt s a = .error 10) := by
          show _ = _
          rw [← hR.out]
          have e : 8 - k = (7 - k) + 1 := by omega
          rw [e]; simp [rdF, hlt]
        clear hR
        go_wp2
        go_ret3
        exact ⟨by rw [hfin.out]; rfl, rfl⟩
    · have hd8 : decide ((k : Int) < 8) = false := by simp only [decide_eq_false_iff_not]; omega
      have hfin : Hid (rdInt s a = .error 11) := by
        show _ = _
        rw [← hR.out]
        have e : 8 - k = 0 := by omega
        rw [e]; rfl
      clear hR
      go_wp2
      go_ret3
      exact ⟨by rw [hfin.out]; rfl, rfl⟩

end Go.Proofs.Ytlhfdgeknpmdfaa
