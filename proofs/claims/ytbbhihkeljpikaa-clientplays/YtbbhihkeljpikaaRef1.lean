/- The document's answer for numbers and texts. -/
import Derived.Test.YtbbhihkeljpikaaLay
namespace Go.Proofs.Ytbbhihkeljpikaa
open Go.RowKit
set_option linter.unusedVariables false
set_option linter.unusedSimpArgs false

set_option maxRecDepth 100000 in
theorem number_ref (n : Nat) (w : World) (hn : n < 9223372036854775808) :
    Calls Try.prog 45 #[.int .i64 n] w fun e w' => e = .returned (.string ⟨(enc n).toArray⟩) ∧ Below w.heap.size w w' := by
  obtain ⟨i0, hi, hz0, hz1, hz2⟩ := info_parts infoByte
  go_enter Try.func45, Try.ntmps45
  go_wp2
  go_loopw [0, 3] (fun i o wr => ∃ (k m : Nat) (d : List UInt8), i = .int .i64 m ∧ m ≤ n ∧ 1 ≤ k ∧ k + d.length = 10 ∧ m < 128 ^ k ∧ Hid (enc n = d ++ encF k m) ∧ wr.ownsRow w.heap.size 5 1 o d.length (Lib.byteCells d) ∧ Below w.heap.size w wr) (fun i _ _ => (intOf i).toNat)
  case atStart => exact ⟨10, n, [], rfl, Nat.le_refl _, by decide, rfl, pow10 hn, rfl, World.ownsRow_nil _ _ _ _, Below.refl _ _⟩
  case round =>
    obtain ⟨k, m, d, rfl, hm, hk1, hkd, hmk, hR, ho, hb⟩ := hrel
    have hkk : ∃ k', k = k' + 1 := ⟨k - 1, by omega⟩
    obtain ⟨k, rfl⟩ := hkk
    by_cases h : m < 128
    · have hfin : Hid (enc n = d ++ [UInt8.ofNat m]) := by
        have e : encF (k + 1) m = [UInt8.ofNat m] := by simp [encF, h]
        rw [← e]; exact hR.out
      have hd : decide ((127 : Int) < m) = false := by simp only [decide_eq_false_iff_not]; omega
      have e2 : (UInt8.ofNat m).toNat = m := by simp [UInt8.toNat_ofNat']; omega
      go_wp2_with (at_builtin; refine wpList_append_own _ rfl (.tmp 15) (.tmp 18) 119 rfl w.heap.size 5 i0 (.int .u8 0) 1 1 Try.underlying119 hi hz0 hz1 hz2 rfl (by decide) _ _ _ rfl (ho.alloc _) ⟨wr.heap.size, 0, none⟩ 1 1 [.int .u8 m] rfl rfl ?c1 ?c2 ?c3 ?c4 ?c5 ?_)
      case c1 => exact cell_one_new _ _ _
      case c2 => intro u hu; simp at hu; subst hu; rfl
      case c3 => unfold maxLen; omega
      case c4 => omega
      case c5 => have := hb.size; simp; omega
      intro v' w1 hown' hgrow _
      rw [← byteCells_snoc d _ e2] at hown'
      have hcv := own_convert hown'
      go_wp2
      go_ret
      refine ⟨by rw [hfin.out]; simp, ?_⟩
      have hz := hb.size
      exact (hb.alloc (by omega) _).grown hgrow (by simp; omega) (fun k hk => (ho.lt k hk).1)
    · have hd : decide ((127 : Int) < m) = true := by simp only [decide_eq_true_eq]; omega
      have hk2 : 1 ≤ k := by
        rcases Nat.eq_zero_or_pos k with h0 | h0
        · subst h0; simp at hmk; omega
        · exact h0
      have e2 : (UInt8.ofNat (128 + m % 128)).toNat = 128 + m % 128 := by simp [UInt8.toNat_ofNat']; omega
      have hstep : encF (k + 1) m = UInt8.ofNat (128 + m % 128) :: encF k (m / 128) := by simp [encF, h]
      have HS : Hid _ := hstep
      have E2 : Hid _ := e2
      clear hstep e2
      go_wp2_with (at_builtin; refine wpList_append_own _ rfl (.tmp 6) (.tmp 11) 119 rfl w.heap.size 5 i0 (.int .u8 0) 1 1 Try.underlying119 hi hz0 hz1 hz2 rfl (by decide) _ _ _ rfl (ho.alloc _) ⟨wr.heap.size, 0, none⟩ 1 1 [.int .u8 (128 + (m : Int) % 128)] rfl rfl ?c1 ?c2 ?c3 ?c4 ?c5 ?_)
      case c1 => exact cell_one_new _ _ _
      case c2 => intro u hu; simp at hu; subst hu; rfl
      case c3 => unfold maxLen; omega
      case c4 => omega
      case c5 => have := hb.size; simp; omega
      intro v' w1 hown' hgrow _
      go_wp2
      refine ⟨⟨k, m / 128, d ++ [UInt8.ofNat (128 + m % 128)], by simp, by omega, hk2, by simp; omega, ?_, ?_, ?_, ?_⟩, by simp [intOf]; omega⟩
      · rw [Nat.pow_succ] at hmk; omega
      · have hR' := hR.out
        rw [HS.out] at hR'
        show _ = _
        rw [hR']; simp
      · rw [byteCells_snoc d _ E2.out, List.length_append]
        simpa [Nat.add_assoc] using hown'
      · have hz := hb.size
        exact (hb.alloc (by omega) _).grown hgrow (by simp; omega) (fun k hk => (ho.lt k hk).1)

theorem rdF_err (s : ByteArray) (a : Nat) : ∀ (k i n : Nat) (er : Int), rdF s a k i n = .error er → er ≠ 0 := by
  intro k
  induction k with
  | zero => intro i n er h; simp [rdF] at h; omega
  | succ k ih =>
    intro i n er h
    simp only [rdF] at h
    split at h
    · split at h
      · exact ih _ _ _ h
      · split at h
        · simp at h; omega
        · cases h
    · simp at h; omega
theorem rdInt_err {s : ByteArray} {a : Nat} {er : Int} (h : rdInt s a = .error er) : er ≠ 0 := rdF_err s a 8 0 0 er h

theorem cat_bytes (a : List UInt8) (t : ByteArray) : (⟨a.toArray⟩ : ByteArray) ++ t = ⟨(a ++ t.data.toList).toArray⟩ := by
  apply ByteArray.ext
  simp [ByteArray.data_append]

theorem laid_ref (t : ByteArray) (w : World) (ht : t.size ≤ 100000000000) :
    Calls Try.prog 46 #[.string t] w fun e w' => e = .returned (.string ⟨(enc t.size ++ t.data.toList).toArray⟩) ∧ Below w.heap.size w w' := by
  have hel := enc_le t.size
  have hcat : ¬ 9223372036854775807 < (enc t.size).length + t.size := by omega
  go_enter Try.func46, Try.ntmps46
  go_wp2_with fail
  refine (number_ref t.size w (by omega)).mono ?_
  rintro e w1 ⟨rfl, hb⟩
  go_wp2
  go_ret
  exact ⟨by rw [← cat_bytes]; rfl, hb⟩

set_option maxRecDepth 100000 in
theorem int_ref (s : ByteArray) (a : Nat) (w : World) (hs : s.size ≤ maxLen) (ha : a ≤ s.size) :
    Calls Try.prog 47 #[.string s, .int .i64 a] w fun e w' => e = .returned (.tuple (got (rdInt s a))) ∧ w' = w := by
  unfold maxLen at hs
  go_enter Try.func47, Try.ntmps47
  go_wp2
  go_loop [7, 8, 9] (fun n b i => ∃ k m : Nat, k ≤ 8 ∧ i = .int .i64 k ∧ n = .int .i64 m ∧ b = .int .i64 ((128 ^ k : Nat) : Int) ∧ m < 128 ^ k ∧ Hid (rdF s a (8 - k) k m = rdInt s a) ∧ a + k ≤ s.size) (fun _ _ i => 8 - (intOf i).toNat)
  case atStart => exact ⟨0, 0, by omega, rfl, rfl, rfl, by simp, rfl, by omega⟩
  case round =>
    obtain ⟨k, m, hk, rfl, rfl, rfl, hm, hR, hak⟩ := hrel
    by_cases hk8 : k < 8
    · have hd8 : decide ((k : Int) < 8) = true := by simp only [decide_eq_true_eq]; omega
      by_cases hlt : a + k < s.size
      · have hd : decide ((s.size : Int) ≤ (a : Int) + k) = false := by simp only [decide_eq_false_iff_not]; omega
        have hc : s[a + k].toNat < 256 := s[a + k].toNat_lt
        have hstep : Hid (_ = _) := (rdF_step s a k m (by omega) hlt).symm.trans hR.out
        obtain ⟨c, hcc⟩ : ∃ c, s[a + k].toNat = c := ⟨_, rfl⟩
        have hsm := small128 (c % 128) k (by omega) (by omega)
        have hm' := lt128 m c k hm
        have hB : 128 ^ k ≤ 562949953421312 := Nat.le_trans (Nat.pow_le_pow_right (by decide) (show k ≤ 7 by omega)) (by decide)
        have hB1 : 1 ≤ 128 ^ k := Nat.pow_pos (by decide)
        have hpk : 128 ^ (k + 1) = 128 ^ k * 128 := Nat.pow_succ _ _
        rw [hcc] at hc hstep
        rw [hpk] at hm'
        have HP : Hid _ := hpk
        clear hpk
        generalize 128 ^ k = B at *
        generalize hPe : c % 128 * B = P at *
        have h1 : wrap64 ((c : Int) % 128 * (B : Int)) = (P : Int) := by
          have e : (c : Int) % 128 * (B : Int) = ((c % 128 * B : Nat) : Int) := by simp
          rw [e, hPe]; unfold wrap64; omega
        have h2 : wrap64 ((B : Int) * 128) = ((B * 128 : Nat) : Int) := by unfold wrap64; omega
        clear hPe
        by_cases h128 : 128 ≤ c
        · rw [if_pos h128] at hstep
          go_wp2
          refine ⟨⟨k + 1, m + P, by omega, by go_num, by go_num, ?_, ?_, ?_, by omega⟩, by simp [intOf]; omega⟩
          · rw [HP.out]; go_num
          · rw [HP.out]; exact hm'
          · rw [show 8 - (k + 1) = 7 - k by omega]; exact hstep
        · rw [if_neg h128] at hstep
          have hcn : (c : Int) < 128 := by omega
          by_cases hbad : (c = 0 ∧ 0 < k) ∨ 9007199254740992 < m + P
          · rw [if_pos hbad] at hstep
            by_cases hc0 : c = 0
            · have hk0 : ¬ k = 0 := by
                rcases hbad with h | h
                · omega
                · intro h0; subst h0; have e1 := HP.out; simp at e1; omega
              have hd1 : decide (0 < (k : Int)) = true := by simp only [decide_eq_true_eq]; omega
              subst hc0
              have h1' : wrap64 (0 : Int) = (P : Int) := by simpa using h1
              have hP0 : P = 0 := by unfold wrap64 at h1'; omega
              subst hP0
              clear hbad
              go_wp2
              go_ret3
              exact ⟨by rw [← hstep.out]; rfl, rfl⟩
            · have h3 : 9007199254740992 < (m : Int) + (P : Int) := by
                rcases hbad with h | h
                · exact absurd h.1 hc0
                · omega
              have hc0' : ((c : Int) == 0) = false := by simpa using hc0
              clear hbad
              go_wp2
              go_ret3
              exact ⟨by rw [← hstep.out]; rfl, rfl⟩
          · rw [if_neg hbad] at hstep
            have h3 : ¬ 9007199254740992 < (m : Int) + (P : Int) := by omega
            by_cases hc0 : c = 0
            · have hk0 : k = 0 := by omega
              have hd1 : decide (0 < (k : Int)) = false := by simp only [decide_eq_false_iff_not]; omega
              have HK : Hid (k = 0) := hk0
              clear hk0
              subst hc0
              have h1' : wrap64 (0 : Int) = (P : Int) := by simpa using h1
              have hP0 : P = 0 := by unfold wrap64 at h1'; omega
              subst hP0
              clear hbad
              go_wp2
              go_ret3
              exact ⟨by rw [← hstep.out]; have hk := HK.out; subst hk; rfl, rfl⟩
            · have hc0' : ((c : Int) == 0) = false := by simpa using hc0
              clear hbad
              go_wp2
              go_ret3
              exact ⟨by rw [← hstep.out]; rfl, rfl⟩
      · have hd : decide ((s.size : Int) ≤ (a : Int) + k) = true := by simp only [decide_eq_true_eq]; omega
        have hfin : Hid (rdInt s a = .error 10) := by
          show _ = _
          rw [← hR.out]
          have e : 8 - k = (7 - k) + 1 := by omega
          rw [e]; simp [rdF, hlt]
        clear hR
        go_wp2
        go_ret3
        exact ⟨by rw [hfin.out]; rfl, rfl⟩
    · have hd8 : decide ((k : Int) < 8) = false := by simp only [decide_eq_false_iff_not]; omega
      have hfin : Hid (rdInt s a = .error 11) := by
        show _ = _
        rw [← hR.out]
        have e : 8 - k = 0 := by omega
        rw [e]; rfl
      clear hR
      go_wp2
      go_ret3
      exact ⟨by rw [hfin.out]; rfl, rfl⟩

theorem text_ref (s : ByteArray) (a : Nat) (w : World) (hs : s.size ≤ maxLen) (ha : a ≤ s.size) :
    Calls Try.prog 48 #[.string s, .int .i64 a] w fun e w' => e = .returned (.tuple (gotT (rdText s a))) ∧ w' = w := by
  have hi := int_ref s a w hs ha
  unfold maxLen at hs
  unfold rdText
  cases hr : rdInt s a with
  | error er =>
    have hne : ¬ er = 0 := by
      intro h0
      exact rdInt_err hr h0
    rw [hr] at hi
    have hb : (er != 0) = true := by simpa using hne
    go_enter Try.func48, Try.ntmps48
    go_wp2_with fail
    refine hi.mono ?_
    rintro e w1 ⟨rfl, rfl⟩
    simp only [got]
    go_wp2
    go_ret3
    exact ⟨rfl, rfl⟩
  | ok p =>
    obtain ⟨n, nx⟩ := p
    have hle := rdInt_le hr
    rw [hr] at hi
    clear hr
    by_cases h : 1048576 < n
    · have hd : decide ((1048576 : Int) < n) = true := by simp only [decide_eq_true_eq]; omega
      simp only [h, if_true]
      go_enter Try.func48, Try.ntmps48
      go_wp2_with fail
      refine hi.mono ?_
      rintro e w1 ⟨rfl, rfl⟩
      simp only [got]
      go_wp2
      go_ret3
      exact ⟨rfl, rfl⟩
    · have hd : decide ((1048576 : Int) < n) = false := by simp only [decide_eq_false_iff_not]; omega
      simp only [h, if_false]
      by_cases h2 : s.size < nx + n
      · have hd2 : decide ((s.size : Int) - nx < n) = true := by simp only [decide_eq_true_eq]; omega
        simp only [h2, if_true]
        go_enter Try.func48, Try.ntmps48
        go_wp2_with fail
        refine hi.mono ?_
        rintro e w1 ⟨rfl, rfl⟩
        simp only [got]
        go_wp2
        go_ret3
        exact ⟨rfl, rfl⟩
      · have hd2 : decide ((s.size : Int) - nx < n) = false := by simp only [decide_eq_false_iff_not]; omega
        have hsl : ∀ wx : World, (Instr.slice 9 (.string s) (some (.int .i64 (nx : Int))) (some (.int .i64 ((nx : Int) + (n : Int)))) none).run Try.prog wx = .ok (.string (s.extract nx (nx + n))) wx := fun wx => by
          have h := run_slice_string (P := Try.prog) wx 9 s .i64 .i64 (nx : Int) ((nx : Int) + (n : Int)) Try.underlying9 (by omega) (by omega) (by omega)
          have e1 : ((nx : Int)).toNat = nx := by omega
          have e2 : ((nx : Int) + (n : Int)).toNat = nx + n := by omega
          rw [e1, e2] at h
          exact h
        simp only [h2, if_false]
        go_enter Try.func48, Try.ntmps48
        go_wp2_with fail
        refine hi.mono ?_
        rintro e w1 ⟨rfl, rfl⟩
        simp only [got]
        go_wp2
        go_ret3
        exact ⟨rfl, rfl⟩
end Go.Proofs.Ytbbhihkeljpikaa
