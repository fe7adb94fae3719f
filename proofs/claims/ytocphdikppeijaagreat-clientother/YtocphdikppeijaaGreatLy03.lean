/- The document's answer for numbers and texts. -/
import Derived.Test.YtocphdikppeijaaGreatLy02
namespace Go.Proofs.YtocphdikppeijaaGreat
open Go.RowKit
set_option linter.unusedVariables false
set_option linter.unusedSimpArgs false

set_option maxRecDepth 100000 in
theorem number_ref (n : Nat) (w : World) (hn : n < 9223372036854775808) :
    Calls Tryz.prog 44 #[.int .i64 n] w fun e w' => e = .returned (.string ⟨(enc n).toArray⟩) ∧ Below w.heap.size w w' := by
  obtain ⟨i0, hi, hz0, hz1, hz2⟩ := info_parts infoByte
  go_enter Tryz.func44, Tryz.ntmps44
  go_wp2
  go_loopw [0, 3] (fun i o wr => ∃ (k m : Nat) (d : List UInt8), i = .int .i64 m ∧ m ≤ n ∧ 1 ≤ k ∧ k + d.length = 10 ∧ m < 128 ^ k ∧ Hid (enc n = d ++ encF k m) ∧ wr.ownsRow w.heap.size 5 1 o d.length (Lib.byteCells d) ∧ Below w.heap.size w wr) (fun i _ _ => (intOf i).toNat)
  case atStart => exact ⟨10, n, [], rfl, Nat.le_refl _, by decide, rfl, pow10 hn, rfl, World.ownsRow_nil _ _ _ _, Below.refl _ _⟩
  case round =>
    obtain ⟨k, m, d, rfl, hm, hk1, hkd, hmk, hR, ho, hb⟩ := hrel
    have hkk : ∃ k', k = k' + 1 := ⟨k - 1, by omega⟩
    obtain ⟨k, rfl⟩ := hkk
    by_cases h : m < 128
    · have hfin : Hid (enc n = d ++ [UInt8.ofNat m]) := by
        have e : encF (k + 1) m = [UInt8.ofNat m] := by simp [encF, h]
        rw [← e]; exact hR.out
      have hd : decide ((127 : Int) < m) = false := by simp only [decide_eq_false_iff_not]; omega
      have e2 : (UInt8.ofNat m).toNat = m := by simp [UInt8.toNat_ofNat']; omega
      go_wp2_with (at_builtin; refine wpList_append_own _ rfl (.tmp 15) (.tmp 18) 152 rfl w.heap.size 5 i0 (.int .u8 0) 1 1 Tryz.underlying152 hi hz0 hz1 hz2 rfl (by decide) _ _ _ rfl (ho.alloc _) ⟨wr.heap.size, 0, none⟩ 1 1 [.int .u8 m] rfl rfl ?c1 ?c2 ?c3 ?c4 ?c5 ?_)
      case c1 => exact cell_one_new _ _ _
      case c2 => intro u hu; simp at hu; subst hu; rfl
      case c3 => unfold maxLen; omega
      case c4 => omega
      case c5 => have := hb.size; simp; omega
      intro v' w1 hown' hgrow _
      rw [← byteCells_snoc d _ e2] at hown'
      have hcv := own_convert hown'
      go_wp2
      go_ret
      refine ⟨by rw [hfin.out]; simp, ?_⟩
      have hz := hb.size
      exact (hb.alloc (by omega) _).grown hgrow (by simp; omega) (fun k hk => (ho.lt k hk).1)
    · have hd : decide ((127 : Int) < m) = true := by simp only [decide_eq_true_eq]; omega
      have hk2 : 1 ≤ k := by
        rcases Nat.eq_zero_or_pos k with h0 | h0
        · subst h0; simp at hmk; omega
        · exact h0
      have e2 : (UInt8.ofNat (128 + m % 128)).toNat = 128 + m % 128 := by simp [UInt8.toNat_ofNat']; omega
      have hstep : encF (k + 1) m = UInt8.ofNat (128 + m % 128) :: encF k (m / 128) := by simp [encF, h]
      have HS : Hid _ := hstep
      have E2 : Hid _ := e2
      clear hstep e2
      go_wp2_with (at_builtin; refine wpList_append_own _ rfl (.tmp 6) (.tmp 11) 152 rfl w.heap.size 5 i0 (.int .u8 0) 1 1 Tryz.underlying152 hi hz0 hz1 hz2 rfl (by decide) _ _ _ rfl (ho.alloc _) ⟨wr.heap.size, 0, none⟩ 1 1 [.int .u8 (128 + (m : Int) % 128)] rfl rfl ?c1 ?c2 ?c3 ?c4 ?c5 ?_)
      case c1 => exact cell_one_new _ _ _
      case c2 => intro u hu; simp at hu; subst hu; rfl
      case c3 => unfold maxLen; omega
      case c4 => omega
      case c5 => have := hb.size; simp; omega
      intro v' w1 hown' hgrow _
      go_wp2
      refine ⟨⟨k, m / 128, d ++ [UInt8.ofNat (128 + m % 128)], by simp, by omega, hk2, by simp; omega, ?_, ?_, ?_, ?_⟩, by simp [intOf]; omega⟩
      · rw [Nat.pow_succ] at hmk; omega
      · have hR' := hR.out
        rw [HS.out] at hR'
        show _ = _
        rw [hR']; simp
      · rw [byteCells_snoc d _ E2.out, List.length_append]
        simpa [Nat.add_assoc] using hown'
      · have hz := hb.size
        exact (hb.alloc (by omega) _).grown hgrow (by simp; omega) (fun k hk => (ho.lt k hk).1)

theorem rdF_err (s : ByteArray) (a : Nat) : ∀ (k i n : Nat) (er : Int), rdF s a k i n = .error er → er ≠ 0 := by
  intro k
  induction k with
  | zero => intro i n er h; simp [rdF] at h; omega
  | succ k ih =>
    intro i n er h
    simp only [rdF] at h
    split at h
    · split at h
      · exact ih _ _ _ h
      · split at h
        · simp at h; omega
        · cases h
    · simp at h; omega
theorem rdInt_err {s : ByteArray} {a : Nat} {er : Int} (h : rdInt s a = .error er) : er ≠ 0 := rdF_err s a 8 0 0 er h

theorem cat_bytes (a : List UInt8) (t : ByteArray) : (⟨a.toArray⟩ : ByteArray) ++ t = ⟨(a ++ t.data.toList).toArray⟩ := by
  apply ByteArray.ext
  simp [ByteArray.data_append]

theorem laid_ref (t : ByteArray) (w : World) (ht : t.size ≤ 100000000000) :
    Calls Tryz.prog 45 #[.string t] w fun e w' => e = .returned (.string ⟨(enc t.size ++ t.data.toList).toArray⟩) ∧ Below w.heap.size w w' := by
  have hel := enc_le t.size
  have hcat : ¬ 9223372036854775807 < (enc t.size).length + t.size := by omega
  go_enter Tryz.func45, Tryz.ntmps45
  go_wp2_with fail
  refine (number_ref t.size w (by omega)).mono ?_
  rintro e w1 ⟨rfl, hb⟩
  go_wp2
  go_ret
  exact ⟨by rw [← cat_bytes]; rfl, hb⟩

set_option maxRecDepth 100000 in
theorem int_ref (s : ByteArray) (a : Nat) (w : World) (hs : s.size ≤ maxLen) (ha : a ≤ s.size) :
    Calls Tryz.prog 39 #[.string s, .int .i64 a] w fun e w' => e = .returned (.tuple (got (rdInt s a))) ∧ w' = w := by
  unfold maxLen at hs
  go_enter Tryz.func39, Tryz.ntmps39
  go_wp2
  go_loop [7, 8, 9] (fun n b i => ∃ k m : Nat, k ≤ 8 ∧ i = .int .i64 k ∧ n = .int .i64 m ∧ b = .int .i64 ((128 ^ k : Nat) : Int) ∧ m < 128 ^ k ∧ Hid (rdF s a (8 - k) k m = rdInt s a) ∧ a + k ≤ s.size) (fun _ _ i => 8 - (intOf i).toNat)
  case atStart => exact ⟨0, 0, by omega, rfl, rfl, rfl, by simp, rfl, by omega⟩
  case round =>
    obtain ⟨k, m, hk, rfl, rfl, rfl, hm, hR, hak⟩ := hrel
    by_cases hk8 : k < 8
    · have hd8 : decide ((k : Int) < 8) = true := by simp only [decide_eq_true_eq]; omega
      by_cases hlt : a + k < s.size
      · have hd : decide ((s.size : Int) ≤ (a : Int) + k) = false := by simp only [decide_eq_false_iff_not]; omega
        have hc : s[a + k].toNat < 256 := s[a + k].toNat_lt
        have hstep : Hid (_ = _) := (rdF_step s a k m (by omega) hlt).symm.trans hR.out
        obtain ⟨c, hcc⟩ : ∃ c, s[a + k].toNat = c := ⟨_, rfl⟩
        have hsm := small128 (c % 128) k (by omega) (by omega)
        have hm' := lt128 m c k hm
        have hB : 128 ^ k ≤ 562949953421312 := Nat.le_trans (Nat.pow_le_pow_right (by decide) (show k ≤ 7 by omega)) (by decide)
        have hB1 : 1 ≤ 128 ^ k := Nat.pow_pos (by decide)
        have hpk : 128 ^ (k + 1) = 128 ^ k * 128 := Nat.pow_succ _ _
        rw [hcc] at hc hstep
        rw [hpk] at hm'
        have HP : Hid _ := hpk
        clear hpk
        generalize 128 ^ k = B at *
        generalize hPe : c % 128 * B = P at *
        have h1 : wrap64 ((c : Int) % 128 * (B : Int)) = (P : Int) := by
          have e : (c : Int) % 128 * (B : Int) = ((c % 128 * B : Nat) : Int) := by simp
          rw [e, hPe]; unfold wrap64; omega
        have h2 : wrap64 ((B : Int) * 128) = ((B * 128 : Nat) : Int) := by unfold wrap64; omega
        clear hPe
        by_cases h128 : 128 ≤ c
        · rw [if_pos h128] at hstep
          go_wp2
          refine ⟨⟨k + 1, m + P, by omega, by go_num, by go_num, ?_, ?_, ?_, by omega⟩, by simp [intOf]; omega⟩
          · rw [HP.out]; go_num
          · rw [HP.out]; exact hm'
          · rw [show 8 - (k + 1) = 7 - k by omega]; exact hstep
        · rw [if_neg h128] at hstep
          have hcn : (c : Int) < 128 := by omega
          by_cases hbad : (c = 0 ∧ 0 < k) ∨ 9007199254740992 < m + P
          · rw [if_pos hbad] at hstep
            by_cases hc0 : c = 0
            · have hk0 : ¬ k = 0 := by
                rcases hbad with h | h
                · omega
                · intro h0; subst h0; have e1 := HP.out; simp at e1; omega
              have hd1 : decide (0 < (k : Int)) = true := by simp only [decide_eq_true_eq]; omega
              subst hc0
              have h1' : wrap64 (0 : Int) = (P : Int) := by simpa using h1
              have hP0 : P = 0 := by unfold wrap64 at h1'; omega
              subst hP0
              clear hbad
              go_wp2
              go_ret3
              exact ⟨by rw [← hstep.out]; rfl, rfl⟩
            · have h3 : 9007199254740992 < (m : Int) + (P : Int) := by
                rcases hbad with h | h
                · exact absurd h.1 hc0
                · omega
              have hc0' : ((c : Int) == 0) = false := by simpa using hc0
              clear hbad
              go_wp2
              go_ret3
              exact ⟨by rw [← hstep.out]; rfl, rfl⟩
          · rw [if_neg hbad] at hstep
            have h3 : ¬ 9007199254740992 < (m : Int) + (P : Int) := by omega
            by_cases hc0 : c = 0
            · have hk0 : k = 0 := by omega
              have hd1 : decide (0 < (k : Int)) = false := by simp only [decide_eq_false_iff_not]; omega
              have HK : Hid (k = 0) := hk0
              clear hk0
              subst hc0
              have h1' : wrap64 (0 : Int) = (P : Int) := by simpa using h1
              have hP0 : P = 0 := by unfold wrap64 at h1'; omega
              subst hP0
              clear hbad
              go_wp2
              go_ret3
              exact ⟨by rw [← hstep.out]; have hk := HK.out; subst hk; rfl, rfl⟩
            · have hc0' : ((c : Int) == 0) = false := by simpa using hc0
              clear hbad
              go_wp2
              go_ret3
              exact ⟨by rw [← hstep.out]; rfl, rfl⟩
      · have hd : decide ((s.size : Int) ≤ (a : Int) + k) = true := by simp only [decide_eq_true_eq]; omega
        have hfin : Hid (rdInt s a = .error 10) := by
          show _ = _
          rw [← hR.out]
          have e : 8 - k = (7 - k) + 1 := by omega
          rw [e]; simp [rdF, hlt]
        clear hR
        go_wp2
        go_ret3
        exact ⟨by rw [hfin.out]; rfl, rfl⟩
    · have hd8 : decide ((k : Int) < 8) = false := by simp only [decide_eq_false_iff_not]; omega
      have hfin : Hid (rdInt s a = .error 11) := by
        show _ = _
        rw [← hR.out]
        have e : 8 - k = 0 := by omega
        rw [e]; rfl
      clear hR
      go_wp2
      go_ret3
      exact ⟨by rw [hfin.out]; rfl, rfl⟩

theorem text_ref (s : ByteArray) (a : Nat) (w : World) (hs : s.size ≤ maxLen) (ha : a ≤ s.size) :
    Calls Tryz.prog 40 #[.string s, .int .i64 a] w fun e w' => e = .returned (.tuple (gotT (rdText s a))) ∧ w' = w := by
  have hi := int_ref s a w hs ha
  unfold maxLen at hs
  unfold rdText
  cases hr : rdInt s a with
  | error er =>
    have hne : ¬ er = 0 := by
      intro h0
      exact rdInt_err hr h0
    rw [hr] at hi
    have hb : (er != 0) = true := by simpa using hne
    go_enter Tryz.func40, Tryz.ntmps40
    go_wp2_with fail
    refine hi.mono ?_
    rintro e w1 ⟨rfl, rfl⟩
    simp only [got]
    go_wp2
    go_ret3
    exact ⟨rfl, rfl⟩
  | ok p =>
    obtain ⟨n, nx⟩ := p
    have hle := rdInt_le hr
    rw [hr] at hi
    clear hr
    by_cases h : 1048576 < n
    · have hd : decide ((1048576 : Int) < n) = true := by simp only [decide_eq_true_eq]; omega
      simp only [h, if_true]
      go_enter Tryz.func40, Tryz.ntmps40
      go_wp2_with fail
      refine hi.mono ?_
      rintro e w1 ⟨rfl, rfl⟩
      simp only [got]
      go_wp2
      go_ret3
      exact ⟨rfl, rfl⟩
    · have hd : decide ((1048576 : Int) < n) = false := by simp only [decide_eq_false_iff_not]; omega
      simp only [h, if_false]
      by_cases h2 : s.size < nx + n
      · have hd2 : decide ((s.size : Int) - nx < n) = true := by simp only [decide_eq_true_eq]; omega
        simp only [h2, if_true]
        go_enter Tryz.func40, Tryz.ntmps40
        go_wp2_with fail
        refine hi.mono ?_
        rintro e w1 ⟨rfl, rfl⟩
        simp only [got]
        go_wp2
        go_ret3
        exact ⟨rfl, rfl⟩
      · have hd2 : decide ((s.size : Int) - nx < n) = false := by simp only [decide_eq_false_iff_not]; omega
        have hsl : ∀ wx : World, (Instr.slice 9 (.string s) (some (.int .i64 (nx : Int))) (some (.int .i64 ((nx : Int) + (n : Int)))) none).run Tryz.prog wx = .ok (.string (s.extract nx (nx + n))) wx := fun wx => by
          have h := run_slice_string (P := Tryz.prog) wx 9 s .i64 .i64 (nx : Int) ((nx : Int) + (n : Int)) Tryz.underlying9 (by omega) (by omega) (by omega)
          have e1 : ((nx : Int)).toNat = nx := by omega
          have e2 : ((nx : Int) + (n : Int)).toNat = nx + n := by omega
          rw [e1, e2] at h
          exact h
        simp only [h2, if_false]
        go_enter Tryz.func40, Tryz.ntmps40
        go_wp2_with fail
        refine hi.mono ?_
        rintro e w1 ⟨rfl, rfl⟩
        simp only [got]
        go_wp2
        go_ret3
        exact ⟨rfl, rfl⟩
end Go.Proofs.YtocphdikppeijaaGreat

namespace Go.Proofs.YtocphdikppeijaaGreat
open Go.RowKit
set_option linter.unusedVariables false
set_option linter.unusedSimpArgs false

theorem isNumber_calls (n : Int) (w : World) :
    Calls Tryz.prog 126 #[.int .i64 n] w fun e w' => e = .returned (.bool (decide (0 ≤ n ∧ n ≤ 9007199254740992))) ∧ w' = w := by
  go_enter Tryz.func126, Tryz.ntmps126
  go_wp2_with fail
  refine (within_calls n 9007199254740992 w).mono ?_
  rintro e w1 ⟨rfl, rfl⟩
  go_wp2
  go_ret
  exact ⟨by simp, rfl⟩

theorem putInt_bad (n : Int) (w : World) (h : n < 0 ∨ 9007199254740992 < n) :
    Calls Tryz.prog 114 #[.int .i64 n] w fun e w' => e = .returned (.tuple #[.string ⟨#[]⟩, .int .i64 1]) ∧ w' = w := by
  have hnot : ∀ (x : Bool) (w : World), (Op.unary .not (.bool x)).run Tryz.prog w = .ok (.bool (!x)) w := fun _ _ => rfl
  have hi := isNumber_calls n w
  have e : decide (0 ≤ n ∧ n ≤ 9007199254740992) = false := by simp only [decide_eq_false_iff_not]; omega
  rw [e] at hi
  go_enter Tryz.func114, Tryz.ntmps114
  go_wp2_with fail
  refine hi.mono ?_
  rintro e w1 ⟨rfl, rfl⟩
  go_wp2
  go_ret2
  exact ⟨rfl, rfl⟩

theorem putInt_ok (n : Nat) (w : World) (h : n ≤ 9007199254740992) :
    Calls Tryz.prog 114 #[.int .i64 n] w fun e w' => e = .returned (.tuple #[.string ⟨(enc n).toArray⟩, .int .i64 0]) ∧ Below w.heap.size w w' := by
  have hnot : ∀ (x : Bool) (w : World), (Op.unary .not (.bool x)).run Tryz.prog w = .ok (.bool (!x)) w := fun _ _ => rfl
  have hi := isNumber_calls n w
  have e : decide (0 ≤ (n : Int) ∧ (n : Int) ≤ 9007199254740992) = true := by simp only [decide_eq_true_eq]; omega
  rw [e] at hi
  have hl := layInt_calls w.heap.size (.slice none 0 0) 0 [] n w (by omega) (World.ownsRow_nil _ _ _ _) (by omega) (Nat.le_refl _)
  go_enter Tryz.func114, Tryz.ntmps114
  go_wp2_with fail
  refine hi.mono ?_
  rintro e w1 ⟨rfl, rfl⟩
  go_wp2_with fail
  refine hl.mono ?_
  rintro e w2 ⟨v, rfl, ho, hb, _⟩
  rw [List.nil_append] at ho
  have hcv := own_convert ho
  go_wp2
  go_ret2
  exact ⟨rfl, hb⟩

theorem putText_bad (t : ByteArray) (w : World) (h : 1048576 < t.size) :
    Calls Tryz.prog 123 #[.string t] w fun e w' => e = .returned (.tuple #[.string ⟨#[]⟩, .int .i64 4]) ∧ w' = w := by
  have hd : decide ((1048576 : Int) < t.size) = true := by simp only [decide_eq_true_eq]; omega
  go_enter Tryz.func123, Tryz.ntmps123
  go_wp2
  go_ret2
  exact ⟨rfl, rfl⟩

theorem putText_ok (t : ByteArray) (w : World) (h : t.size ≤ 1048576) :
    Calls Tryz.prog 123 #[.string t] w fun e w' => e = .returned (.tuple #[.string ⟨(enc t.size ++ t.data.toList).toArray⟩, .int .i64 0]) ∧ Below w.heap.size w w' := by
  have hd : decide ((1048576 : Int) < t.size) = false := by simp only [decide_eq_false_iff_not]; omega
  have hl := layText_calls w.heap.size (.slice none 0 0) 0 [] t w (by omega) (World.ownsRow_nil _ _ _ _) (by omega) (Nat.le_refl _)
  go_enter Tryz.func123, Tryz.ntmps123
  go_wp2_with fail
  refine hl.mono ?_
  rintro e w2 ⟨v, rfl, ho, hb, _⟩
  rw [List.nil_append] at ho
  have hcv := own_convert ho
  go_wp2
  go_ret2
  exact ⟨rfl, hb⟩
end Go.Proofs.YtocphdikppeijaaGreat

namespace Go.Proofs.YtocphdikppeijaaGreat
open Go.RowKit
set_option linter.unusedVariables false
set_option linter.unusedSimpArgs false

/-- As rdF, over a list: the number and how many bytes in all. -/
def rdP : Nat → Nat → Nat → List UInt8 → Except Int (Nat × Nat)
  | 0, _, _, _ => .error 11
  | k + 1, _, _, [] => .error 10
  | k + 1, i, n, c :: l =>
    if 128 ≤ c.toNat then rdP k (i + 1) (n + c.toNat % 128 * 128 ^ i) l
    else if (c.toNat = 0 ∧ 0 < i) ∨ 9007199254740992 < n + c.toNat % 128 * 128 ^ i then .error 11
    else .ok (n + c.toNat % 128 * 128 ^ i, i + 1)

/-- A reading at a place, out of one over a list. -/
def shiftR {α : Type} (a : Nat) : Except Int (α × Nat) → Except Int (α × Nat)
  | .ok (x, c) => .ok (x, a + c)
  | .error e => .error e

theorem drop_at (s : ByteArray) (j : Nat) (h : j < s.size) : s.data.toList.drop j = s[j] :: s.data.toList.drop (j + 1) := by
  have h' : j < s.data.toList.length := by rw [Array.length_toList]; exact h
  rw [List.drop_eq_getElem_cons h']; rfl

theorem rdF_list (s : ByteArray) (a : Nat) : ∀ (k i n : Nat), rdF s a k i n = shiftR a (rdP k i n (s.data.toList.drop (a + i))) := by
  intro k
  induction k with
  | zero => intro i n; rfl
  | succ k ih =>
    intro i n
    by_cases h : a + i < s.size
    · rw [drop_at s (a + i) h]
      simp only [rdF, h, dite_true, rdP]
      split
      · rw [ih]; rfl
      · split
        · rfl
        · simp [shiftR]; omega
    · have e : s.data.toList.drop (a + i) = [] := List.drop_of_length_le (by rw [Array.length_toList]; show s.size ≤ _; omega)
      rw [e]
      simp only [rdF, h, dite_false, rdP, shiftR]

theorem rdInt_list (s : ByteArray) (a : Nat) : rdInt s a = shiftR a (rdP 8 0 0 (s.data.toList.drop a)) := rdF_list s a 8 0 0

theorem byte_small (m : Nat) (h : m < 256) : (UInt8.ofNat m).toNat = m := by simp [UInt8.toNat_ofNat']; omega

/-- What was laid is read again, whatever stands behind. -/
theorem rdP_enc (post : List UInt8) : ∀ (k K i n m : Nat), k ≤ K → m < 128 ^ k → 1 ≤ k → (0 < i → 0 < m) → n + m * 128 ^ i ≤ 9007199254740992 →
    rdP K i n (encF k m ++ post) = .ok (n + m * 128 ^ i, i + (encF k m).length) := by
  intro k
  induction k with
  | zero => intro K i n m _ _ h; omega
  | succ k ih =>
    intro K i n m hK hm _ hi hn
    obtain ⟨K', rfl⟩ : ∃ K', K = K' + 1 := ⟨K - 1, by omega⟩
    by_cases h : m < 128
    · have e : encF (k + 1) m = [UInt8.ofNat m] := by simp [encF, h]
      rw [e]
      have e2 := byte_small m (by omega)
      have e3 : m % 128 = m := Nat.mod_eq_of_lt h
      simp only [List.cons_append, List.nil_append, rdP, e2, e3]
      rw [if_neg (by omega), if_neg (by omega)]
      simp
    · have e : encF (k + 1) m = UInt8.ofNat (128 + m % 128) :: encF k (m / 128) := by simp [encF, h]
      rw [e]
      have e2 := byte_small (128 + m % 128) (by omega)
      have e3 : (128 + m % 128) % 128 = m % 128 := by omega
      simp only [List.cons_append, rdP, e2, e3]
      rw [if_pos (by omega)]
      have hk : 1 ≤ k := by
        rcases Nat.eq_zero_or_pos k with h0 | h0
        · subst h0; simp at hm; omega
        · exact h0
      have hsplit : m % 128 * 128 ^ i + m / 128 * 128 ^ (i + 1) = m * 128 ^ i := by
        rw [Nat.pow_succ, Nat.mul_comm (128 ^ i) 128, ← Nat.mul_assoc, ← Nat.add_mul]
        congr 1; omega
      have hr := ih K' (i + 1) (n + m % 128 * 128 ^ i) (m / 128) (by omega) (by rw [Nat.pow_succ] at hm; omega) hk (fun _ => by omega) (by omega)
      rw [hr]
      simp only [List.length_cons, Except.ok.injEq, Prod.mk.injEq]
      omega

theorem encF_more : ∀ (k K m : Nat), 1 ≤ k → k ≤ K → m < 128 ^ k → encF K m = encF k m := by
  intro k
  induction k with
  | zero => intro K m h; omega
  | succ k ih =>
    intro K m _ hK hm
    obtain ⟨K', rfl⟩ : ∃ K', K = K' + 1 := ⟨K - 1, by omega⟩
    by_cases h : m < 128
    · simp [encF, h]
    · have hk : 1 ≤ k := by
        rcases Nat.eq_zero_or_pos k with h0 | h0
        · subst h0; simp at hm; omega
        · exact h0
      simp only [encF, h, if_false]
      rw [ih K' (m / 128) hk (by omega) (by rw [Nat.pow_succ] at hm; omega)]

theorem enc8 {m : Nat} (h : m ≤ 9007199254740992) : enc m = encF 8 m := by
  have e : (9007199254740992 : Nat) < 128 ^ 8 := by decide
  exact encF_more 8 10 m (by decide) (by decide) (by omega)

theorem rdP_enc0 (m : Nat) (post : List UInt8) (h : m ≤ 9007199254740992) : rdP 8 0 0 (enc m ++ post) = .ok (m, (enc m).length) := by
  have e : (9007199254740992 : Nat) < 128 ^ 8 := by decide
  rw [enc8 h]
  have hr := rdP_enc post 8 8 0 0 m (Nat.le_refl _) (by omega) (by decide) (fun h => by omega) (by simpa using h)
  simpa using hr

/-- What was read was laid: there is no second way to say it. -/
theorem rdP_canon : ∀ (k i n : Nat) (l : List UInt8) (m c : Nat), rdP k i n l = .ok (m, c) →
    ∃ v, m = n + v * 128 ^ i ∧ (0 < i → 0 < v) ∧ v < 128 ^ k ∧ i + (encF k v).length = c ∧ l.take (encF k v).length = encF k v ∧ (encF k v).length ≤ l.length ∧ m ≤ 9007199254740992 := by
  intro k
  induction k with
  | zero => intro i n l m c h; simp [rdP] at h
  | succ k ih =>
    intro i n l m c h
    cases l with
    | nil => simp [rdP] at h
    | cons x l =>
      simp only [rdP] at h
      have hx : x.toNat < 256 := x.toNat_lt
      split at h
      · rename_i h128
        obtain ⟨v, hm, hv, hvk, hc, ht, hl, hle⟩ := ih _ _ _ _ _ h
        have hv0 := hv (by omega)
        refine ⟨x.toNat % 128 + v * 128, ?_, fun _ => by omega, ?_, ?_⟩
        · rw [hm, Nat.pow_succ, Nat.add_mul, Nat.mul_assoc v 128 (128 ^ i), Nat.mul_comm 128 (128 ^ i)]; omega
        · rw [Nat.pow_succ]; omega
        · have hnot : ¬ x.toNat % 128 + v * 128 < 128 := by omega
          have e1 : (x.toNat % 128 + v * 128) % 128 = x.toNat % 128 := by omega
          have e2 : (x.toNat % 128 + v * 128) / 128 = v := by omega
          have e3 : UInt8.ofNat (128 + x.toNat % 128) = x := by
            have : 128 + x.toNat % 128 = x.toNat := by omega
            rw [this]; simp
          have e : encF (k + 1) (x.toNat % 128 + v * 128) = x :: encF k v := by simp only [encF, hnot, if_false, e1, e2, e3]
          rw [e]
          refine ⟨by simp; omega, by simp [ht], by simp; omega, hle⟩
      · rename_i h128
        split at h
        · cases h
        · rename_i hb
          simp only [Except.ok.injEq, Prod.mk.injEq] at h
          obtain ⟨rfl, rfl⟩ := h
          have e3 : x.toNat % 128 = x.toNat := by omega
          have e : encF (k + 1) x.toNat = [x] := by
            have : x.toNat < 128 := by omega
            simp [encF, this]
          refine ⟨x.toNat, by rw [e3], fun hi => by omega, ?_, by rw [e]; rfl, by rw [e]; rfl, by rw [e]; simp, by omega⟩
          rw [Nat.pow_succ]
          have : 1 ≤ 128 ^ k := Nat.pow_pos (by decide)
          omega

theorem rdP_canon0 {l : List UInt8} {m c : Nat} (h : rdP 8 0 0 l = .ok (m, c)) : c = (enc m).length ∧ l.take c = enc m ∧ c ≤ l.length ∧ m ≤ 9007199254740992 := by
  obtain ⟨v, hm, _, hv, hc, ht, hl, hle⟩ := rdP_canon 8 0 0 l m c h
  have e : v = m := by simp at hm; omega
  subst e
  rw [← enc8 hle] at hc ht hl
  have hc' : c = (enc v).length := by omega
  rw [hc']
  exact ⟨rfl, ht, hl, hle⟩

/-- With some bytes fewer bytes lack. -/
theorem rdP_cut : ∀ (k K i n m j : Nat), k ≤ K → m < 128 ^ k → 1 ≤ k → j < (encF k m).length → rdP K i n ((encF k m).take j) = .error 10 := by
  intro k
  induction k with
  | zero => intro K i n m j _ _ h; omega
  | succ k ih =>
    intro K i n m j hK hm _ hj
    obtain ⟨K', rfl⟩ : ∃ K', K = K' + 1 := ⟨K - 1, by omega⟩
    cases j with
    | zero => simp [rdP]
    | succ j =>
      by_cases h : m < 128
      · have e : encF (k + 1) m = [UInt8.ofNat m] := by simp [encF, h]
        rw [e] at hj; simp at hj
      · have e : encF (k + 1) m = UInt8.ofNat (128 + m % 128) :: encF k (m / 128) := by simp [encF, h]
        have hk : 1 ≤ k := by
          rcases Nat.eq_zero_or_pos k with h0 | h0
          · subst h0; simp at hm; omega
          · exact h0
        rw [e] at hj ⊢
        have e2 := byte_small (128 + m % 128) (by omega)
        simp only [List.take_succ_cons, rdP, e2]
        rw [if_pos (by omega)]
        exact ih K' _ _ (m / 128) j (by omega) (by rw [Nat.pow_succ] at hm; omega) hk (by simpa using hj)

theorem rdP_cut0 (m j : Nat) (h : m ≤ 9007199254740992) (hj : j < (enc m).length) : rdP 8 0 0 ((enc m).take j) = .error 10 := by
  have e : (9007199254740992 : Nat) < 128 ^ 8 := by decide
  rw [enc8 h] at hj ⊢
  exact rdP_cut 8 8 0 0 m j (Nat.le_refl _) (by omega) (by decide) hj
theorem enc_pos (m : Nat) : 0 < (enc m).length := by
  unfold enc
  simp only [encF]
  split <;> simp
end Go.Proofs.YtocphdikppeijaaGreat
