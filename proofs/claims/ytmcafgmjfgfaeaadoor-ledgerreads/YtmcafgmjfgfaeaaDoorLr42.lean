/- The document's laying of numbers and texts, over LayL. (The same as Ref1's beginning: never both in one seat.) -/
import Derived.Test.YtmcafgmjfgfaeaaDoorLr06
namespace Go.Proofs.YtmcafgmjfgfaeaaDoor
open Go.RowKit
set_option linter.unusedVariables false
set_option linter.unusedSimpArgs false

set_option maxRecDepth 100000 in
theorem number_ref (n : Nat) (w : World) (hn : n < 9223372036854775808) :
    Calls Tryd.prog 39 #[.int .i64 n] w fun e w' => e = .returned (.string ⟨(enc n).toArray⟩) ∧ Below w.heap.size w w' := by
  obtain ⟨i0, hi, hz0, hz1, hz2⟩ := info_parts infoByte
  go_enter Tryd.func39, Tryd.ntmps39
  go_wp2
  go_loopw [0, 3] (fun i o wr => ∃ (k m : Nat) (d : List UInt8), i = .int .i64 m ∧ m ≤ n ∧ 1 ≤ k ∧ k + d.length = 10 ∧ m < 128 ^ k ∧ Hid (enc n = d ++ encF k m) ∧ wr.ownsRow w.heap.size 5 1 o d.length (Lib.byteCells d) ∧ Below w.heap.size w wr) (fun i _ _ => (intOf i).toNat)
  case atStart => exact ⟨10, n, [], rfl, Nat.le_refl _, by decide, rfl, pow10 hn, rfl, World.ownsRow_nil _ _ _ _, Below.refl _ _⟩
  case round =>
    obtain ⟨k, m, d, rfl, hm, hk1, hkd, hmk, hR, ho, hb⟩ := hrel
    have hkk : ∃ k', k = k' + 1 := ⟨k - 1, by omega⟩
    obtain ⟨k, rfl⟩ := hkk
    by_cases h : m < 128
    · have hfin : Hid (enc n = d ++ [UInt8.ofNat m]) := by
        have e : encF (k + 1) m = [UInt8.ofNat m] := by simp [encF, h]
        rw [← e]; exact hR.out
      have hd : decide ((127 : Int) < m) = false := by simp only [decide_eq_false_iff_not]; omega
      have e2 : (UInt8.ofNat m).toNat = m := by simp [UInt8.toNat_ofNat']; omega
      go_wp2_with (at_builtin; refine wpList_append_own _ rfl (.tmp 15) (.tmp 18) 92 rfl w.heap.size 5 i0 (.int .u8 0) 1 1 Tryd.underlying92 hi hz0 hz1 hz2 rfl (by decide) _ _ _ rfl (ho.alloc _) ⟨wr.heap.size, 0, none⟩ 1 1 [.int .u8 m] rfl rfl ?c1 ?c2 ?c3 ?c4 ?c5 ?_)
      case c1 => exact cell_one_new _ _ _
      case c2 => intro u hu; simp at hu; subst hu; rfl
      case c3 => unfold maxLen; omega
      case c4 => omega
      case c5 => have := hb.size; simp; omega
      intro v' w1 hown' hgrow _
      rw [← byteCells_snoc d _ e2] at hown'
      have hcv := own_convert hown'
      go_wp2
      go_ret
      refine ⟨by rw [hfin.out]; simp, ?_⟩
      have hz := hb.size
      exact (hb.alloc (by omega) _).grown hgrow (by simp; omega) (fun k hk => (ho.lt k hk).1)
    · have hd : decide ((127 : Int) < m) = true := by simp only [decide_eq_true_eq]; omega
      have hk2 : 1 ≤ k := by
        rcases Nat.eq_zero_or_pos k with h0 | h0
        · subst h0; simp at hmk; omega
        · exact h0
      have e2 : (UInt8.ofNat (128 + m % 128)).toNat = 128 + m % 128 := by simp [UInt8.toNat_ofNat']; omega
      have hstep : encF (k + 1) m = UInt8.ofNat (128 + m % 128) :: encF k (m / 128) := by simp [encF, h]
      have HS : Hid _ := hstep
      have E2 : Hid _ := e2
      clear hstep e2
      go_wp2_with (at_builtin; refine wpList_append_own _ rfl (.tmp 6) (.tmp 11) 92 rfl w.heap.size 5 i0 (.int .u8 0) 1 1 Tryd.underlying92 hi hz0 hz1 hz2 rfl (by decide) _ _ _ rfl (ho.alloc _) ⟨wr.heap.size, 0, none⟩ 1 1 [.int .u8 (128 + (m : Int) % 128)] rfl rfl ?c1 ?c2 ?c3 ?c4 ?c5 ?_)
      case c1 => exact cell_one_new _ _ _
      case c2 => intro u hu; simp at hu; subst hu; rfl
      case c3 => unfold maxLen; omega
      case c4 => omega
      case c5 => have := hb.size; simp; omega
      intro v' w1 hown' hgrow _
      go_wp2
      refine ⟨⟨k, m / 128, d ++ [UInt8.ofNat (128 + m % 128)], by simp, by omega, hk2, by simp; omega, ?_, ?_, ?_, ?_⟩, by simp [intOf]; omega⟩
      · rw [Nat.pow_succ] at hmk; omega
      · have hR' := hR.out
        rw [HS.out] at hR'
        show _ = _
        rw [hR']; simp
      · rw [byteCells_snoc d _ E2.out, List.length_append]
        simpa [Nat.add_assoc] using hown'
      · have hz := hb.size
        exact (hb.alloc (by omega) _).grown hgrow (by simp; omega) (fun k hk => (ho.lt k hk).1)

theorem cat_bytes (a : List UInt8) (t : ByteArray) : (⟨a.toArray⟩ : ByteArray) ++ t = ⟨(a ++ t.data.toList).toArray⟩ := by
  apply ByteArray.ext
  simp [ByteArray.data_append]

theorem laid_ref (t : ByteArray) (w : World) (ht : t.size ≤ 100000000000) :
    Calls Tryd.prog 41 #[.string t] w fun e w' => e = .returned (.string ⟨(enc t.size ++ t.data.toList).toArray⟩) ∧ Below w.heap.size w w' := by
  have hel := enc_le t.size
  have hcat : ¬ 9223372036854775807 < (enc t.size).length + t.size := by omega
  go_enter Tryd.func41, Tryd.ntmps41
  go_wp2_with fail
  refine (number_ref t.size w (by omega)).mono ?_
  rintro e w1 ⟨rfl, hb⟩
  go_wp2
  go_ret
  exact ⟨by rw [← cat_bytes]; rfl, hb⟩
end Go.Proofs.YtmcafgmjfgfaeaaDoor
