/- The walks of ShaMacs and ShaKeys. -/
import Derived.Test.YtdkkleikabipgaaDoorShV
import Derived.Test.YtdkkleikabipgaaDoorShN
import Derived.Deep.OwnRows
namespace Go.Proofs.YtdkkleikabipgaaDoor
open Go.RowKit
set_option linter.unusedSimpArgs false
set_option linter.unusedVariables false

set_option maxRecDepth 100000 in
set_option maxHeartbeats 2000000 in
theorem macs_calls (k s : ByteArray) (w : World) (hK : KT w) :
    Calls Tryd.prog 4 #[.string k, .string s] w fun e w' => e = .returned (.bool true) ∧ Below w.heap.size w w' := by
  have key : ∀ a t : ByteArray, a.size ≤ 16384 → t.size ≤ 16384 → ∃ r : ByteArray, (∀ wx, KT wx → Calls Tryd.prog 12 #[.string a, .string t] wx fun e w' => e = .returned (.string r) ∧ Below wx.heap.size wx w') ∧ (∀ wx, Calls Tryd.prog 13 #[.string a, .string t] wx fun e w' => e = .returned (.string r) ∧ Below wx.heap.size wx w') :=
    fun a t ha ht => ⟨_, fun wx hk => mac_calls a t wx hk (by omega) (by omega), fun wx => refMac_calls a t wx (by omega) (by omega)⟩
  have HK : Hid _ := key
  clear key
  go_enter Tryd.func4, Tryd.ntmps4
  by_cases hs : s.size ≤ 16384
  · have hds : decide ((16384 : Int) < s.size) = false := by simp only [decide_eq_false_iff_not]; omega
    by_cases hk : k.size ≤ 16384
    · have hdk : decide ((16384 : Int) < k.size) = false := by simp only [decide_eq_false_iff_not]; omega
      obtain ⟨r, h1, h2⟩ := HK.out k s hk hs
      have H1 : Hid _ := h1
      have H2 : Hid _ := h2
      clear h1 h2
      go_wp2_with fail
      refine (H1.out _ hK).mono ?_
      rintro e w1 ⟨rfl, hb1⟩
      have K1 := hK.below hb1 hK.lt
      go_wp2_with fail
      refine (H2.out _).mono ?_
      rintro e w2 ⟨rfl, hb2⟩
      have K2 := K1.below hb2 K1.lt
      go_wp2_with fail
      refine (awake_calls _ K2).mono ?_
      rintro e w3 ⟨rfl, hb3⟩
      go_wp2
      go_ret
      exact ⟨rfl, (hb1.trans (hb2.mono hb1.size)).trans (hb3.mono (Nat.le_trans hb1.size hb2.size))⟩
    · have hdk : decide ((16384 : Int) < k.size) = true := by simp only [decide_eq_true_eq]; omega
      have hlk : (16384 : Int) ≤ k.size := by omega
      obtain ⟨r, h1, h2⟩ := HK.out (k.extract 0 16384) s (by rw [ByteArray.size_extract]; omega) hs
      have H1 : Hid _ := h1
      have H2 : Hid _ := h2
      clear h1 h2
      go_wp2_with fail
      refine (H1.out _ hK).mono ?_
      rintro e w1 ⟨rfl, hb1⟩
      have K1 := hK.below hb1 hK.lt
      go_wp2_with fail
      refine (H2.out _).mono ?_
      rintro e w2 ⟨rfl, hb2⟩
      have K2 := K1.below hb2 K1.lt
      go_wp2_with fail
      refine (awake_calls _ K2).mono ?_
      rintro e w3 ⟨rfl, hb3⟩
      go_wp2
      go_ret
      exact ⟨rfl, (hb1.trans (hb2.mono hb1.size)).trans (hb3.mono (Nat.le_trans hb1.size hb2.size))⟩
  · have hds : decide ((16384 : Int) < s.size) = true := by simp only [decide_eq_true_eq]; omega
    have hls : (16384 : Int) ≤ s.size := by omega
    by_cases hk : k.size ≤ 16384
    · have hdk : decide ((16384 : Int) < k.size) = false := by simp only [decide_eq_false_iff_not]; omega
      obtain ⟨r, h1, h2⟩ := HK.out k (s.extract 0 16384) hk (by rw [ByteArray.size_extract]; omega)
      have H1 : Hid _ := h1
      have H2 : Hid _ := h2
      clear h1 h2
      go_wp2_with fail
      refine (H1.out _ hK).mono ?_
      rintro e w1 ⟨rfl, hb1⟩
      have K1 := hK.below hb1 hK.lt
      go_wp2_with fail
      refine (H2.out _).mono ?_
      rintro e w2 ⟨rfl, hb2⟩
      have K2 := K1.below hb2 K1.lt
      go_wp2_with fail
      refine (awake_calls _ K2).mono ?_
      rintro e w3 ⟨rfl, hb3⟩
      go_wp2
      go_ret
      exact ⟨rfl, (hb1.trans (hb2.mono hb1.size)).trans (hb3.mono (Nat.le_trans hb1.size hb2.size))⟩
    · have hdk : decide ((16384 : Int) < k.size) = true := by simp only [decide_eq_true_eq]; omega
      have hlk : (16384 : Int) ≤ k.size := by omega
      obtain ⟨r, h1, h2⟩ := HK.out (k.extract 0 16384) (s.extract 0 16384) (by rw [ByteArray.size_extract]; omega) (by rw [ByteArray.size_extract]; omega)
      have H1 : Hid _ := h1
      have H2 : Hid _ := h2
      clear h1 h2
      go_wp2_with fail
      refine (H1.out _ hK).mono ?_
      rintro e w1 ⟨rfl, hb1⟩
      have K1 := hK.below hb1 hK.lt
      go_wp2_with fail
      refine (H2.out _).mono ?_
      rintro e w2 ⟨rfl, hb2⟩
      have K2 := K1.below hb2 K1.lt
      go_wp2_with fail
      refine (awake_calls _ K2).mono ?_
      rintro e w3 ⟨rfl, hb3⟩
      go_wp2
      go_ret
      exact ⟨rfl, (hb1.trans (hb2.mono hb1.size)).trans (hb3.mono (Nat.le_trans hb1.size hb2.size))⟩
end Go.Proofs.YtdkkleikabipgaaDoor
