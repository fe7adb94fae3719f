/- ShaSums' walk: the sum of any text is the document's. -/
import Derived.Test.YtdkkleikabipgaaDoorShN
import Derived.Test.YtdkkleikabipgaaDoorShX
namespace Go.Proofs.YtdkkleikabipgaaDoor
open Go.RowKit
set_option linter.unusedSimpArgs false
set_option linter.unusedVariables false

set_option maxRecDepth 100000 in
set_option maxHeartbeats 1000000 in
theorem sums_calls (s : ByteArray) (w : World) (hK : KT w) :
    Calls Tryd.prog 3 #[.string s] w fun e w' => e = .returned (.bool true) ∧ Below w.heap.size w w' := by
  have key : ∀ t : ByteArray, t.size ≤ 65536 → ∃ r : ByteArray, (∀ wx, KT wx → Calls Tryd.prog 9 #[.string t] wx fun e w' => e = .returned (.string r) ∧ Below wx.heap.size wx w') ∧ (∀ wx, Calls Tryd.prog 10 #[.string t] wx fun e w' => e = .returned (.string r) ∧ Below wx.heap.size wx w') :=
    fun t ht => ⟨_, fun wx hk => shaSum_calls t wx hk (by omega), fun wx => refSum_calls t wx (by omega)⟩
  have HK : Hid _ := key
  clear key
  by_cases hs : s.size ≤ 65536
  · obtain ⟨r, h1, h2⟩ := HK.out s hs
    have H1 : Hid _ := h1
    have H2 : Hid _ := h2
    clear h1 h2
    have hd : decide ((65536 : Int) < s.size) = false := by simp only [decide_eq_false_iff_not]; omega
    go_enter Tryd.func3, Tryd.ntmps3
    go_wp2_with fail
    refine (H1.out _ hK).mono ?_
    rintro e w1 ⟨rfl, hb1⟩
    have K1 := hK.below hb1 hK.lt
    go_wp2_with fail
    refine (H2.out _).mono ?_
    rintro e w2 ⟨rfl, hb2⟩
    have K2 := K1.below hb2 K1.lt
    go_wp2_with fail
    refine (awake_calls _ K2).mono ?_
    rintro e w3 ⟨rfl, hb3⟩
    go_wp2
    go_ret
    exact ⟨rfl, (hb1.trans (hb2.mono hb1.size)).trans (hb3.mono (Nat.le_trans hb1.size hb2.size))⟩
  · obtain ⟨r, h1, h2⟩ := HK.out (s.extract 0 65536) (by rw [ByteArray.size_extract]; omega)
    have H1 : Hid _ := h1
    have H2 : Hid _ := h2
    clear h1 h2
    have hd : decide ((65536 : Int) < s.size) = true := by simp only [decide_eq_true_eq]; omega
    have hl : (65536 : Int) ≤ s.size := by omega
    go_enter Tryd.func3, Tryd.ntmps3
    go_wp2_with fail
    refine (H1.out _ hK).mono ?_
    rintro e w1 ⟨rfl, hb1⟩
    have K1 := hK.below hb1 hK.lt
    go_wp2_with fail
    refine (H2.out _).mono ?_
    rintro e w2 ⟨rfl, hb2⟩
    have K2 := K1.below hb2 K1.lt
    go_wp2_with fail
    refine (awake_calls _ K2).mono ?_
    rintro e w3 ⟨rfl, hb3⟩
    go_wp2
    go_ret
    exact ⟨rfl, (hb1.trans (hb2.mono hb1.size)).trans (hb3.mono (Nat.le_trans hb1.size hb2.size))⟩
end Go.Proofs.YtdkkleikabipgaaDoor
