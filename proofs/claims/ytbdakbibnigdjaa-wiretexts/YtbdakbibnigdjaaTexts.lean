/- WireTexts for every input: what it answers. -/
import Derived.Test.YtbdakbibnigdjaaAwake
import Derived.Test.YtbdakbibnigdjaaRef1
namespace Go.Proofs.Ytbdakbibnigdjaa
open Go.RowKit
set_option linter.unusedVariables false
set_option linter.unusedSimpArgs false

set_option maxHeartbeats 1000000 in
theorem texts_00 (t s : ByteArray) (a : Int) (w : World) (ht : t.size ≤ maxLen) (hs : s.size ≤ maxLen) (hn : 1048576 < t.size) (ha : a < 0) :
    Calls Try.prog 4 #[.string t, .string s, .int .i64 a] w fun e w' => e = .returned (.bool true) ∧ Below w.heap.size w w' := by
  unfold maxLen at ht
  have hd : decide ((1048576 : Int) < (t.size : Int)) = true := by simp only [decide_eq_true_eq]; omega
  have hp := fun wx => putText_bad t wx hn
  have hg := fun wx => getText_bad s a wx (by omega)
  go_enter Try.func4, Try.ntmps4
  go_wp2_with fail
  refine (hp _).mono ?_
  rintro e w1 ⟨rfl, rfl⟩
  go_wp2_with fail
  refine (hg _).mono ?_
  rintro e w2 ⟨rfl, b2⟩
  go_wp2_with fail
  have hB := b2
  refine (awake_calls _).mono ?_
  rintro e w5 ⟨rfl, b5⟩
  go_wp2
  go_ret
  exact ⟨rfl, hB.trans (b5.mono hB.size)⟩

set_option maxHeartbeats 1000000 in
theorem texts_01 (t s : ByteArray) (a : Int) (w : World) (ht : t.size ≤ maxLen) (hs : s.size ≤ maxLen) (hn : 1048576 < t.size) (ha0 : ¬ a < 0) (ha : (s.size : Int) < a) :
    Calls Try.prog 4 #[.string t, .string s, .int .i64 a] w fun e w' => e = .returned (.bool true) ∧ Below w.heap.size w w' := by
  unfold maxLen at ht
  have hd : decide ((1048576 : Int) < (t.size : Int)) = true := by simp only [decide_eq_true_eq]; omega
  have hp := fun wx => putText_bad t wx hn
  have hg := fun wx => getText_bad s a wx (by omega)
  go_enter Try.func4, Try.ntmps4
  go_wp2_with fail
  refine (hp _).mono ?_
  rintro e w1 ⟨rfl, rfl⟩
  go_wp2_with fail
  refine (hg _).mono ?_
  rintro e w2 ⟨rfl, b2⟩
  go_wp2_with fail
  have hB := b2
  refine (awake_calls _).mono ?_
  rintro e w5 ⟨rfl, b5⟩
  go_wp2
  go_ret
  exact ⟨rfl, hB.trans (b5.mono hB.size)⟩

set_option maxHeartbeats 1000000 in
theorem texts_02 (t s : ByteArray) (a : Int) (w : World) (ht : t.size ≤ maxLen) (hs : s.size ≤ maxLen) (hn : 1048576 < t.size) (ha0 : ¬ a < 0) (ha : ¬ (s.size : Int) < a) :
    Calls Try.prog 4 #[.string t, .string s, .int .i64 a] w fun e w' => e = .returned (.bool true) ∧ Below w.heap.size w w' := by
  unfold maxLen at ht
  have hd : decide ((1048576 : Int) < (t.size : Int)) = true := by simp only [decide_eq_true_eq]; omega
  have hp := fun wx => putText_bad t wx hn
  obtain ⟨b, rfl⟩ := Int.eq_ofNat_of_zero_le (show 0 ≤ a by omega)
  have hg := fun wx => getText_calls s b wx hs (by omega)
  have hr := fun wx => text_ref s b wx hs (by omega)
  go_enter Try.func4, Try.ntmps4
  go_wp2_with fail
  refine (hp _).mono ?_
  rintro e w1 ⟨rfl, rfl⟩
  go_wp2_with fail
  refine (hg _).mono ?_
  rintro e w2 ⟨rfl, b2⟩
  have hgv : ∃ (x : ByteArray) (y z : Int), gotT (rdText s b) = #[.string x, .int .i64 y, .int .i64 z] := by unfold gotT; split <;> exact ⟨_, _, _, rfl⟩
  obtain ⟨x, y, z, hxyz⟩ := hgv
  rw [hxyz] at hr
  rw [hxyz]
  clear hxyz hg
  go_wp2_with fail
  refine (hr _).mono ?_
  rintro e w4 ⟨rfl, rfl⟩
  go_wp2_with fail
  have hB := b2
  refine (awake_calls _).mono ?_
  rintro e w5 ⟨rfl, b5⟩
  go_wp2
  go_ret
  exact ⟨rfl, hB.trans (b5.mono hB.size)⟩

set_option maxHeartbeats 1000000 in
theorem texts_10 (t s : ByteArray) (a : Int) (w : World) (ht : t.size ≤ maxLen) (hs : s.size ≤ maxLen) (hn : ¬ 1048576 < t.size) (ha : a < 0) :
    Calls Try.prog 4 #[.string t, .string s, .int .i64 a] w fun e w' => e = .returned (.bool true) ∧ Below w.heap.size w w' := by
  unfold maxLen at ht
  have hd : decide ((1048576 : Int) < (t.size : Int)) = false := by simp only [decide_eq_false_iff_not]; omega
  have hp := fun wx => putText_ok t wx (by omega)
  have hq := fun wx => laid_ref t wx (by omega)
  have hg := fun wx => getText_bad s a wx (by omega)
  go_enter Try.func4, Try.ntmps4
  go_wp2_with fail
  refine (hp _).mono ?_
  rintro e w1 ⟨rfl, b1⟩
  go_wp2_with fail
  refine (hg _).mono ?_
  rintro e w2 ⟨rfl, b2⟩
  go_wp2_with fail
  refine (hq _).mono ?_
  rintro e w3 ⟨rfl, b3⟩
  go_wp2_with fail
  have hB := (b1.trans (b2.mono b1.size)).trans (b3.mono (Nat.le_trans b1.size b2.size))
  refine (awake_calls _).mono ?_
  rintro e w5 ⟨rfl, b5⟩
  go_wp2
  go_ret
  exact ⟨rfl, hB.trans (b5.mono hB.size)⟩

set_option maxHeartbeats 1000000 in
theorem texts_11 (t s : ByteArray) (a : Int) (w : World) (ht : t.size ≤ maxLen) (hs : s.size ≤ maxLen) (hn : ¬ 1048576 < t.size) (ha0 : ¬ a < 0) (ha : (s.size : Int) < a) :
    Calls Try.prog 4 #[.string t, .string s, .int .i64 a] w fun e w' => e = .returned (.bool true) ∧ Below w.heap.size w w' := by
  unfold maxLen at ht
  have hd : decide ((1048576 : Int) < (t.size : Int)) = false := by simp only [decide_eq_false_iff_not]; omega
  have hp := fun wx => putText_ok t wx (by omega)
  have hq := fun wx => laid_ref t wx (by omega)
  have hg := fun wx => getText_bad s a wx (by omega)
  go_enter Try.func4, Try.ntmps4
  go_wp2_with fail
  refine (hp _).mono ?_
  rintro e w1 ⟨rfl, b1⟩
  go_wp2_with fail
  refine (hg _).mono ?_
  rintro e w2 ⟨rfl, b2⟩
  go_wp2_with fail
  refine (hq _).mono ?_
  rintro e w3 ⟨rfl, b3⟩
  go_wp2_with fail
  have hB := (b1.trans (b2.mono b1.size)).trans (b3.mono (Nat.le_trans b1.size b2.size))
  refine (awake_calls _).mono ?_
  rintro e w5 ⟨rfl, b5⟩
  go_wp2
  go_ret
  exact ⟨rfl, hB.trans (b5.mono hB.size)⟩

set_option maxHeartbeats 1000000 in
theorem texts_12 (t s : ByteArray) (a : Int) (w : World) (ht : t.size ≤ maxLen) (hs : s.size ≤ maxLen) (hn : ¬ 1048576 < t.size) (ha0 : ¬ a < 0) (ha : ¬ (s.size : Int) < a) :
    Calls Try.prog 4 #[.string t, .string s, .int .i64 a] w fun e w' => e = .returned (.bool true) ∧ Below w.heap.size w w' := by
  unfold maxLen at ht
  have hd : decide ((1048576 : Int) < (t.size : Int)) = false := by simp only [decide_eq_false_iff_not]; omega
  have hp := fun wx => putText_ok t wx (by omega)
  have hq := fun wx => laid_ref t wx (by omega)
  obtain ⟨b, rfl⟩ := Int.eq_ofNat_of_zero_le (show 0 ≤ a by omega)
  have hg := fun wx => getText_calls s b wx hs (by omega)
  have hr := fun wx => text_ref s b wx hs (by omega)
  go_enter Try.func4, Try.ntmps4
  go_wp2_with fail
  refine (hp _).mono ?_
  rintro e w1 ⟨rfl, b1⟩
  go_wp2_with fail
  refine (hg _).mono ?_
  rintro e w2 ⟨rfl, b2⟩
  have hgv : ∃ (x : ByteArray) (y z : Int), gotT (rdText s b) = #[.string x, .int .i64 y, .int .i64 z] := by unfold gotT; split <;> exact ⟨_, _, _, rfl⟩
  obtain ⟨x, y, z, hxyz⟩ := hgv
  rw [hxyz] at hr
  rw [hxyz]
  clear hxyz hg
  go_wp2_with fail
  refine (hq _).mono ?_
  rintro e w3 ⟨rfl, b3⟩
  go_wp2_with fail
  refine (hr _).mono ?_
  rintro e w4 ⟨rfl, rfl⟩
  go_wp2_with fail
  have hB := (b1.trans (b2.mono b1.size)).trans (b3.mono (Nat.le_trans b1.size b2.size))
  refine (awake_calls _).mono ?_
  rintro e w5 ⟨rfl, b5⟩
  go_wp2
  go_ret
  exact ⟨rfl, hB.trans (b5.mono hB.size)⟩

theorem texts_calls (t s : ByteArray) (a : Int) (w : World) (ht : t.size ≤ maxLen) (hs : s.size ≤ maxLen) :
    Calls Try.prog 4 #[.string t, .string s, .int .i64 a] w fun e w' => e = .returned (.bool true) ∧ Below w.heap.size w w' := by
  by_cases h1 : 1048576 < t.size
  · by_cases g1 : a < 0
    · exact texts_00 t s a w ht hs h1 g1
    · by_cases g2 : (s.size : Int) < a
      · exact texts_01 t s a w ht hs h1 g1 g2
      · exact texts_02 t s a w ht hs h1 g1 g2
  · by_cases g1 : a < 0
    · exact texts_10 t s a w ht hs h1 g1
    · by_cases g2 : (s.size : Int) < a
      · exact texts_11 t s a w ht hs h1 g1 g2
      · exact texts_12 t s a w ht hs h1 g1 g2
end Go.Proofs.Ytbdakbibnigdjaa
