/- WireInts for every input: what it answers. -/
import Derived.Test.YtbdakbibnigdjaaAwake
import Derived.Test.YtbdakbibnigdjaaRef1
namespace Go.Proofs.Ytbdakbibnigdjaa
open Go.RowKit
set_option linter.unusedVariables false
set_option linter.unusedSimpArgs false

set_option maxHeartbeats 1000000 in
theorem ints_00 (n a : Int) (s : ByteArray) (w : World) (hs : s.size ≤ maxLen) (hn : n < 0) (ha : a < 0) :
    Calls Try.prog 3 #[.int .i64 n, .string s, .int .i64 a] w fun e w' => e = .returned (.bool true) ∧ Below w.heap.size w w' := by
  have hp := fun wx => putInt_bad n wx (by omega)
  have hg := fun wx => getInt_bad s a wx (by omega)
  go_enter Try.func3, Try.ntmps3
  go_wp2_with fail
  refine (hp _).mono ?_
  rintro e w1 ⟨rfl, rfl⟩
  go_wp2_with fail
  refine (hg _).mono ?_
  rintro e w2 ⟨rfl, b2⟩
  go_wp2_with fail
  have hB := b2
  refine (awake_calls _).mono ?_
  rintro e w5 ⟨rfl, b5⟩
  go_wp2
  go_ret
  exact ⟨rfl, hB.trans (b5.mono hB.size)⟩

set_option maxHeartbeats 1000000 in
theorem ints_01 (n a : Int) (s : ByteArray) (w : World) (hs : s.size ≤ maxLen) (hn : n < 0) (ha0 : ¬ a < 0) (ha : (s.size : Int) < a) :
    Calls Try.prog 3 #[.int .i64 n, .string s, .int .i64 a] w fun e w' => e = .returned (.bool true) ∧ Below w.heap.size w w' := by
  have hp := fun wx => putInt_bad n wx (by omega)
  have hg := fun wx => getInt_bad s a wx (by omega)
  go_enter Try.func3, Try.ntmps3
  go_wp2_with fail
  refine (hp _).mono ?_
  rintro e w1 ⟨rfl, rfl⟩
  go_wp2_with fail
  refine (hg _).mono ?_
  rintro e w2 ⟨rfl, b2⟩
  go_wp2_with fail
  have hB := b2
  refine (awake_calls _).mono ?_
  rintro e w5 ⟨rfl, b5⟩
  go_wp2
  go_ret
  exact ⟨rfl, hB.trans (b5.mono hB.size)⟩

set_option maxHeartbeats 1000000 in
theorem ints_02 (n a : Int) (s : ByteArray) (w : World) (hs : s.size ≤ maxLen) (hn : n < 0) (ha0 : ¬ a < 0) (ha : ¬ (s.size : Int) < a) :
    Calls Try.prog 3 #[.int .i64 n, .string s, .int .i64 a] w fun e w' => e = .returned (.bool true) ∧ Below w.heap.size w w' := by
  have hp := fun wx => putInt_bad n wx (by omega)
  obtain ⟨b, rfl⟩ := Int.eq_ofNat_of_zero_le (show 0 ≤ a by omega)
  have hg := fun wx => getInt_calls s b wx hs (by omega)
  have hr := fun wx => int_ref s b wx hs (by omega)
  go_enter Try.func3, Try.ntmps3
  go_wp2_with fail
  refine (hp _).mono ?_
  rintro e w1 ⟨rfl, rfl⟩
  go_wp2_with fail
  refine (hg _).mono ?_
  rintro e w2 ⟨rfl, b2⟩
  have hgv : ∃ x y z : Int, got (rdInt s b) = #[.int .i64 x, .int .i64 y, .int .i64 z] := by unfold got; split <;> exact ⟨_, _, _, rfl⟩
  obtain ⟨x, y, z, hxyz⟩ := hgv
  rw [hxyz] at hr
  rw [hxyz]
  clear hxyz hg
  go_wp2_with fail
  refine (hr _).mono ?_
  rintro e w4 ⟨rfl, rfl⟩
  go_wp2_with fail
  have hB := b2
  refine (awake_calls _).mono ?_
  rintro e w5 ⟨rfl, b5⟩
  go_wp2
  go_ret
  exact ⟨rfl, hB.trans (b5.mono hB.size)⟩

set_option maxHeartbeats 1000000 in
theorem ints_10 (n a : Int) (s : ByteArray) (w : World) (hs : s.size ≤ maxLen) (hn0 : ¬ n < 0) (hn : 9007199254740992 < n) (ha : a < 0) :
    Calls Try.prog 3 #[.int .i64 n, .string s, .int .i64 a] w fun e w' => e = .returned (.bool true) ∧ Below w.heap.size w w' := by
  have hp := fun wx => putInt_bad n wx (by omega)
  have hg := fun wx => getInt_bad s a wx (by omega)
  go_enter Try.func3, Try.ntmps3
  go_wp2_with fail
  refine (hp _).mono ?_
  rintro e w1 ⟨rfl, rfl⟩
  go_wp2_with fail
  refine (hg _).mono ?_
  rintro e w2 ⟨rfl, b2⟩
  go_wp2_with fail
  have hB := b2
  refine (awake_calls _).mono ?_
  rintro e w5 ⟨rfl, b5⟩
  go_wp2
  go_ret
  exact ⟨rfl, hB.trans (b5.mono hB.size)⟩

set_option maxHeartbeats 1000000 in
theorem ints_11 (n a : Int) (s : ByteArray) (w : World) (hs : s.size ≤ maxLen) (hn0 : ¬ n < 0) (hn : 9007199254740992 < n) (ha0 : ¬ a < 0) (ha : (s.size : Int) < a) :
    Calls Try.prog 3 #[.int .i64 n, .string s, .int .i64 a] w fun e w' => e = .returned (.bool true) ∧ Below w.heap.size w w' := by
  have hp := fun wx => putInt_bad n wx (by omega)
  have hg := fun wx => getInt_bad s a wx (by omega)
  go_enter Try.func3, Try.ntmps3
  go_wp2_with fail
  refine (hp _).mono ?_
  rintro e w1 ⟨rfl, rfl⟩
  go_wp2_with fail
  refine (hg _).mono ?_
  rintro e w2 ⟨rfl, b2⟩
  go_wp2_with fail
  have hB := b2
  refine (awake_calls _).mono ?_
  rintro e w5 ⟨rfl, b5⟩
  go_wp2
  go_ret
  exact ⟨rfl, hB.trans (b5.mono hB.size)⟩

set_option maxHeartbeats 1000000 in
theorem ints_12 (n a : Int) (s : ByteArray) (w : World) (hs : s.size ≤ maxLen) (hn0 : ¬ n < 0) (hn : 9007199254740992 < n) (ha0 : ¬ a < 0) (ha : ¬ (s.size : Int) < a) :
    Calls Try.prog 3 #[.int .i64 n, .string s, .int .i64 a] w fun e w' => e = .returned (.bool true) ∧ Below w.heap.size w w' := by
  have hp := fun wx => putInt_bad n wx (by omega)
  obtain ⟨b, rfl⟩ := Int.eq_ofNat_of_zero_le (show 0 ≤ a by omega)
  have hg := fun wx => getInt_calls s b wx hs (by omega)
  have hr := fun wx => int_ref s b wx hs (by omega)
  go_enter Try.func3, Try.ntmps3
  go_wp2_with fail
  refine (hp _).mono ?_
  rintro e w1 ⟨rfl, rfl⟩
  go_wp2_with fail
  refine (hg _).mono ?_
  rintro e w2 ⟨rfl, b2⟩
  have hgv : ∃ x y z : Int, got (rdInt s b) = #[.int .i64 x, .int .i64 y, .int .i64 z] := by unfold got; split <;> exact ⟨_, _, _, rfl⟩
  obtain ⟨x, y, z, hxyz⟩ := hgv
  rw [hxyz] at hr
  rw [hxyz]
  clear hxyz hg
  go_wp2_with fail
  refine (hr _).mono ?_
  rintro e w4 ⟨rfl, rfl⟩
  go_wp2_with fail
  have hB := b2
  refine (awake_calls _).mono ?_
  rintro e w5 ⟨rfl, b5⟩
  go_wp2
  go_ret
  exact ⟨rfl, hB.trans (b5.mono hB.size)⟩

set_option maxHeartbeats 1000000 in
theorem ints_20 (n a : Int) (s : ByteArray) (w : World) (hs : s.size ≤ maxLen) (hn0 : ¬ n < 0) (hn : ¬ 9007199254740992 < n) (ha : a < 0) :
    Calls Try.prog 3 #[.int .i64 n, .string s, .int .i64 a] w fun e w' => e = .returned (.bool true) ∧ Below w.heap.size w w' := by
  obtain ⟨m, rfl⟩ := Int.eq_ofNat_of_zero_le (show 0 ≤ n by omega)
  have hp := fun wx => putInt_ok m wx (by omega)
  have hq := fun wx => number_ref m wx (by omega)
  have hg := fun wx => getInt_bad s a wx (by omega)
  go_enter Try.func3, Try.ntmps3
  go_wp2_with fail
  refine (hp _).mono ?_
  rintro e w1 ⟨rfl, b1⟩
  go_wp2_with fail
  refine (hg _).mono ?_
  rintro e w2 ⟨rfl, b2⟩
  go_wp2_with fail
  refine (hq _).mono ?_
  rintro e w3 ⟨rfl, b3⟩
  go_wp2_with fail
  have hB := (b1.trans (b2.mono b1.size)).trans (b3.mono (Nat.le_trans b1.size b2.size))
  refine (awake_calls _).mono ?_
  rintro e w5 ⟨rfl, b5⟩
  go_wp2
  go_ret
  exact ⟨rfl, hB.trans (b5.mono hB.size)⟩

set_option maxHeartbeats 1000000 in
theorem ints_21 (n a : Int) (s : ByteArray) (w : World) (hs : s.size ≤ maxLen) (hn0 : ¬ n < 0) (hn : ¬ 9007199254740992 < n) (ha0 : ¬ a < 0) (ha : (s.size : Int) < a) :
    Calls Try.prog 3 #[.int .i64 n, .string s, .int .i64 a] w fun e w' => e = .returned (.bool true) ∧ Below w.heap.size w w' := by
  obtain ⟨m, rfl⟩ := Int.eq_ofNat_of_zero_le (show 0 ≤ n by omega)
  have hp := fun wx => putInt_ok m wx (by omega)
  have hq := fun wx => number_ref m wx (by omega)
  have hg := fun wx => getInt_bad s a wx (by omega)
  go_enter Try.func3, Try.ntmps3
  go_wp2_with fail
  refine (hp _).mono ?_
  rintro e w1 ⟨rfl, b1⟩
  go_wp2_with fail
  refine (hg _).mono ?_
  rintro e w2 ⟨rfl, b2⟩
  go_wp2_with fail
  refine (hq _).mono ?_
  rintro e w3 ⟨rfl, b3⟩
  go_wp2_with fail
  have hB := (b1.trans (b2.mono b1.size)).trans (b3.mono (Nat.le_trans b1.size b2.size))
  refine (awake_calls _).mono ?_
  rintro e w5 ⟨rfl, b5⟩
  go_wp2
  go_ret
  exact ⟨rfl, hB.trans (b5.mono hB.size)⟩

set_option maxHeartbeats 1000000 in
theorem ints_22 (n a : Int) (s : ByteArray) (w : World) (hs : s.size ≤ maxLen) (hn0 : ¬ n < 0) (hn : ¬ 9007199254740992 < n) (ha0 : ¬ a < 0) (ha : ¬ (s.size : Int) < a) :
    Calls Try.prog 3 #[.int .i64 n, .string s, .int .i64 a] w fun e w' => e = .returned (.bool true) ∧ Below w.heap.size w w' := by
  obtain ⟨m, rfl⟩ := Int.eq_ofNat_of_zero_le (show 0 ≤ n by omega)
  have hp := fun wx => putInt_ok m wx (by omega)
  have hq := fun wx => number_ref m wx (by omega)
  obtain ⟨b, rfl⟩ := Int.eq_ofNat_of_zero_le (show 0 ≤ a by omega)
  have hg := fun wx => getInt_calls s b wx hs (by omega)
  have hr := fun wx => int_ref s b wx hs (by omega)
  go_enter Try.func3, Try.ntmps3
  go_wp2_with fail
  refine (hp _).mono ?_
  rintro e w1 ⟨rfl, b1⟩
  go_wp2_with fail
  refine (hg _).mono ?_
  rintro e w2 ⟨rfl, b2⟩
  have hgv : ∃ x y z : Int, got (rdInt s b) = #[.int .i64 x, .int .i64 y, .int .i64 z] := by unfold got; split <;> exact ⟨_, _, _, rfl⟩
  obtain ⟨x, y, z, hxyz⟩ := hgv
  rw [hxyz] at hr
  rw [hxyz]
  clear hxyz hg
  go_wp2_with fail
  refine (hq _).mono ?_
  rintro e w3 ⟨rfl, b3⟩
  go_wp2_with fail
  refine (hr _).mono ?_
  rintro e w4 ⟨rfl, rfl⟩
  go_wp2_with fail
  have hB := (b1.trans (b2.mono b1.size)).trans (b3.mono (Nat.le_trans b1.size b2.size))
  refine (awake_calls _).mono ?_
  rintro e w5 ⟨rfl, b5⟩
  go_wp2
  go_ret
  exact ⟨rfl, hB.trans (b5.mono hB.size)⟩

theorem ints_calls (n a : Int) (s : ByteArray) (w : World) (hs : s.size ≤ maxLen) :
    Calls Try.prog 3 #[.int .i64 n, .string s, .int .i64 a] w fun e w' => e = .returned (.bool true) ∧ Below w.heap.size w w' := by
  by_cases h1 : n < 0
  · by_cases g1 : a < 0
    · exact ints_00 n a s w hs h1 g1
    · by_cases g2 : (s.size : Int) < a
      · exact ints_01 n a s w hs h1 g1 g2
      · exact ints_02 n a s w hs h1 g1 g2
  · by_cases h2 : 9007199254740992 < n
    · by_cases g1 : a < 0
      · exact ints_10 n a s w hs h1 h2 g1
      · by_cases g2 : (s.size : Int) < a
        · exact ints_11 n a s w hs h1 h2 g1 g2
        · exact ints_12 n a s w hs h1 h2 g1 g2
    · by_cases g1 : a < 0
      · exact ints_20 n a s w hs h1 h2 g1
      · by_cases g2 : (s.size : Int) < a
        · exact ints_21 n a s w hs h1 h2 g1 g2
        · exact ints_22 n a s w hs h1 h2 g1 g2
end Go.Proofs.Ytbdakbibnigdjaa
