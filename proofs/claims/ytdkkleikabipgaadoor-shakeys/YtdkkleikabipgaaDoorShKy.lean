/- The walk of ShaKeys. -/
import Derived.Test.YtdkkleikabipgaaDoorShQ
namespace Go.Proofs.YtdkkleikabipgaaDoor
open Go.RowKit
set_option linter.unusedSimpArgs false
set_option linter.unusedVariables false

theorem tmodK_small (n : Int) (m : Nat) (hm : 0 < m) : -(m : Int) < n.tmod m ∧ n.tmod m < m := by
  have h1 := Int.tmod_lt_of_pos n (b := (m : Int)) (by omega)
  have h2 := Int.tmod_lt_of_pos (-n) (b := (m : Int)) (by omega)
  rw [Int.neg_tmod] at h2
  omega
theorem zeros_cells (m : Nat) : madeCells #[.int .u8 0] m = byA (List.replicate m 0) := by
  apply Array.ext_getElem?
  intro i
  by_cases hi : i < m
  · have a1 : (madeCells #[.int .u8 0] m)[i]? = some (.int .u8 0) := by simp [madeCells, hi, Nat.mod_one]
    rw [a1, byA_get _ _ (by rw [List.length_replicate]; exact hi)]
    rw [List.getD_eq_getElem?_getD, List.getElem?_replicate, if_pos hi]; rfl
  · rw [Array.getElem?_eq_none (by rw [size_madeCells]; omega), Array.getElem?_eq_none (by rw [byA_size, List.length_replicate]; omega)]
/-- 'string(make([]byte, m))'. -/
theorem zeros_convert (m : Nat) (w : World) :
    (convert 33 9 (.slice (some ⟨w.heap.size, 0, none⟩) m m)).run Tryd.prog (w.alloc (.cells (madeCells #[.int .u8 0] m) 5)) = .ok (.string ⟨(List.replicate m 0).toArray⟩) (w.alloc (.cells (madeCells #[.int .u8 0] m) 5)) := by
  have hX : Blk (w.alloc (.cells (madeCells #[.int .u8 0] m) 5)) w.heap.size (byA (List.replicate m 0)) 5 := by rw [zeros_cells]; exact blk_new _ _ _ _ rfl
  have hcv := run_convert_bytes_back (P := Tryd.prog) (w.alloc (.cells (madeCells #[.int .u8 0] m) 5)) 33 9 5 ⟨w.heap.size, 0, none⟩ m (List.replicate m 0) Tryd.underlying33 Tryd.underlying5 Tryd.underlying9 (fun j hj => by
    have := hX.cell (byA_get (List.replicate m 0) j hj)
    rw [List.getD_eq_getElem?_getD, List.getElem?_eq_getElem hj] at this
    rw [Addr.add_mid]
    simpa using this)
  rwa [List.length_replicate] at hcv

/-- What the calls answer: a key of more than 64 bytes. -/
theorem keys_long (a t : ByteArray) (h1 : 64 < a.size) (h2 : a.size ≤ 4096) (h3 : t.size ≤ 4096) : ∃ r c : ByteArray,
    (∀ wx, KT wx → Calls Tryd.prog 12 #[.string a, .string t] wx fun e w' => e = .returned (.string r) ∧ Below wx.heap.size wx w') ∧
    (∀ wx, KT wx → Calls Tryd.prog 9 #[.string a] wx fun e w' => e = .returned (.string c) ∧ Below wx.heap.size wx w') ∧
    (∀ wx, KT wx → Calls Tryd.prog 12 #[.string c, .string t] wx fun e w' => e = .returned (.string r) ∧ Below wx.heap.size wx w') ∧
    (∀ wx, Calls Tryd.prog 13 #[.string a, .string t] wx fun e w' => e = .returned (.string r) ∧ Below wx.heap.size wx w') := by
  refine ⟨_, _, fun wx hk => mac_calls a t wx hk (by omega) (by omega), fun wx hk => shaSum_calls a wx hk (by omega), fun wx hk => ?_, fun wx => refMac_calls a t wx (by omega) (by omega)⟩
  have h := mac_calls ⟨(sumL a.data.toList).toArray⟩ t wx hk (by rw [Lib.size_eq, data_mk, sumL_length]; decide) (by omega)
  rw [data_mk, macL_long _ _ (by rw [← Lib.size_eq]; exact h1)] at h
  exact h
/-- What the calls answer: a key of at most 64 bytes, and noughts behind it. -/
theorem keys_short (a t : ByteArray) (m : Nat) (h1 : a.size + m ≤ 64) (h3 : t.size ≤ 4096) : ∃ r : ByteArray,
    (∀ wx, KT wx → Calls Tryd.prog 12 #[.string (a ++ ⟨(List.replicate m 0).toArray⟩), .string t] wx fun e w' => e = .returned (.string r) ∧ Below wx.heap.size wx w') ∧
    (∀ wx, Calls Tryd.prog 13 #[.string a, .string t] wx fun e w' => e = .returned (.string r) ∧ Below wx.heap.size wx w') := by
  refine ⟨_, fun wx hk => ?_, fun wx => refMac_calls a t wx (by omega) (by omega)⟩
  have hm : (ByteArray.mk (List.replicate m 0).toArray).size = m := by rw [Lib.size_eq, data_mk, List.length_replicate]
  have hz : (a ++ ByteArray.mk (List.replicate m 0).toArray).size = a.size + m := by rw [ByteArray.size_append, hm]
  have h := mac_calls (a ++ ⟨(List.replicate m 0).toArray⟩) t wx hk (by omega) (by omega)
  rw [cat_listM, data_mk, macL_zeros _ _ _ (by rw [← Lib.size_eq]; omega)] at h
  exact h

set_option maxRecDepth 100000 in
set_option maxHeartbeats 4000000 in
theorem keys_calls (k s : ByteArray) (n : Int) (w : World) (hK : KT w) :
    Calls Tryd.prog 6 #[.string k, .string s, .int .i64 n] w fun e w' => e = .returned (.bool true) ∧ Below w.heap.size w w' := by
  go_enter Tryd.func6, Tryd.ntmps6
  by_cases hs : s.size ≤ 4096
  · skip
    by_cases hk : k.size ≤ 4096
    · by_cases hk2 : k.size ≤ 64
      · skip
        have hcu := tmodK_small n (65 - k.size) (by omega)
        obtain ⟨q, hq⟩ : ∃ q : Nat, (n.tmod ((65 - k.size : Nat) : Int)).natAbs = q := ⟨_, rfl⟩
        rw [show (((65 - k.size : Nat) : Int)) = 65 - (k.size : Int) by omega] at hcu hq
        have hqk : k.size + q ≤ 64 := by omega
        have hmk := fun wx => run_make_row' (P := Tryd.prog) 33 5 (.int .u8 0) 1 Tryd.underlying33 infoByte rfl .i64 .i64 q (by omega) (by omega) wx
        have hzc := zeros_convert q w
        obtain ⟨r, h1, h2⟩ := keys_short k s q hqk hs
        generalize hzz : ByteArray.mk (List.replicate q 0).toArray = zz at hzc h1
        have hzq : zz.size = q := by rw [← hzz, Lib.size_eq, data_mk, List.length_replicate]
        obtain ⟨W0, hW0⟩ : ∃ W0, w.alloc (.cells (madeCells #[.int .u8 0] q) 5) = W0 := ⟨_, rfl⟩
        have B0 : Below w.heap.size w W0 := by rw [← hW0]; exact (Below.refl _ _).alloc (Nat.le_refl _) _
        have K0 := hK.below B0 hK.lt
        rw [hW0] at hzc
        have H1 : Hid _ := h1
        have H2 : Hid _ := h2
        clear h1 h2 hzz
        by_cases hneg : n.tmod (65 - (k.size : Int)) < 0
        · have e4 : -n.tmod (65 - (k.size : Int)) = (q : Int) := by omega
          go_wp2_with fail
          refine (H1.out _ K0).mono ?_
          rintro e w1 ⟨rfl, hb1⟩
          have B1 := B0.trans (hb1.mono B0.size)
          have K1 := K0.below hb1 K0.lt
          go_wp2_with fail
          refine (H2.out _).mono ?_
          rintro e w2 ⟨rfl, hb2⟩
          have B2 := B1.trans (hb2.mono B1.size)
          have K2 := K1.below hb2 K1.lt
          go_wp2_with fail
          refine (awake_calls _ K2).mono ?_
          rintro e w3 ⟨rfl, hb3⟩
          go_wp2
          go_ret
          exact ⟨rfl, B2.trans (hb3.mono B2.size)⟩
        · have e4 : n.tmod (65 - (k.size : Int)) = (q : Int) := by omega
          go_wp2_with fail
          refine (H1.out _ K0).mono ?_
          rintro e w1 ⟨rfl, hb1⟩
          have B1 := B0.trans (hb1.mono B0.size)
          have K1 := K0.below hb1 K0.lt
          go_wp2_with fail
          refine (H2.out _).mono ?_
          rintro e w2 ⟨rfl, hb2⟩
          have B2 := B1.trans (hb2.mono B1.size)
          have K2 := K1.below hb2 K1.lt
          go_wp2_with fail
          refine (awake_calls _ K2).mono ?_
          rintro e w3 ⟨rfl, hb3⟩
          go_wp2
          go_ret
          exact ⟨rfl, B2.trans (hb3.mono B2.size)⟩
      · skip
        obtain ⟨r, c, h1, h2, h3, h4⟩ := keys_long k s (by omega) hk hs
        have H1 : Hid _ := h1
        have H2 : Hid _ := h2
        have H3 : Hid _ := h3
        have H4 : Hid _ := h4
        clear h1 h2 h3 h4
        go_wp2_with fail
        refine (H1.out _ hK).mono ?_
        rintro e w1 ⟨rfl, B1⟩
        have K1 := hK.below B1 hK.lt
        go_wp2_with fail
        refine (H2.out _ K1).mono ?_
        rintro e w2 ⟨rfl, hb2⟩
        have B2 := B1.trans (hb2.mono B1.size)
        have K2 := K1.below hb2 K1.lt
        go_wp2_with fail
        refine (H3.out _ K2).mono ?_
        rintro e w3 ⟨rfl, hb3⟩
        have B3 := B2.trans (hb3.mono B2.size)
        have K3 := K2.below hb3 K2.lt
        go_wp2_with fail
        refine (H1.out _ K3).mono ?_
        rintro e w4 ⟨rfl, hb4⟩
        have B4 := B3.trans (hb4.mono B3.size)
        have K4 := K3.below hb4 K3.lt
        go_wp2_with fail
        refine (H4.out _).mono ?_
        rintro e w5 ⟨rfl, hb5⟩
        have B5 := B4.trans (hb5.mono B4.size)
        have K5 := K4.below hb5 K4.lt
        go_wp2_with fail
        refine (awake_calls _ K5).mono ?_
        rintro e w6 ⟨rfl, hb6⟩
        go_wp2
        go_ret
        exact ⟨rfl, B5.trans (hb6.mono B5.size)⟩
    · have hlk : (4096 : Int) ≤ k.size := by omega
      have hlz : (k.extract 0 4096).size = 4096 := by rw [ByteArray.size_extract]; omega
      obtain ⟨r, c, h1, h2, h3, h4⟩ := keys_long (k.extract 0 4096) s (by omega) (by omega) hs
      have H1 : Hid _ := h1
      have H2 : Hid _ := h2
      have H3 : Hid _ := h3
      have H4 : Hid _ := h4
      clear h1 h2 h3 h4
      go_wp2_with fail
      refine (H1.out _ hK).mono ?_
      rintro e w1 ⟨rfl, B1⟩
      have K1 := hK.below B1 hK.lt
      go_wp2_with fail
      refine (H2.out _ K1).mono ?_
      rintro e w2 ⟨rfl, hb2⟩
      have B2 := B1.trans (hb2.mono B1.size)
      have K2 := K1.below hb2 K1.lt
      go_wp2_with fail
      refine (H3.out _ K2).mono ?_
      rintro e w3 ⟨rfl, hb3⟩
      have B3 := B2.trans (hb3.mono B2.size)
      have K3 := K2.below hb3 K2.lt
      go_wp2_with fail
      refine (H1.out _ K3).mono ?_
      rintro e w4 ⟨rfl, hb4⟩
      have B4 := B3.trans (hb4.mono B3.size)
      have K4 := K3.below hb4 K3.lt
      go_wp2_with fail
      refine (H4.out _).mono ?_
      rintro e w5 ⟨rfl, hb5⟩
      have B5 := B4.trans (hb5.mono B4.size)
      have K5 := K4.below hb5 K4.lt
      go_wp2_with fail
      refine (awake_calls _ K5).mono ?_
      rintro e w6 ⟨rfl, hb6⟩
      go_wp2
      go_ret
      exact ⟨rfl, B5.trans (hb6.mono B5.size)⟩
  · have hls : (4096 : Int) ≤ s.size := by omega
    by_cases hk : k.size ≤ 4096
    · by_cases hk2 : k.size ≤ 64
      · skip
        have hcu := tmodK_small n (65 - k.size) (by omega)
        obtain ⟨q, hq⟩ : ∃ q : Nat, (n.tmod ((65 - k.size : Nat) : Int)).natAbs = q := ⟨_, rfl⟩
        rw [show (((65 - k.size : Nat) : Int)) = 65 - (k.size : Int) by omega] at hcu hq
        have hqk : k.size + q ≤ 64 := by omega
        have hmk := fun wx => run_make_row' (P := Tryd.prog) 33 5 (.int .u8 0) 1 Tryd.underlying33 infoByte rfl .i64 .i64 q (by omega) (by omega) wx
        have hzc := zeros_convert q w
        obtain ⟨r, h1, h2⟩ := keys_short k (s.extract 0 4096) q hqk (by rw [ByteArray.size_extract]; omega)
        generalize hzz : ByteArray.mk (List.replicate q 0).toArray = zz at hzc h1
        have hzq : zz.size = q := by rw [← hzz, Lib.size_eq, data_mk, List.length_replicate]
        obtain ⟨W0, hW0⟩ : ∃ W0, w.alloc (.cells (madeCells #[.int .u8 0] q) 5) = W0 := ⟨_, rfl⟩
        have B0 : Below w.heap.size w W0 := by rw [← hW0]; exact (Below.refl _ _).alloc (Nat.le_refl _) _
        have K0 := hK.below B0 hK.lt
        rw [hW0] at hzc
        have H1 : Hid _ := h1
        have H2 : Hid _ := h2
        clear h1 h2 hzz
        by_cases hneg : n.tmod (65 - (k.size : Int)) < 0
        · have e4 : -n.tmod (65 - (k.size : Int)) = (q : Int) := by omega
          go_wp2_with fail
          refine (H1.out _ K0).mono ?_
          rintro e w1 ⟨rfl, hb1⟩
          have B1 := B0.trans (hb1.mono B0.size)
          have K1 := K0.below hb1 K0.lt
          go_wp2_with fail
          refine (H2.out _).mono ?_
          rintro e w2 ⟨rfl, hb2⟩
          have B2 := B1.trans (hb2.mono B1.size)
          have K2 := K1.below hb2 K1.lt
          go_wp2_with fail
          refine (awake_calls _ K2).mono ?_
          rintro e w3 ⟨rfl, hb3⟩
          go_wp2
          go_ret
          exact ⟨rfl, B2.trans (hb3.mono B2.size)⟩
        · have e4 : n.tmod (65 - (k.size : Int)) = (q : Int) := by omega
          go_wp2_with fail
          refine (H1.out _ K0).mono ?_
          rintro e w1 ⟨rfl, hb1⟩
          have B1 := B0.trans (hb1.mono B0.size)
          have K1 := K0.below hb1 K0.lt
          go_wp2_with fail
          refine (H2.out _).mono ?_
          rintro e w2 ⟨rfl, hb2⟩
          have B2 := B1.trans (hb2.mono B1.size)
          have K2 := K1.below hb2 K1.lt
          go_wp2_with fail
          refine (awake_calls _ K2).mono ?_
          rintro e w3 ⟨rfl, hb3⟩
          go_wp2
          go_ret
          exact ⟨rfl, B2.trans (hb3.mono B2.size)⟩
      · skip
        obtain ⟨r, c, h1, h2, h3, h4⟩ := keys_long k (s.extract 0 4096) (by omega) hk (by rw [ByteArray.size_extract]; omega)
        have H1 : Hid _ := h1
        have H2 : Hid _ := h2
        have H3 : Hid _ := h3
        have H4 : Hid _ := h4
        clear h1 h2 h3 h4
        go_wp2_with fail
        refine (H1.out _ hK).mono ?_
        rintro e w1 ⟨rfl, B1⟩
        have K1 := hK.below B1 hK.lt
        go_wp2_with fail
        refine (H2.out _ K1).mono ?_
        rintro e w2 ⟨rfl, hb2⟩
        have B2 := B1.trans (hb2.mono B1.size)
        have K2 := K1.below hb2 K1.lt
        go_wp2_with fail
        refine (H3.out _ K2).mono ?_
        rintro e w3 ⟨rfl, hb3⟩
        have B3 := B2.trans (hb3.mono B2.size)
        have K3 := K2.below hb3 K2.lt
        go_wp2_with fail
        refine (H1.out _ K3).mono ?_
        rintro e w4 ⟨rfl, hb4⟩
        have B4 := B3.trans (hb4.mono B3.size)
        have K4 := K3.below hb4 K3.lt
        go_wp2_with fail
        refine (H4.out _).mono ?_
        rintro e w5 ⟨rfl, hb5⟩
        have B5 := B4.trans (hb5.mono B4.size)
        have K5 := K4.below hb5 K4.lt
        go_wp2_with fail
        refine (awake_calls _ K5).mono ?_
        rintro e w6 ⟨rfl, hb6⟩
        go_wp2
        go_ret
        exact ⟨rfl, B5.trans (hb6.mono B5.size)⟩
    · have hlk : (4096 : Int) ≤ k.size := by omega
      have hlz : (k.extract 0 4096).size = 4096 := by rw [ByteArray.size_extract]; omega
      obtain ⟨r, c, h1, h2, h3, h4⟩ := keys_long (k.extract 0 4096) (s.extract 0 4096) (by omega) (by omega) (by rw [ByteArray.size_extract]; omega)
      have H1 : Hid _ := h1
      have H2 : Hid _ := h2
      have H3 : Hid _ := h3
      have H4 : Hid _ := h4
      clear h1 h2 h3 h4
      go_wp2_with fail
      refine (H1.out _ hK).mono ?_
      rintro e w1 ⟨rfl, B1⟩
      have K1 := hK.below B1 hK.lt
      go_wp2_with fail
      refine (H2.out _ K1).mono ?_
      rintro e w2 ⟨rfl, hb2⟩
      have B2 := B1.trans (hb2.mono B1.size)
      have K2 := K1.below hb2 K1.lt
      go_wp2_with fail
      refine (H3.out _ K2).mono ?_
      rintro e w3 ⟨rfl, hb3⟩
      have B3 := B2.trans (hb3.mono B2.size)
      have K3 := K2.below hb3 K2.lt
      go_wp2_with fail
      refine (H1.out _ K3).mono ?_
      rintro e w4 ⟨rfl, hb4⟩
      have B4 := B3.trans (hb4.mono B3.size)
      have K4 := K3.below hb4 K3.lt
      go_wp2_with fail
      refine (H4.out _).mono ?_
      rintro e w5 ⟨rfl, hb5⟩
      have B5 := B4.trans (hb5.mono B4.size)
      have K5 := K4.below hb5 K4.lt
      go_wp2_with fail
      refine (awake_calls _ K5).mono ?_
      rintro e w6 ⟨rfl, hb6⟩
      go_wp2
      go_ret
      exact ⟨rfl, B5.trans (hb6.mono B5.size)⟩
end Go.Proofs.YtdkkleikabipgaaDoor
