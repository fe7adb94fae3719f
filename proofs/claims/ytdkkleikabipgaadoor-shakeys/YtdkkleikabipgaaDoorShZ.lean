/- The program's HMAC. -/
import Derived.Test.YtdkkleikabipgaaDoorShY
namespace Go.Proofs.YtdkkleikabipgaaDoor
open Go.RowKit
set_option linter.unusedSimpArgs false
set_option linter.unusedVariables false

theorem keyX_length (k : List UInt8) (x : UInt8) (h : k.length ≤ 64) : (keyX k x).length = 64 := by simp [keyX]; omega
theorem cat_listM (a b : ByteArray) : (a ++ b).data.toList = a.data.toList ++ b.data.toList := by simp
theorem data_mk (l : List UInt8) : (ByteArray.mk l.toArray).data.toList = l := rfl

set_option maxRecDepth 100000 in
set_option maxHeartbeats 2000000 in
theorem mac_calls (k s : ByteArray) (w : World) (hK : KT w) (hk : k.size ≤ 4294967296) (hs : s.size ≤ 4294967296) :
    Calls Tryd.prog 12 #[.string k, .string s] w fun e w' => e = .returned (.string ⟨(macL k.data.toList s.data.toList).toArray⟩) ∧ Below w.heap.size w w' := by
  have hgl := hK.lt
  have hkl : k.data.toList.length = k.size := by rw [Lib.size_eq]
  have hsl : s.data.toList.length = s.size := by rw [Lib.size_eq]
  obtain ⟨kk, hkk⟩ : ∃ kk : ByteArray, ByteArray.mk (keyL k.data.toList).toArray = kk := ⟨_, rfl⟩
  have hkd : kk.data.toList = keyL k.data.toList := by rw [← hkk]
  have hkz : kk.size ≤ 64 := by rw [Lib.size_eq, hkd]; exact keyL_length _
  obtain ⟨A, hA⟩ : ∃ A : ByteArray, ByteArray.mk (keyX kk.data.toList 54).toArray = A := ⟨_, rfl⟩
  obtain ⟨B, hB⟩ : ∃ B : ByteArray, ByteArray.mk (keyX kk.data.toList 92).toArray = B := ⟨_, rfl⟩
  have hkk64 : kk.data.toList.length ≤ 64 := by rw [← Lib.size_eq]; exact hkz
  have hAl : A.data.toList.length = 64 := by rw [← hA]; exact keyX_length _ _ hkk64
  have hAz : A.size = 64 := by rw [Lib.size_eq, hAl]
  have hBz : B.size = 64 := by rw [Lib.size_eq, ← hB]; exact keyX_length _ _ hkk64
  obtain ⟨C, hC⟩ : ∃ C : ByteArray, ByteArray.mk (sumL (A.data.toList ++ s.data.toList)).toArray = C := ⟨_, rfl⟩
  have hCz : C.size = 32 := by rw [Lib.size_eq, ← hC]; rfl
  obtain ⟨R, hR⟩ : ∃ R : ByteArray, ByteArray.mk (macL k.data.toList s.data.toList).toArray = R := ⟨_, rfl⟩
  have hM : ByteArray.mk (sumL (B ++ C).data.toList).toArray = R := by
    rw [cat_listM, ← hB, ← hC, ← hA, ← hR, hkd]
    rfl
  have m1 : ∀ wx, Calls Tryd.prog 21 #[.string kk, .int .u8 54] wx fun e w' => e = .returned (.string ⟨(keyX kk.data.toList 54).toArray⟩) ∧ Below wx.heap.size wx w' := fun wx => masked_calls kk 54 wx hkz
  have m2 : ∀ wx, Calls Tryd.prog 21 #[.string kk, .int .u8 92] wx fun e w' => e = .returned (.string ⟨(keyX kk.data.toList 92).toArray⟩) ∧ Below wx.heap.size wx w' := fun wx => masked_calls kk 92 wx hkz
  rw [hA] at m1
  rw [hB] at m2
  have l1 := fun wx (h : KT wx) => shaSum_calls (B ++ C) wx h (by rw [ByteArray.size_append]; omega)
  rw [hM] at l1
  have l0 := fun wx (h : KT wx) => shaSum_calls k wx h hk
  have hlong : 64 < k.size → ByteArray.mk (sumL k.data.toList).toArray = kk := fun h => by
    rw [← hkk]; unfold keyL; rw [if_pos (by omega)]
  have hshort : ¬ 64 < k.size → k = kk := fun h => by
    rw [← hkk]; unfold keyL; rw [if_neg (by omega)]
  have S1 := fun b wx (hx : HashAt wx b (A.data.toList ++ s.data.toList)) (hk : KT wx) => sum_calls b _ wx hx hk (by rw [List.length_append]; omega)
  rw [hC] at S1
  rw [hR]
  have M1 : Hid _ := m1
  have M2 : Hid _ := m2
  have L1 : Hid _ := l1
  have L0 : Hid _ := l0
  have HS1 : Hid _ := S1
  clear m1 m2 l1 l0 S1 hA hB hC hR hM hkk hkd
  go_enter Tryd.func12, Tryd.ntmps12
  by_cases hc : 64 < k.size
  · have L2 : Hid _ := hlong hc
    clear hlong hshort
    go_wp2_with fail
    refine (L0.out _ hK).mono ?_
    rintro e w0 ⟨rfl, hb0⟩
    rw [L2.out]
    have K0 := hK.below hb0 hgl
    have B0 := hb0
    clear hb0 L2 L0
    go_wp2_with fail
    refine (new_calls _).mono ?_
    rintro e w1 ⟨b, rfl, hb, hb1, H1⟩
    have B1 := B0.trans (hb1.mono B0.size)
    have K1 := K0.below hb1 K0.lt
    have hz0 := B0.size
    have hz1 := hb1.size
    go_wp2_with fail
    refine (M1.out _).mono ?_
    rintro e w2 ⟨rfl, hb2⟩
    have B2 := B1.trans (hb2.mono B1.size)
    have K2 := K1.below hb2 K1.lt
    have H2 := H1.below hb2 H1.lt
    have h3 := write_calls b [] A w2 H2 K2 (by omega) (by omega) (by simp)
    rw [List.nil_append] at h3
    have W3 : Hid _ := h3
    clear h3 H1
    go_wp2_with fail
    refine Calls.mono W3.out ?_
    rintro e w3 ⟨⟨v3, rfl⟩, o3, H3⟩
    have B3 := o3.below (by omega) B2 B2.size
    have K3 := K2.off o3 (by omega)
    have h4 := write_calls b A.data.toList s w3 H3 K3 (by omega) (by omega) (by omega)
    have W4 : Hid _ := h4
    clear h4 H2 W3
    go_wp2_with fail
    refine Calls.mono W4.out ?_
    rintro e w4 ⟨⟨v4, rfl⟩, o4, H4⟩
    have B4 := o4.below (by omega) B3 B3.size
    have K4 := K3.off o4 (by omega)
    clear W4 H3
    go_wp2_with fail
    refine (M2.out _).mono ?_
    rintro e w5 ⟨rfl, hb5⟩
    have B5 := B4.trans (hb5.mono B4.size)
    have K5 := K4.below hb5 K4.lt
    have H5 := H4.below hb5 H4.lt
    go_wp2_with fail
    refine (HS1.out _ _ H5 K5).mono ?_
    rintro e w6 ⟨rfl, hb6⟩
    have B6 := B5.trans (hb6.mono B5.size)
    have K6 := K5.below hb6 K5.lt
    go_wp2_with fail
    refine (L1.out _ K6).mono ?_
    rintro e w7 ⟨rfl, hb7⟩
    go_wp2
    go_ret
    exact ⟨rfl, B6.trans (hb7.mono B6.size)⟩
  · obtain rfl := hshort hc
    clear hlong L0
    have K0 := hK
    have B0 := Below.refl w.heap.size w
    go_wp2_with fail
    refine (new_calls _).mono ?_
    rintro e w1 ⟨b, rfl, hb, hb1, H1⟩
    have B1 := B0.trans (hb1.mono B0.size)
    have K1 := K0.below hb1 K0.lt
    have hz0 := B0.size
    have hz1 := hb1.size
    go_wp2_with fail
    refine (M1.out _).mono ?_
    rintro e w2 ⟨rfl, hb2⟩
    have B2 := B1.trans (hb2.mono B1.size)
    have K2 := K1.below hb2 K1.lt
    have H2 := H1.below hb2 H1.lt
    have h3 := write_calls b [] A w2 H2 K2 (by omega) (by omega) (by simp)
    rw [List.nil_append] at h3
    have W3 : Hid _ := h3
    clear h3 H1
    go_wp2_with fail
    refine Calls.mono W3.out ?_
    rintro e w3 ⟨⟨v3, rfl⟩, o3, H3⟩
    have B3 := o3.below (by omega) B2 B2.size
    have K3 := K2.off o3 (by omega)
    have h4 := write_calls b A.data.toList s w3 H3 K3 (by omega) (by omega) (by omega)
    have W4 : Hid _ := h4
    clear h4 H2 W3
    go_wp2_with fail
    refine Calls.mono W4.out ?_
    rintro e w4 ⟨⟨v4, rfl⟩, o4, H4⟩
    have B4 := o4.below (by omega) B3 B3.size
    have K4 := K3.off o4 (by omega)
    clear W4 H3
    go_wp2_with fail
    refine (M2.out _).mono ?_
    rintro e w5 ⟨rfl, hb5⟩
    have B5 := B4.trans (hb5.mono B4.size)
    have K5 := K4.below hb5 K4.lt
    have H5 := H4.below hb5 H4.lt
    go_wp2_with fail
    refine (HS1.out _ _ H5 K5).mono ?_
    rintro e w6 ⟨rfl, hb6⟩
    have B6 := B5.trans (hb6.mono B5.size)
    have K6 := K5.below hb6 K5.lt
    go_wp2_with fail
    refine (L1.out _ K6).mono ?_
    rintro e w7 ⟨rfl, hb7⟩
    go_wp2
    go_ret
    exact ⟨rfl, B6.trans (hb7.mono B6.size)⟩
end Go.Proofs.YtdkkleikabipgaaDoor
