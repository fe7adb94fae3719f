/- Texts that come in a slice; ShaParts' walk. -/
import Derived.Test.YtdkkleikabipgaaDoorShN
import Derived.Test.YtdkkleikabipgaaDoorShX
namespace Go.Proofs.YtdkkleikabipgaaDoor
open Go.RowKit
set_option linter.unusedSimpArgs false
set_option linter.unusedVariables false

/-- A slice of texts, element by element. -/
def Txs (w : World) (a : Option Addr) (n : Nat) (l : List ByteArray) : Prop :=
  ∀ i, i < n → ∃ g o, a = some ⟨g, o, none⟩ ∧ g < w.heap.size ∧ w.cell? ⟨g, o + i, none⟩ = some (.string (l.getD i .empty)) ∧ (l.getD i .empty).size ≤ 140737488351232
theorem HashAt.off {w w' : World} {b c : Nat} {l : List UInt8} (h : HashAt w b l) (ho : Off c w w') (hb : b ≠ c) : HashAt w' b l := by
  obtain ⟨r, h1, h2, X⟩ := h.blk
  exact ⟨r, h1, h2, X.off ho hb⟩
theorem cat_list (a b : ByteArray) : (a ++ b).data.toList = a.data.toList ++ b.data.toList := by simp

set_option maxRecDepth 100000 in
set_option maxHeartbeats 1000000 in
theorem parts_calls (a : Option Addr) (n cap : Nat) (l : List ByteArray) (w : World) (hK : KT w) (hT : Txs w a n l) (hn : n ≤ 140737488351232) :
    Calls Tryd.prog 5 #[.slice a n cap] w fun e w' => e = .returned (.bool true) ∧ Below w.heap.size w w' := by
  have hgl := hK.lt
  have HR : Hid _ := fun (t : ByteArray) (wx : World) (ht : t.size ≤ 4294967296) => refSum_calls t wx ht
  have hsl : ∀ s : ByteArray, s.data.toList.length = s.size := fun s => by rw [Lib.size_eq]
  go_enter Tryd.func5, Tryd.ntmps5
  go_wp2_with fail
  refine (new_calls _).mono ?_
  rintro e w1 ⟨b, rfl, hb, hb1, H1⟩
  have K1 : KT w1 := hK.below hb1 hgl
  have hs0 := sum_calls b [] w1 H1 K1 (by simp)
  have h32 : (ByteArray.mk (sumL []).toArray).size = 32 := rfl
  generalize ByteArray.mk (sumL []).toArray = t0 at hs0 h32
  have HS0 : Hid _ := hs0
  clear hs0
  go_wp2_with fail
  refine Calls.mono HS0.out ?_
  rintro e w2 ⟨rfl, hb2⟩
  go_wp2
  go_loopw [4, 5] (fun v i wr => ∃ (A : ByteArray) (k : Nat), v = .string A ∧ i = .int .i64 (k : Int) ∧ k ≤ 40 ∧ A.size ≤ 4096 ∧ Below w.heap.size w wr ∧ KT wr ∧ HashAt wr b A.data.toList) (fun _ i _ => match i with | .int _ z => (40 - z).toNat | _ => 0)
  case atStart => exact ⟨ByteArray.empty, 0, rfl, rfl, by omega, by decide, hb1.trans (hb2.mono hb1.size), K1.below hb2 K1.lt, H1.below hb2 H1.lt⟩
  case round =>
    obtain ⟨A, k, rfl, rfl, hk, hA, hB, hKr, hH⟩ := hrel
    have hAl := hsl A
    by_cases hc : k < n ∧ k < 40
    · obtain ⟨g, o, rfl, hg, hcl, hx⟩ := hT k hc.1
      have hcr : wr.cell? ⟨g, o + k, none⟩ = some (.string (l.getD k .empty)) := (hB.cell (p := ⟨g, o + k, none⟩) hg).trans hcl
      generalize l.getD k .empty = x at *
      clear hcl
      have hc1 := hc.1
      have hc2 := hc.2
      by_cases hs : A.size + x.size ≤ 4096
      · have hw := write_calls b A.data.toList x wr hH hKr (by omega) (by omega) (by omega)
        have HW : Hid _ := hw
        clear hw
        go_wp2_with fail
        refine Calls.mono HW.out ?_
        rintro e w3 ⟨⟨v, rfl⟩, ho3, H3⟩
        have K3 := hKr.off ho3 (by omega)
        have hwr := hB.size
        have B3 := ho3.below hb hB hwr
        rw [← cat_list] at H3
        have hz : (A ++ x).size ≤ 4096 := by rw [ByteArray.size_append]; omega
        have hsm := fun wx (hx : HashAt wx b (A ++ x).data.toList) (hk : KT wx) => sum_calls b _ wx hx hk (by rw [hsl]; omega)
        have hrf := fun wx => HR.out (A ++ x) wx (by omega)
        generalize ByteArray.mk (sumL (A ++ x).data.toList).toArray = r at hsm hrf
        have HS : Hid _ := hsm
        have HF : Hid _ := hrf
        clear hsm hrf
        go_wp2_with fail
        refine (HS.out _ H3 K3).mono ?_
        rintro e w4 ⟨rfl, hb4⟩
        have B4 := B3.trans (hb4.mono B3.size)
        have K4 := K3.below hb4 K3.lt
        have H4 := H3.below hb4 H3.lt
        go_wp2_with fail
        refine (HF.out _).mono ?_
        rintro e w5 ⟨rfl, hb5⟩
        have B5 := B4.trans (hb5.mono B4.size)
        have K5 := K4.below hb5 K4.lt
        have H5 := H4.below hb5 H4.lt
        go_wp2_with fail
        refine (HS.out _ H5 K5).mono ?_
        rintro e w6 ⟨rfl, hb6⟩
        have B6 := B5.trans (hb6.mono B5.size)
        have K6 := K5.below hb6 K5.lt
        have H6 := H5.below hb6 H5.lt
        go_wp2
        refine ⟨⟨A ++ x, k + 1, rfl, ?_, by omega, hz, B6, K6, H6⟩, ?_⟩
        · norm_cast
        · show (40 - ((k : Int) + 1)).toNat < (40 - (k : Int)).toNat
          omega
      · have hys : (x.extract 0 (4096 - A.size)).size = 4096 - A.size := by rw [ByteArray.size_extract]; omega
        have hgt : (4096 : Int) < (A.size : Int) + (x.size : Int) := by omega
        have hw := write_calls b A.data.toList (x.extract 0 (4096 - A.size)) wr hH hKr (by omega) (by omega) (by omega)
        have HW : Hid _ := hw
        clear hw
        go_wp2_with fail
        generalize x.extract 0 (4096 - A.size) = y at *
        refine Calls.mono HW.out ?_
        rintro e w3 ⟨⟨v, rfl⟩, ho3, H3⟩
        have K3 := hKr.off ho3 (by omega)
        have hwr := hB.size
        have B3 := ho3.below hb hB hwr
        rw [← cat_list] at H3
        have hz : (A ++ y).size ≤ 4096 := by rw [ByteArray.size_append]; omega
        have hsm := fun wx (hx : HashAt wx b (A ++ y).data.toList) (hk : KT wx) => sum_calls b _ wx hx hk (by rw [hsl]; omega)
        have hrf := fun wx => HR.out (A ++ y) wx (by omega)
        generalize ByteArray.mk (sumL (A ++ y).data.toList).toArray = r at hsm hrf
        have HS : Hid _ := hsm
        have HF : Hid _ := hrf
        clear hsm hrf
        go_wp2_with fail
        refine (HS.out _ H3 K3).mono ?_
        rintro e w4 ⟨rfl, hb4⟩
        have B4 := B3.trans (hb4.mono B3.size)
        have K4 := K3.below hb4 K3.lt
        have H4 := H3.below hb4 H3.lt
        go_wp2_with fail
        refine (HF.out _).mono ?_
        rintro e w5 ⟨rfl, hb5⟩
        have B5 := B4.trans (hb5.mono B4.size)
        have K5 := K4.below hb5 K4.lt
        have H5 := H4.below hb5 H4.lt
        go_wp2_with fail
        refine (HS.out _ H5 K5).mono ?_
        rintro e w6 ⟨rfl, hb6⟩
        have B6 := B5.trans (hb6.mono B5.size)
        have K6 := K5.below hb6 K5.lt
        have H6 := H5.below hb6 H5.lt
        go_wp2
        refine ⟨⟨A ++ y, k + 1, rfl, ?_, by omega, hz, B6, K6, H6⟩, ?_⟩
        · norm_cast
        · show (40 - ((k : Int) + 1)).toNat < (40 - (k : Int)).toNat
          omega
    · have hsm := sum_calls b _ wr hH hKr (by omega)
      have hrf := fun wx (hk : KT wx) => shaSum_calls A wx hk (by omega)
      generalize ByteArray.mk (sumL A.data.toList).toArray = r at hsm hrf
      have HS : Hid _ := hsm
      have HF : Hid _ := hrf
      clear hsm hrf
      by_cases hc1 : k < n
      · have hc2 : ¬ (k < 40) := fun h => hc ⟨hc1, h⟩
        go_wp2_with fail
        refine Calls.mono HS.out ?_
        rintro e w3 ⟨rfl, hb3⟩
        have B3 := hB.trans (hb3.mono hB.size)
        have K3 := hKr.below hb3 hKr.lt
        go_wp2_with fail
        refine (HF.out _ K3).mono ?_
        rintro e w4 ⟨rfl, hb4⟩
        have B4 := B3.trans (hb4.mono B3.size)
        have K4 := K3.below hb4 K3.lt
        go_wp2_with fail
        refine (awake_calls _ K4).mono ?_
        rintro e w5 ⟨rfl, hb5⟩
        go_wp2
        go_ret
        exact ⟨rfl, B4.trans (hb5.mono B4.size)⟩
      · go_wp2_with fail
        refine Calls.mono HS.out ?_
        rintro e w3 ⟨rfl, hb3⟩
        have B3 := hB.trans (hb3.mono hB.size)
        have K3 := hKr.below hb3 hKr.lt
        go_wp2_with fail
        refine (HF.out _ K3).mono ?_
        rintro e w4 ⟨rfl, hb4⟩
        have B4 := B3.trans (hb4.mono B3.size)
        have K4 := K3.below hb4 K3.lt
        go_wp2_with fail
        refine (awake_calls _ K4).mono ?_
        rintro e w5 ⟨rfl, hb5⟩
        go_wp2
        go_ret
        exact ⟨rfl, B4.trans (hb5.mono B4.size)⟩
end Go.Proofs.YtdkkleikabipgaaDoor
