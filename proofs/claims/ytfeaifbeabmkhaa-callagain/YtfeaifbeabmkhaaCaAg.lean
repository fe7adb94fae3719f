/- Behind a clearing another one trades nothing: the walk. -/
import Derived.Test.YtfeaifbeabmkhaaCaAa
import Derived.Test.YtfeaifbeabmkhaaCaBy
import Derived.Test.YtfeaifbeabmkhaaCaV
namespace Go.Proofs.Ytfeaifbeabmkhaa
open Go.Shelf Go.RowKit Go.Lib Go.Sort
set_option linter.unusedSimpArgs false
set_option linter.unusedVariables false

set_option maxHeartbeats 8000000 in
set_option maxRecDepth 100000 in
theorem again_calls (sv : Value) (l : List Ac) (w : World) (hl : Acs w sv l) (hn : l.length * 56 ≤ 140737488351232) :
    Calls Try.prog 3 #[sv] w fun e w' => e = .returned (.bool true) ∧ Below w.heap.size w w' := by
  have HBG : Hid _ := begun_calls sv l w hl hn
  have HA : Hid _ := awake_calls
  obtain ⟨B, hBe⟩ : ∃ B, runs l 100 = B := ⟨_, rfl⟩
  rw [hBe] at HBG
  obtain ⟨ad, cap, rfl, hc⟩ := Elems.any hl
  clear hc hl hBe
  go_enter Try.func3, Try.ntmps3
  go_wp2_with fail
  refine Calls.mono HBG.out ?_
  rintro e w1 ⟨rfl, v1, K1, b1⟩
  have HI : Hid _ := K1.inv
  have hz1 := b1.size
  have HC2 : Hid _ := clear_calls w1 K1 (by omega)
  have HK1 : Hid _ := K1
  clear K1
  go_wp2_with fail
  refine Calls.mono HC2.out ?_
  rintro e w2 ⟨vF, v2, rfl, own2, S2⟩
  obtain ⟨fc, fcap, rfl⟩ := own_form own2
  have K2 := S2.bk
  have B2 := S2.below HK1.out b1 (by omega)
  have hz2 := B2.size
  have HY3 : Hid _ := bytes_calls w2 K2
  have HK2 : Hid _ := K2
  clear own2 S2 HC2 HBG K2
  go_wp2_with fail
  refine Calls.mono HY3.out ?_
  rintro e w3 ⟨rfl, b3⟩
  have K3 := Bk.below HK2.out b3
  have B3 : Below w.heap.size w w3 := B2.trans (b3.mono hz2)
  have hz3 := B3.size
  have hc4 := clear_calls w3 K3 (by omega)
  rw [clr_crs HI.out, clr_fl HI.out, clr_clr HI.out] at hc4
  have HC4 : Hid _ := hc4
  have HK3 : Hid _ := K3
  clear hc4 K3
  go_wp2_with fail
  refine Calls.mono HC4.out ?_
  rintro e w4 ⟨vG, v4, rfl, own4, S4⟩
  obtain ⟨gc, gcap, rfl⟩ := own_form own4
  have K4 := S4.bk
  have B4 := S4.below HK3.out B3 (by omega)
  have hz4 := B4.size
  have HY5 : Hid _ := bytes_calls w4 K4
  clear own4 S4 HC4 K4
  have hbb : ((boB B.clr).toList == (boB B.clr).toList) = true := by simp
  obtain ⟨X, hX⟩ : ∃ X, boB B.clr = X := ⟨_, rfl⟩
  rw [hX] at HY5 hbb
  simp only [hX]
  clear hX
  go_wp2_with fail
  refine Calls.mono HY5.out ?_
  rintro e w5 ⟨rfl, b5⟩
  have B5 : Below w.heap.size w w5 := B4.trans (b5.mono hz4)
  go_wp2_with fail
  refine (HA.out _).mono ?_
  rintro e w6 ⟨rfl, b6⟩
  go_wp2
  go_ret
  exact ⟨rfl, B5.trans (b6.mono B5.size)⟩
end Go.Proofs.Ytfeaifbeabmkhaa
