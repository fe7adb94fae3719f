/- ShaTwo's walk: two hashes that take their bytes in turn. -/
import Derived.Test.YtdkkleikabipgaaDoorShT
namespace Go.Proofs.YtdkkleikabipgaaDoor
open Go.RowKit
set_option linter.unusedSimpArgs false
set_option linter.unusedVariables false

/-- What stands behind some rounds: the two texts and the two hashes. -/
structure TwoAt (w : World) (p q : Nat) (A B : ByteArray) (wr : World) : Prop where
  sa : A.size ≤ 2048
  sb : B.size ≤ 2048
  below : Below w.heap.size w wr
  kt : KT wr
  ha : HashAt wr p A.data.toList
  hb : HashAt wr q B.data.toList
theorem TwoAt.swap {w wr : World} {p q : Nat} {A B : ByteArray} (h : TwoAt w p q A B wr) : TwoAt w q p B A wr := ⟨h.sb, h.sa, h.below, h.kt, h.hb, h.ha⟩
theorem TwoAt.write {w wr : World} {p q : Nat} {A B x : ByteArray} (h : TwoAt w p q A B wr) (hp : w.heap.size ≤ p) (hg : 0 < w.heap.size) (hpq : q ≠ p) (hx : A.size + x.size ≤ 2048) :
    Calls Tryd.prog 16 #[.pointer (some ⟨p, 0, none⟩), .string x] wr fun e w' => (∃ v, e = .returned v) ∧ TwoAt w p q (A ++ x) B w' := by
  have hsl : A.data.toList.length = A.size := by rw [Lib.size_eq]
  have hsa := h.sa
  refine (write_calls p _ x wr h.ha h.kt (by omega) (by omega) (by omega)).mono ?_
  rintro e w' ⟨hv, ho, H⟩
  refine ⟨hv, by rw [ByteArray.size_append]; omega, h.sb, ho.below hp h.below h.below.size, h.kt.off ho (by omega), by rw [cat_list]; exact H, h.hb.off ho hpq⟩

set_option maxRecDepth 100000 in
set_option maxHeartbeats 2000000 in
theorem two_calls (a b : Option Addr) (n m cap cbp : Nat) (l k : List ByteArray) (w : World) (hK : KT w) (hT : Txs w a n l) (hU : Txs w b m k) (hn : n ≤ 140737488351232) (hm : m ≤ 140737488351232) :
    Calls Tryd.prog 7 #[.slice a n cap, .slice b m cbp] w fun e w' => e = .returned (.bool true) ∧ Below w.heap.size w w' := by
  have hgl := hK.lt
  have hsl : ∀ s : ByteArray, s.data.toList.length = s.size := fun s => by rw [Lib.size_eq]
  go_enter Tryd.func7, Tryd.ntmps7
  go_wp2_with fail
  refine (new_calls _).mono ?_
  rintro e w1 ⟨p, rfl, hp, hb1, H1⟩
  have K1 : KT w1 := hK.below hb1 hgl
  go_wp2_with fail
  refine (new_calls _).mono ?_
  rintro e w2 ⟨q, rfl, hq, hb2, H2⟩
  have hpl := H1.lt
  have hz1 := hb1.size
  have I0 : TwoAt w p q .empty .empty w2 := ⟨by decide, by decide, hb1.trans (hb2.mono hz1), K1.below hb2 K1.lt, H1.below hb2 H1.lt, H2⟩
  have hqw : w.heap.size ≤ q := by omega
  have hpq : p ≠ q := by omega
  clear H1 H2 K1
  go_wp2
  go_loopw [7, 8, 9] (fun u v i wr => ∃ (A B : ByteArray) (j : Nat), u = .string A ∧ v = .string B ∧ i = .int .i64 (j : Int) ∧ j ≤ 30 ∧ TwoAt w p q A B wr) (fun _ _ i _ => match i with | .int _ z => (30 - z).toNat | _ => 0)
  case atStart => exact ⟨_, _, 0, rfl, rfl, rfl, by omega, I0⟩
  case round =>
    obtain ⟨A, B, j, rfl, rfl, rfl, hj, I⟩ := hrel
    have hA := I.sa
    have hB := I.sb
    by_cases hc : j < 30
    · have hLa : j < n → ∃ g o x, a = some ⟨g, o, none⟩ ∧ x.size ≤ 140737488351232 ∧ ∀ wx, Below w.heap.size w wx → wx.cell? ⟨g, o + j, none⟩ = some (.string x) := fun h => by
        obtain ⟨g, o, h1, h2, h3, h4⟩ := hT j h
        exact ⟨g, o, _, h1, h4, fun wx hx => (hx.cell (p := ⟨g, o + j, none⟩) h2).trans h3⟩
      have hLb : j < m → ∃ g o x, b = some ⟨g, o, none⟩ ∧ x.size ≤ 140737488351232 ∧ ∀ wx, Below w.heap.size w wx → wx.cell? ⟨g, o + j, none⟩ = some (.string x) := fun h => by
        obtain ⟨g, o, h1, h2, h3, h4⟩ := hU j h
        exact ⟨g, o, _, h1, h4, fun wx hx => (hx.cell (p := ⟨g, o + j, none⟩) h2).trans h3⟩
      clear hT hU
      by_cases hn1 : j < n
      · obtain ⟨g, o, x, rfl, hx, hcx⟩ := hLa hn1
        have cx := hcx _ I.below
        by_cases hxs : A.size + x.size ≤ 2048
        · skip
          by_cases hm1 : j < m
          · obtain ⟨g2, o2, y, rfl, hy, hcy⟩ := hLb hm1
            have cy := hcy _ I.below
            by_cases hys : B.size + y.size ≤ 2048
            · skip
              go_wp2_with fail
              refine (I.write hp hgl hpq.symm hxs).mono ?_
              rintro e w3 ⟨⟨v, rfl⟩, I3⟩
              have cx3 := hcx _ I3.below
              have cy3 := hcy _ I3.below
              go_wp2_with fail
              refine (I3.swap.write hqw hgl hpq hys).mono ?_
              rintro e w4 ⟨⟨v2, rfl⟩, I4⟩
              have cy4 := hcy _ I4.below
              go_wp2
              refine ⟨⟨(A ++ x), (B ++ y), j + 1, rfl, rfl, by norm_cast, by omega, I4.swap⟩, ?_⟩
              show (30 - ((j : Int) + 1)).toNat < (30 - (j : Int)).toNat
              omega
            · skip
              go_wp2_with fail
              refine (I.write hp hgl hpq.symm hxs).mono ?_
              rintro e w3 ⟨⟨v, rfl⟩, I3⟩
              have cx3 := hcx _ I3.below
              have cy3 := hcy _ I3.below
              go_wp2
              refine ⟨⟨(A ++ x), B, j + 1, rfl, rfl, by norm_cast, by omega, I3⟩, ?_⟩
              show (30 - ((j : Int) + 1)).toNat < (30 - (j : Int)).toNat
              omega
          · skip
            go_wp2_with fail
            refine (I.write hp hgl hpq.symm hxs).mono ?_
            rintro e w3 ⟨⟨v, rfl⟩, I3⟩
            have cx3 := hcx _ I3.below
            go_wp2
            refine ⟨⟨(A ++ x), B, j + 1, rfl, rfl, by norm_cast, by omega, I3⟩, ?_⟩
            show (30 - ((j : Int) + 1)).toNat < (30 - (j : Int)).toNat
            omega
        · skip
          by_cases hm1 : j < m
          · obtain ⟨g2, o2, y, rfl, hy, hcy⟩ := hLb hm1
            have cy := hcy _ I.below
            by_cases hys : B.size + y.size ≤ 2048
            · skip
              go_wp2_with fail
              refine (I.swap.write hqw hgl hpq hys).mono ?_
              rintro e w4 ⟨⟨v2, rfl⟩, I4⟩
              have cy4 := hcy _ I4.below
              go_wp2
              refine ⟨⟨A, (B ++ y), j + 1, rfl, rfl, by norm_cast, by omega, I4.swap⟩, ?_⟩
              show (30 - ((j : Int) + 1)).toNat < (30 - (j : Int)).toNat
              omega
            · skip
              go_wp2
              refine ⟨⟨A, B, j + 1, rfl, rfl, by norm_cast, by omega, I⟩, ?_⟩
              show (30 - ((j : Int) + 1)).toNat < (30 - (j : Int)).toNat
              omega
          · skip
            go_wp2
            refine ⟨⟨A, B, j + 1, rfl, rfl, by norm_cast, by omega, I⟩, ?_⟩
            show (30 - ((j : Int) + 1)).toNat < (30 - (j : Int)).toNat
            omega
      · skip
        by_cases hm1 : j < m
        · obtain ⟨g2, o2, y, rfl, hy, hcy⟩ := hLb hm1
          have cy := hcy _ I.below
          by_cases hys : B.size + y.size ≤ 2048
          · skip
            go_wp2_with fail
            refine (I.swap.write hqw hgl hpq hys).mono ?_
            rintro e w4 ⟨⟨v2, rfl⟩, I4⟩
            have cy4 := hcy _ I4.below
            go_wp2
            refine ⟨⟨A, (B ++ y), j + 1, rfl, rfl, by norm_cast, by omega, I4.swap⟩, ?_⟩
            show (30 - ((j : Int) + 1)).toNat < (30 - (j : Int)).toNat
            omega
          · skip
            go_wp2
            refine ⟨⟨A, B, j + 1, rfl, rfl, by norm_cast, by omega, I⟩, ?_⟩
            show (30 - ((j : Int) + 1)).toNat < (30 - (j : Int)).toNat
            omega
        · skip
          go_wp2
          refine ⟨⟨A, B, j + 1, rfl, rfl, by norm_cast, by omega, I⟩, ?_⟩
          show (30 - ((j : Int) + 1)).toNat < (30 - (j : Int)).toNat
          omega
    · have K0 := I.kt
      have B0 := I.below
      have hs1 := fun wx (hx : HashAt wx p A.data.toList) (hk : KT wx) => sum_calls p _ wx hx hk (by rw [hsl]; omega)
      have hs2 := fun wx (hx : HashAt wx q B.data.toList) (hk : KT wx) => sum_calls q _ wx hx hk (by rw [hsl]; omega)
      have hr1 := fun wx => refSum_calls A wx (by omega)
      have hr2 := fun wx => refSum_calls B wx (by omega)
      generalize ByteArray.mk (sumL A.data.toList).toArray = r1 at hs1 hr1
      generalize ByteArray.mk (sumL B.data.toList).toArray = r2 at hs2 hr2
      have S1 : Hid _ := hs1
      have S2 : Hid _ := hs2
      have R1 : Hid _ := hr1
      have R2 : Hid _ := hr2
      clear hs1 hs2 hr1 hr2
      go_wp2_with fail
      refine (S1.out _ I.ha K0).mono ?_
      rintro e w3 ⟨rfl, hb3⟩
      have B3 := B0.trans (hb3.mono B0.size)
      have K3 := K0.below hb3 K0.lt
      have H3 := I.hb.below hb3 I.hb.lt
      go_wp2_with fail
      refine (R1.out _).mono ?_
      rintro e w4 ⟨rfl, hb4⟩
      have B4 := B3.trans (hb4.mono B3.size)
      have K4 := K3.below hb4 K3.lt
      have H4 := H3.below hb4 H3.lt
      go_wp2_with fail
      refine (S2.out _ H4 K4).mono ?_
      rintro e w5 ⟨rfl, hb5⟩
      have B5 := B4.trans (hb5.mono B4.size)
      have K5 := K4.below hb5 K4.lt
      go_wp2_with fail
      refine (R2.out _).mono ?_
      rintro e w6 ⟨rfl, hb6⟩
      have B6 := B5.trans (hb6.mono B5.size)
      have K6 := K5.below hb6 K5.lt
      go_wp2_with fail
      refine (awake_calls _ K6).mono ?_
      rintro e w7 ⟨rfl, hb7⟩
      go_wp2
      go_ret
      exact ⟨rfl, B6.trans (hb7.mono B6.size)⟩
end Go.Proofs.YtdkkleikabipgaaDoor
