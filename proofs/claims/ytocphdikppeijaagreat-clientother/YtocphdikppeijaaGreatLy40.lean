/- Proofs as bytes: the document's answer. -/
import Derived.Test.YtocphdikppeijaaGreatLy19
import Derived.Test.YtocphdikppeijaaGreatLy39
namespace Go.Proofs.YtocphdikppeijaaGreat
open Go.RowKit
set_option linter.unusedVariables false
set_option linter.unusedSimpArgs false

theorem cat2P (a b : List UInt8) : (⟨a.toArray⟩ : ByteArray) ++ (⟨b.toArray⟩ : ByteArray) = ⟨(a ++ b).toArray⟩ := by
  apply ByteArray.ext; simp [ByteArray.data_append]

set_option maxRecDepth 100000 in
set_option maxHeartbeats 1000000 in
theorem proof_ref (x : Pf) (lv : Value) (w : World) (hs : Pts w lv x.paths) :
    Calls Tryz.prog 15 #[x.val lv] w fun e w' => e = .returned (.tuple (proofR x)) ∧ Below w.heap.size w w' := by
  have hnot : ∀ (x : Bool) (w : World), (Op.unary .not (.bool x)).run Tryz.prog w = .ok (.bool (!x)) w := fun _ _ => rfl
  have hip := fun wx (hb : Below w.heap.size w wx) => proofFits_ref x lv wx (hs.below hb)
  have HI : Hid _ := hip
  obtain ⟨p, c, rfl⟩ := hs.len
  have HS : Hid _ := hs
  clear hs hip
  obtain ⟨cnt, l⟩ := x
  simp only at HS
  unfold Pf.val at HI ⊢
  simp only at HI ⊢
  cases hok : pfOk ⟨cnt, l⟩ with
  | false =>
    have hfin : Hid (proofR ⟨cnt, l⟩ = #[.string ⟨#[]⟩, .int .i64 14]) := by show _ = _; unfold proofR; rw [hok]; rfl
    rw [hok] at HI
    go_enter Tryz.func15, Tryz.ntmps15
    go_wp2_with fail
    refine (HI.out _ (by go_grown)).mono ?_
    rintro e w1 ⟨rfl, b1⟩
    go_wp2
    go_ret2
    exact ⟨by rw [hfin.out]; rfl, (show Below w.heap.size w _ by go_grown).trans (b1.mono (by simp))⟩
  | true =>
    have hfin : Hid (proofR ⟨cnt, l⟩ = #[.string ⟨(pfB ⟨cnt, l⟩).toArray⟩, .int .i64 0]) := by show _ = _; unfold proofR; rw [hok]; rfl
    obtain ⟨⟨f0, f1⟩, f2, f3⟩ := pfOk_parts hok
    rw [hok] at HI
    simp only at f0 f1 f2 f3
    obtain ⟨n, rfl⟩ := Int.eq_ofNat_of_zero_le f0
    have HF : Hid _ := f3
    have e1 := enc_le n
    have e2 := enc_le l.length
    have X0 := blk_new w w.heap.size #[.int .i64 (n : Int), .slice p l.length c] 45 rfl
    have HZ : Hid (pfB ⟨(n : Int), l⟩ = (enc n ++ enc l.length) ++ l.flatMap ptB) := by show _ = _; unfold pfB; simp
    have HN : Hid (∀ wx, Calls Tryz.prog 44 #[.int .i64 n] wx fun e w' => e = .returned (.string ⟨(enc n).toArray⟩) ∧ Below wx.heap.size wx w') := fun wx => number_ref n wx (by omega)
    have HM : Hid (∀ wx, Calls Tryz.prog 44 #[.int .i64 l.length] wx fun e w' => e = .returned (.string ⟨(enc l.length).toArray⟩) ∧ Below wx.heap.size wx w') := fun wx => number_ref l.length wx (by omega)
    clear f3 hok
    go_enter Tryz.func15, Tryz.ntmps15
    go_wp2_with fail
    refine (HI.out _ (by go_grown)).mono ?_
    rintro e w1 ⟨rfl, b1⟩
    have X1 := X0.below b1
    have B1 : Below w.heap.size w w1 := (show Below w.heap.size w _ by go_grown).trans (b1.mono (by simp))
    have c0 := fun y : BW w1 => y.cell (X1.cell (o := 0) rfl)
    have c1 := fun y : BW w1 => y.cell (X1.cell (o := 1) rfl)
    have hcat : ¬ 9223372036854775807 < (enc n).length + (enc l.length).length := by omega
    clear X0
    go_wp2
    have hne1 := bw_some w1
    refine wp_region_below (by kernel_rfl) (by kernel_rfl) ?_
    repeat (quiet_step (first
      | (go_at_call_of 44 (Value.int .i64 (n : Int)); exact BW.call _ (HN.out _))
      | (go_at_call 44; exact BW.call _ (HM.out _))))
    refine wpQuiet_nil ?_
    rintro _ ⟨⟨w2, b2⟩, rfl⟩
    simp only [cat2P]
    have B2 := B1.trans (b2.mono B1.size)
    have X2 := X1.below b2
    have hZ0 : (enc n ++ enc l.length).length ≤ 20 := by rw [List.length_append]; omega
    clear c0 c1 X1 hcat
    go_wp2
    go_loopw [4, 5] (fun sv i wr => ∃ (j : Nat) (Z : List UInt8), j ≤ l.length ∧ sv = .string ⟨Z.toArray⟩ ∧ i = .int .i64 j ∧ Hid (Z = (enc n ++ enc l.length) ++ (l.take j).flatMap ptB) ∧ Z.length ≤ 20 + 6000 * j ∧ Below w.heap.size w wr ∧ Blk wr w.heap.size #[.int .i64 (n : Int), .slice p l.length c] 45) (fun _ i _ => l.length - (intOf i).toNat)
    case atStart => exact ⟨0, _, Nat.zero_le _, rfl, rfl, by show _ = _; simp, by omega, B2, X2⟩
    case round =>
      obtain ⟨j, Z, hj, rfl, rfl, hZ, hZl, hb, X3⟩ := hrel
      have hz := hb.size
      clear hZ0 B2 X2 b2 b1 B1
      have q1 := X3.cell (o := 1) rfl
      by_cases hlt : j < l.length
      · have hd : decide ((j : Int) < l.length) = true := by simp only [decide_eq_true_eq]; omega
        rcases HS.out with ⟨_, hn⟩ | ⟨b, off, cap, hv, hc⟩
        · rw [hn] at hlt; simp at hlt
        · simp only [Value.slice.injEq] at hv
          obtain ⟨rfl, _, rfl⟩ := hv
          obtain ⟨sv, c1, c2, c3, c4, hS, _⟩ := hc j hlt
          have hbl := World.block_lt_of_cell? w _ c1
          have g1 := (hb.cell (p := ⟨b, off + j * 4, none⟩) hbl).trans c1
          have g2 := (hb.cell (p := ⟨b, off + j * 4 + 1, none⟩) hbl).trans c2
          have g3 := (hb.cell (p := ⟨b, off + j * 4 + 2, none⟩) hbl).trans c3
          have g4 := (hb.cell (p := ⟨b, off + j * 4 + 3, none⟩) hbl).trans c4
          have hpk := HF.out l[j] (List.getElem_mem hlt)
          have HL : Hid ((enc n ++ enc l.length) ++ (l.take (j + 1)).flatMap ptB = Z ++ ptB l[j]) := by show _ = _; rw [take_flat ptB l j hlt, ← List.append_assoc, ← hZ.out]
          clear c1 c2 c3 c4 hc hZ
          generalize l[j] = t at g1 g2 g3 g4 hS hpk HL
          have hB1 := hb.alloc hz (.cells #[.int .i64 t.idx, .string t.key, .string t.dat, sv] 111)
          have X4 := X3.alloc (.cells #[.int .i64 t.idx, .string t.key, .string t.dat, sv] 111)
          have T4 := blk_new wr wr.heap.size #[.int .i64 t.idx, .string t.key, .string t.dat, sv] 111 rfl
          obtain ⟨ps, cs, rfl⟩ := hS.len
          have HSS : Hid _ := hS
          have hpl := ptB_len hpk
          obtain ⟨⟨k0, k1⟩, k2, k3, k4, k5⟩ := ptOk_parts hpk
          have HK5 : Hid _ := k5
          obtain ⟨ti, tk, td, ts⟩ := t
          simp only at g1 g2 g3 g4 hB1 X4 T4 HSS k0 k1 k2 k3 k4 HK5
          obtain ⟨m, rfl⟩ := Int.eq_ofNat_of_zero_le k0
          have a1 := enc_le m
          have a2 := txtB_len tk
          have a3 := txtB_len td
          have a4 := enc_le ts.length
          have HN1 : Hid (∀ wx, Calls Tryz.prog 44 #[.int .i64 m] wx fun e w' => e = .returned (.string ⟨(enc m).toArray⟩) ∧ Below wx.heap.size wx w') := fun wx => number_ref m wx (by omega)
          have HN2 : Hid (∀ wx, Calls Tryz.prog 44 #[.int .i64 ts.length] wx fun e w' => e = .returned (.string ⟨(enc ts.length).toArray⟩) ∧ Below wx.heap.size wx w') := fun wx => number_ref ts.length wx (by omega)
          have HL1 : Hid (∀ wx, Calls Tryz.prog 45 #[.string tk] wx fun e w' => e = .returned (.string ⟨(txtB tk).toArray⟩) ∧ Below wx.heap.size wx w') := fun wx => laid_txt tk wx (by omega)
          have HL2 : Hid (∀ wx, Calls Tryz.prog 45 #[.string td] wx fun e w' => e = .returned (.string ⟨(txtB td).toArray⟩) ∧ Below wx.heap.size wx w') := fun wx => laid_txt td wx (by omega)
          have HPT : Hid (ptB ⟨(m : Int), tk, td, ts⟩ = (((enc m ++ txtB tk) ++ txtB td) ++ enc ts.length) ++ ts.flatMap txtB) := by show _ = _; simp [ptB]
          obtain ⟨W, hW⟩ : ∃ W, (wr.alloc (.cells #[.int .i64 (m : Int), .string tk, .string td, .slice ps ts.length cs] 111)) = W := ⟨_, rfl⟩
          rw [hW] at hB1 X4 T4
          have y0 := fun y : BW W => y.cell (T4.cell (o := 0) rfl)
          have y1 := fun y : BW W => y.cell (T4.cell (o := 1) rfl)
          have y2 := fun y : BW W => y.cell (T4.cell (o := 2) rfl)
          have y3 := fun y : BW W => y.cell (T4.cell (o := 3) rfl)
          clear hS hpk k5
          obtain ⟨E1, hE1⟩ : ∃ E, E = enc m := ⟨_, rfl⟩
          obtain ⟨E2, hE2⟩ : ∃ E, E = txtB tk := ⟨_, rfl⟩
          obtain ⟨E3, hE3⟩ : ∃ E, E = txtB td := ⟨_, rfl⟩
          obtain ⟨E4, hE4⟩ : ∃ E, E = enc ts.length := ⟨_, rfl⟩
          rw [← hE1] at a1 HN1 HPT
          rw [← hE2] at a2 HL1 HPT
          rw [← hE3] at a3 HL2 HPT
          rw [← hE4] at a4 HN2 HPT
          clear hE1 hE2 hE3 hE4
          have h1 : ¬ 9223372036854775807 < Z.length + E1.length := by omega
          have h2 : ¬ 9223372036854775807 < Z.length + E1.length + E2.length := by omega
          have h3 : ¬ 9223372036854775807 < Z.length + E1.length + E2.length + E3.length := by omega
          have h4 : ¬ 9223372036854775807 < Z.length + E1.length + E2.length + E3.length + E4.length := by omega
          go_wp2
          have hne2 := bw_some W
          refine wp_region_below (by kernel_rfl) (by kernel_rfl) ?_
          repeat (quiet_step (first
            | (go_at_call_of 44 (Value.int .i64 (m : Int)); exact BW.call _ (HN1.out _))
            | (go_at_call_of 44 (Value.int .i64 (ts.length : Int)); exact BW.call _ (HN2.out _))
            | (go_at_call_of 45 (Value.string tk); exact BW.call _ (HL1.out _))
            | (go_at_call_of 45 (Value.string td); exact BW.call _ (HL2.out _))))
          refine wpQuiet_nil ?_
          rintro _ ⟨⟨w5, b5⟩, rfl⟩
          simp only [cat2P]
          have B5 := hB1.trans (b5.mono hB1.size)
          have X5 := X4.below b5
          have T5 := T4.below b5
          have HPT2 : Hid (Z ++ ptB ⟨(m : Int), tk, td, ts⟩ = (Z ++ E1 ++ E2 ++ E3 ++ E4) ++ ts.flatMap txtB) := by show _ = _; rw [HPT.out]; simp
          have hYl : (Z ++ E1 ++ E2 ++ E3 ++ E4).length ≤ 12020 + 5000 := by simp only [List.length_append]; omega
          clear y0 y1 y2 y3 h1 h2 h3 h4 X4 T4 HPT
          generalize Z ++ E1 ++ E2 ++ E3 ++ E4 = Y0 at *
          generalize Z ++ E1 ++ E2 ++ E3 = Y3 at *
          generalize Z ++ E1 ++ E2 = Y2 at *
          generalize Z ++ E1 = Y1 at *
          go_wp2
          go_loopw [4, 7] (fun sv i wi => ∃ (r : Nat) (Y : List UInt8), r ≤ ts.length ∧ sv = .string ⟨Y.toArray⟩ ∧ i = .int .i64 r ∧ Hid (Y = Y0 ++ (ts.take r).flatMap txtB) ∧ Below w.heap.size w wi ∧ Blk wi w.heap.size #[.int .i64 (n : Int), .slice (some ⟨b, off, none⟩) l.length c] 45 ∧ Blk wi wr.heap.size #[.int .i64 (m : Int), .string tk, .string td, .slice ps ts.length cs] 111) (fun _ i _ => ts.length - (intOf i).toNat)
          case atStart => exact ⟨0, Y0, Nat.zero_le _, rfl, rfl, by show _ = _; simp, B5, X5, T5⟩
          case round =>
            obtain ⟨r, Y, hr, rfl, rfl, hY, hbi, X6, T6⟩ := hrel
            have hzi := hbi.size
            clear B5 X5 T5
            have t3 := T6.cell (o := 3) rfl
            have hsl := sides_len HK5.out k4 r
            have hYL : Y.length ≤ 20000 := by rw [hY.out, List.length_append]; omega
            by_cases hrl : r < ts.length
            · have hdr : decide ((r : Int) < ts.length) = true := by simp only [decide_eq_true_eq]; omega
              rcases HSS.out with ⟨_, hn⟩ | ⟨b', off', cap', hv', hc'⟩
              · rw [hn] at hrl; simp at hrl
              · simp only [Value.slice.injEq] at hv'
                obtain ⟨rfl, _, rfl⟩ := hv'
                obtain ⟨u1, zz⟩ := hc' r hrl
                have hbl' := World.block_lt_of_cell? w _ u1
                have v1 := (hbi.cell (p := ⟨b', off' + r, none⟩) hbl').trans u1
                have hts := HK5.out ts[r] (List.getElem_mem hrl)
                have HLY : Hid (Y ++ txtB ts[r] = Y0 ++ (ts.take (r + 1)).flatMap txtB) := by show _ = _; rw [take_flat txtB ts r hrl, ← List.append_assoc, ← hY.out]
                clear u1 hc' hY hsl
                generalize ts[r] = g at v1 hts HLY zz
                have tl := txtB_len g
                have hlt2 : Hid (∀ wx, Calls Tryz.prog 45 #[.string g] wx fun e w' => e = .returned (.string ⟨(txtB g).toArray⟩) ∧ Below wx.heap.size wx w') := fun wx => laid_txt g wx (by omega)
                obtain ⟨G, hG⟩ : ∃ G, G = txtB g := ⟨_, rfl⟩
                rw [← hG] at tl hlt2 HLY
                clear hG
                have hcat : ¬ 9223372036854775807 < Y.length + G.length := by omega
                go_wp2_with fail
                refine (hlt2.out _).mono ?_
                rintro e w7 ⟨rfl, b7⟩
                have B7 := hbi.trans (b7.mono hzi)
                have X7 := X6.below b7
                have T7 := T6.below b7
                go_wp2
                go_roundw
                case rel => exact ⟨r + 1, Y ++ G, by omega, by rw [← cat2P], by go_num, HLY, B7, X7, T7⟩
                case measure => simp [intOf]; omega
            · have hdr : decide ((r : Int) < ts.length) = false := by simp only [decide_eq_false_iff_not]; omega
              have htk : ts.take r = ts := List.take_of_length_le (by omega)
              have HYF : Hid (Y = (enc n ++ enc l.length) ++ (l.take (j + 1)).flatMap ptB) := by show _ = _; rw [HL.out, hY.out, htk, HPT2.out]
              have hYB : Y.length ≤ 20 + 6000 * (j + 1) := by
                rw [HYF.out, HL.out, List.length_append]; omega
              clear htk hY
              go_wp2
              go_roundw
              case rel => exact ⟨j + 1, Y, by omega, rfl, by go_num, HYF, hYB, hbi, X6⟩
              case measure => simp [intOf]; omega
      · have hd : decide ((j : Int) < l.length) = false := by simp only [decide_eq_false_iff_not]; omega
        have htk : l.take j = l := List.take_of_length_le (by omega)
        have hfin2 : Hid (pfB ⟨(n : Int), l⟩ = Z) := by show _ = _; rw [HZ.out, hZ.out, htk]
        clear htk hZ
        go_wp2
        exact bodyPost_ret (v := .tuple #[.string ⟨Z.toArray⟩, .int .i64 0]) (by simp [results, Tryz.results15, go_sem]) rfl ⟨by rw [hfin.out, hfin2.out], hb⟩
end Go.Proofs.YtocphdikppeijaaGreat
