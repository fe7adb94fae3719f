/- The document's bytes of a body. -/
import Derived.Test.YtbfipafhmbgnnaaOne
import Derived.Test.YtbfipafhmbgnnaaRefX
namespace Go.Proofs.Ytbfipafhmbgnnaa
open Go.RowKit
set_option linter.unusedVariables false
set_option linter.unusedSimpArgs false

set_option maxRecDepth 100000 in
set_option maxHeartbeats 2000000 in
theorem bytes_ref (b : Bd) (lv : Value) (w : World) (h1 : b.digest.size ≤ maxLen) (h2 : b.text.size ≤ maxLen) (h3 : b.list.length < 9223372036854775807) (hl : Sgs w lv b.list) :
    Calls Try.prog 7 #[b.val lv] w fun e w' => e = .returned (.tuple (bytesR b)) ∧ Below w.heap.size w w' := by
  have hR := fun wx (hb : Below w.heap.size w wx) => rightRef_calls b lv wx h1 h2 h3 (hl.below hb)
  have HR : Hid _ := hR
  clear hR
  obtain ⟨p, c, rfl⟩ := hl.len
  have HL : Hid _ := hl
  have hnew := bdAt_new w b (.slice p b.list.length c) 24
  clear hl
  by_cases hok : right b = 0
  · obtain ⟨hk, hv, hsq, hc, hst, hdg, htx, hll, hal⟩ := right_ok hok
    have hfin : Hid (bytesR b = if 1048576 < (bdB b).length then #[.string ⟨#[]⟩, .int .i64 4] else #[.string ⟨(bdB b).toArray⟩, .int .i64 0]) := by show _ = _; unfold bytesR; rw [if_pos hok]
    rw [hok] at HR
    clear hok
    obtain ⟨bk, bv, bs, bc, bst, bd, bt, bl⟩ := b
    simp only at hk hv hsq hc hst hdg htx hll hal h1 h2 h3 HL hnew
    obtain ⟨n0, rfl⟩ := Int.eq_ofNat_of_zero_le (show 0 ≤ bk by omega)
    obtain ⟨n1, rfl⟩ := Int.eq_ofNat_of_zero_le hv.1
    obtain ⟨n2, rfl⟩ := Int.eq_ofNat_of_zero_le hsq.1
    obtain ⟨n3, rfl⟩ := Int.eq_ofNat_of_zero_le hc.1
    obtain ⟨n4, rfl⟩ := Int.eq_ofNat_of_zero_le hst.1
    have e0 := enc_le n0
    have e1 := enc_le n1
    have e2 := enc_le n2
    have e3 := enc_le n3
    have e4 := enc_le n4
    have e7 := enc_le bl.length
    have t5 := txtB_len bd
    have t6 := txtB_len bt
    have HALL : Hid (bl.all sgOk = true) := hal
    have HZB : Hid (bdB ⟨(n0 : Int), n1, n2, n3, n4, bd, bt, bl⟩ = enc n0 ++ enc n1 ++ enc n2 ++ enc n3 ++ enc n4 ++ txtB bd ++ txtB bt ++ enc bl.length ++ sgsB bl) := by show _ = _; simp [bdB]
    have N0 : Hid (∀ wx, Calls Try.prog 18 #[.int .i64 n0] wx fun e w' => e = .returned (.string ⟨(enc n0).toArray⟩) ∧ Below wx.heap.size wx w') := fun wx => number_ref n0 wx (by omega)
    have N1 : Hid (∀ wx, Calls Try.prog 18 #[.int .i64 n1] wx fun e w' => e = .returned (.string ⟨(enc n1).toArray⟩) ∧ Below wx.heap.size wx w') := fun wx => number_ref n1 wx (by omega)
    have N2 : Hid (∀ wx, Calls Try.prog 18 #[.int .i64 n2] wx fun e w' => e = .returned (.string ⟨(enc n2).toArray⟩) ∧ Below wx.heap.size wx w') := fun wx => number_ref n2 wx (by omega)
    have N3 : Hid (∀ wx, Calls Try.prog 18 #[.int .i64 n3] wx fun e w' => e = .returned (.string ⟨(enc n3).toArray⟩) ∧ Below wx.heap.size wx w') := fun wx => number_ref n3 wx (by omega)
    have N4 : Hid (∀ wx, Calls Try.prog 18 #[.int .i64 n4] wx fun e w' => e = .returned (.string ⟨(enc n4).toArray⟩) ∧ Below wx.heap.size wx w') := fun wx => number_ref n4 wx (by omega)
    have N7 : Hid (∀ wx, Calls Try.prog 18 #[.int .i64 bl.length] wx fun e w' => e = .returned (.string ⟨(enc bl.length).toArray⟩) ∧ Below wx.heap.size wx w') := fun wx => number_ref bl.length wx (by omega)
    have T5 : Hid (∀ wx, Calls Try.prog 19 #[.string bd] wx fun e w' => e = .returned (.string ⟨(txtB bd).toArray⟩) ∧ Below wx.heap.size wx w') := fun wx => laid_txt bd wx (by omega)
    have T6 : Hid (∀ wx, Calls Try.prog 19 #[.string bt] wx fun e w' => e = .returned (.string ⟨(txtB bt).toArray⟩) ∧ Below wx.heap.size wx w') := fun wx => laid_txt bt wx (by omega)
    obtain ⟨E0, hE0⟩ : ∃ E, E = enc n0 := ⟨_, rfl⟩
    obtain ⟨E1, hE1⟩ : ∃ E, E = enc n1 := ⟨_, rfl⟩
    obtain ⟨E2, hE2⟩ : ∃ E, E = enc n2 := ⟨_, rfl⟩
    obtain ⟨E3, hE3⟩ : ∃ E, E = enc n3 := ⟨_, rfl⟩
    obtain ⟨E4, hE4⟩ : ∃ E, E = enc n4 := ⟨_, rfl⟩
    obtain ⟨E5, hE5⟩ : ∃ E, E = txtB bd := ⟨_, rfl⟩
    obtain ⟨E6, hE6⟩ : ∃ E, E = txtB bt := ⟨_, rfl⟩
    obtain ⟨E7, hE7⟩ : ∃ E, E = enc bl.length := ⟨_, rfl⟩
    rw [← hE0] at N0 e0
    rw [← hE1] at N1 e1
    rw [← hE2] at N2 e2
    rw [← hE3] at N3 e3
    rw [← hE4] at N4 e4
    rw [← hE5] at T5 t5
    rw [← hE6] at T6 t6
    rw [← hE7] at N7 e7
    have HZB2 : Hid (bdB ⟨(n0 : Int), n1, n2, n3, n4, bd, bt, bl⟩ = E0 ++ E1 ++ E2 ++ E3 ++ E4 ++ E5 ++ E6 ++ E7 ++ sgsB bl) := by show _ = _; rw [HZB.out, hE0, hE1, hE2, hE3, hE4, hE5, hE6, hE7]
    clear hE0 hE1 hE2 hE3 hE4 hE5 hE6 hE7 hal HZB
    have d1 : ¬ 9223372036854775807 < E0.length + E1.length := by omega
    have d2 : ¬ 9223372036854775807 < E0.length + E1.length + E2.length := by omega
    have d3 : ¬ 9223372036854775807 < E0.length + E1.length + E2.length + E3.length := by omega
    have d4 : ¬ 9223372036854775807 < E0.length + E1.length + E2.length + E3.length + E4.length := by omega
    have d5 : ¬ 9223372036854775807 < E0.length + E1.length + E2.length + E3.length + E4.length + E5.length := by omega
    have d6 : ¬ 9223372036854775807 < E0.length + E1.length + E2.length + E3.length + E4.length + E5.length + E6.length := by omega
    have d7 : ¬ 9223372036854775807 < E0.length + E1.length + E2.length + E3.length + E4.length + E5.length + E6.length + E7.length := by omega
    unfold Bd.val at HR ⊢
    simp only at HR ⊢
    go_enter Try.func7, Try.ntmps7
    go_wp2_with fail
    refine (HR.out _ (by go_grown)).mono ?_
    rintro e w1 ⟨rfl, hb1⟩
    have hA1 := hnew.below hb1
    have hB1 : Below w.heap.size w w1 := (show Below w.heap.size w _ by go_grown).trans (hb1.mono (by simp))
    clear hnew
    have y0 := fun y : BW w1 => y.cell hA1.c0
    have y1 := fun y : BW w1 => y.cell hA1.c1
    have y2 := fun y : BW w1 => y.cell hA1.c2
    have y3 := fun y : BW w1 => y.cell hA1.c3
    have y4 := fun y : BW w1 => y.cell hA1.c4
    have y5 := fun y : BW w1 => y.cell hA1.c5
    have y6 := fun y : BW w1 => y.cell hA1.c6
    have y7 := fun y : BW w1 => y.cell hA1.c7
    have hne := bw_some w1
    go_wp2
    refine wp_region_below (by kernel_rfl) (by kernel_rfl) ?_
    repeat (quiet_step (first
      | (go_at_call_of 18 (Value.int .i64 (n0 : Int)); exact BW.call _ (N0.out _))
      | (go_at_call_of 18 (Value.int .i64 (n1 : Int)); exact BW.call _ (N1.out _))
      | (go_at_call_of 18 (Value.int .i64 (n2 : Int)); exact BW.call _ (N2.out _))
      | (go_at_call_of 18 (Value.int .i64 (n3 : Int)); exact BW.call _ (N3.out _))
      | (go_at_call_of 18 (Value.int .i64 (n4 : Int)); exact BW.call _ (N4.out _))
      | (go_at_call_of 18 (Value.int .i64 (bl.length : Int)); exact BW.call _ (N7.out _))
      | (go_at_call_of 19 (Value.string bd); exact BW.call _ (T5.out _))
      | (go_at_call_of 19 (Value.string bt); exact BW.call _ (T6.out _))))
    refine wpQuiet_nil ?_
    rintro _ ⟨⟨w2, b2⟩, rfl⟩
    simp only [cat2]
    have B2 := hB1.trans (b2.mono hB1.size)
    have A2 := hA1.below b2
    have hZl : (E0 ++ E1 ++ E2 ++ E3 ++ E4 ++ E5 ++ E6 ++ E7).length ≤ 3000000 := by simp only [List.length_append]; omega
    clear y0 y1 y2 y3 y4 y5 y6 y7 d1 d2 d3 d4 d5 d6 d7 hA1 hne
    generalize E0 ++ E1 ++ E2 ++ E3 ++ E4 ++ E5 ++ E6 ++ E7 = Z0 at *
    generalize E0 ++ E1 ++ E2 ++ E3 ++ E4 ++ E5 ++ E6 = Z1 at *
    generalize E0 ++ E1 ++ E2 ++ E3 ++ E4 ++ E5 = Z2 at *
    generalize E0 ++ E1 ++ E2 ++ E3 ++ E4 = Z3 at *
    generalize E0 ++ E1 ++ E2 ++ E3 = Z4 at *
    generalize E0 ++ E1 ++ E2 = Z5 at *
    generalize E0 ++ E1 = Z6 at *
    go_wp2
    go_loopw [5, 6] (fun sv i wr => ∃ (k : Nat) (Z : List UInt8), k ≤ bl.length ∧ sv = .string ⟨Z.toArray⟩ ∧ i = .int .i64 k ∧ Hid (Z = Z0 ++ sgsB (bl.take k)) ∧ Z.length ≤ 3000000 ∧ Below w.heap.size w wr ∧ BdAt wr w.heap.size ⟨(n0 : Int), n1, n2, n3, n4, bd, bt, bl⟩ (.slice p bl.length c)) (fun _ i _ => bl.length - (intOf i).toNat)
    case atStart => exact ⟨0, Z0, Nat.zero_le _, rfl, rfl, by show _ = _; simp [sgsB], hZl, B2, A2⟩
    case round =>
      obtain ⟨k, Z, hk, rfl, rfl, hZ, hZl', hb, A⟩ := hrel
      have hz := hb.size
      clear B2 A2 hZl
      have a7 := A.c7
      by_cases hlt : k < bl.length
      · have hd2 : decide ((k : Int) < bl.length) = true := by simp only [decide_eq_true_eq]; omega
        rcases HL.out with ⟨_, hn⟩ | ⟨bb, off, cap, hv', hc'⟩
        · rw [hn] at hlt; simp at hlt
        · simp only [Value.slice.injEq] at hv'
          obtain ⟨rfl, _, rfl⟩ := hv'
          obtain ⟨c1, c2, c3, _⟩ := hc' k hlt
          have hbl := World.block_lt_of_cell? w _ c1
          have g1 := (hb.cell (p := ⟨bb, off + k * 3, none⟩) hbl).trans c1
          have g2 := (hb.cell (p := ⟨bb, off + k * 3 + 1, none⟩) hbl).trans c2
          have g3 := (hb.cell (p := ⟨bb, off + k * 3 + 2, none⟩) hbl).trans c3
          have hmk : sgOk bl[k] = true := List.all_eq_true.1 HALL.out _ (List.getElem_mem hlt)
          have hml := sgB_len bl[k] hmk
          have HT : Hid (Z ++ sgB bl[k] = Z0 ++ sgsB (bl.take (k + 1))) := by show _ = _; rw [sgsB_take bl k hlt, hZ.out, List.append_assoc]
          have HO : Hid (∀ wx, Calls Try.prog 20 #[bl[k].val] wx fun e w' => e = .returned (.string ⟨(sgB bl[k]).toArray⟩) ∧ Below wx.heap.size wx w') := fun wx => one_ref bl[k] wx hmk
          clear c1 c2 c3 hc' hZ hmk
          generalize bl[k] = m at g1 g2 g3 hml HT HO
          unfold Sg.val at HO
          generalize sgB m = Y at *
          have hcat : ¬ 9223372036854775807 < Z.length + Y.length := by omega
          have hZ2 : (Z ++ Y).length ≤ 5000000 := by rw [List.length_append]; omega
          have hsz2 : (Z ++ Y).length = Z.length + Y.length := List.length_append
          by_cases hL : 1048576 < (Z ++ Y).length
          · have hfin2 : Hid (bytesR ⟨(n0 : Int), n1, n2, n3, n4, bd, bt, bl⟩ = #[.string ⟨#[]⟩, .int .i64 4]) := by
              show _ = _
              rw [hfin.out, if_pos]
              have hh : (bdB ⟨(n0 : Int), n1, n2, n3, n4, bd, bt, bl⟩).length = (Z0 ++ sgsB (bl.take (k + 1)) ++ sgsB (bl.drop (k + 1))).length := by
                rw [HZB2.out]
                unfold sgsB
                rw [List.append_assoc, ← List.flatMap_append, List.take_append_drop]
              rw [hh, ← HT.out, List.length_append]; omega
            have hdL : decide ((1048576 : Int) < (Z.length : Int) + (Y.length : Int)) = true := by simp only [decide_eq_true_eq]; omega
            clear hfin
            go_wp2_with fail
            refine (HO.out _).mono ?_
            rintro e w3 ⟨rfl, b3⟩
            have B3 := hb.trans (b3.mono hz)
            go_wp2
            exact bodyPost_ret (v := .tuple #[.string ⟨#[]⟩, .int .i64 4]) (by simp [results, Try.results7, go_sem]) rfl ⟨by rw [hfin2.out], B3⟩
          · have hdL : decide ((1048576 : Int) < (Z.length : Int) + (Y.length : Int)) = false := by simp only [decide_eq_false_iff_not]; omega
            go_wp2_with fail
            refine (HO.out _).mono ?_
            rintro e w3 ⟨rfl, b3⟩
            have B3 := hb.trans (b3.mono hz)
            have A3 := A.below b3
            go_wp2
            exact ⟨⟨k + 1, Z ++ Y, by omega, by rw [← cat2], by go_num, HT, by omega, B3, A3⟩, by simp [intOf]; omega⟩
      · have hd2 : decide ((k : Int) < bl.length) = false := by simp only [decide_eq_false_iff_not]; omega
        have hZb : Hid (bdB ⟨(n0 : Int), n1, n2, n3, n4, bd, bt, bl⟩ = Z) := by show _ = _; rw [HZB2.out, hZ.out, List.take_of_length_le (by omega)]
        clear hZ
        by_cases hL : 1048576 < Z.length
        · have hdL : decide ((1048576 : Int) < (Z.length : Int)) = true := by simp only [decide_eq_true_eq]; omega
          have hfin2 : Hid (bytesR ⟨(n0 : Int), n1, n2, n3, n4, bd, bt, bl⟩ = #[.string ⟨#[]⟩, .int .i64 4]) := by show _ = _; rw [hfin.out, hZb.out, if_pos hL]
          clear hfin
          go_wp2
          exact bodyPost_ret (v := .tuple #[.string ⟨#[]⟩, .int .i64 4]) (by simp [results, Try.results7, go_sem]) rfl ⟨by rw [hfin2.out], hb⟩
        · have hdL : decide ((1048576 : Int) < (Z.length : Int)) = false := by simp only [decide_eq_false_iff_not]; omega
          have hfin2 : Hid (bytesR ⟨(n0 : Int), n1, n2, n3, n4, bd, bt, bl⟩ = #[.string ⟨Z.toArray⟩, .int .i64 0]) := by show _ = _; rw [hfin.out, hZb.out, if_neg hL]
          clear hfin
          go_wp2
          exact bodyPost_ret (v := .tuple #[.string ⟨Z.toArray⟩, .int .i64 0]) (by simp [results, Try.results7, go_sem]) rfl ⟨by rw [hfin2.out], hb⟩
  · have hne : (right b != 0) = true := by simpa using hok
    have hfin : Hid (bytesR b = #[.string ⟨#[]⟩, .int .i64 (right b)]) := by show _ = _; unfold bytesR; rw [if_neg hok]
    unfold Bd.val at HR ⊢
    go_enter Try.func7, Try.ntmps7
    go_wp2_with fail
    refine (HR.out _ (by go_grown)).mono ?_
    rintro e w1 ⟨rfl, hb1⟩
    go_wp2
    go_ret2
    exact ⟨by rw [hfin.out]; rfl, (show Below w.heap.size w _ by go_grown).trans (hb1.mono (by simp))⟩
end Go.Proofs.Ytbfipafhmbgnnaa
