/- Records as bytes: the document's answer. -/
import Derived.Test.YtdaonkgcdheplaaRcW
import Derived.Test.YtdaonkgcdheplaaRcR
namespace Go.Proofs.Ytdaonkgcdheplaa
open Go.RowKit
set_option linter.unusedVariables false
set_option linter.unusedSimpArgs false

theorem laid_txt (t : ByteArray) (w : World) (ht : t.size ≤ 100000000000) :
    Calls Try.prog 28 #[.string t] w fun e w' => e = .returned (.string ⟨(txtB t).toArray⟩) ∧ Below w.heap.size w w' := laid_ref t w ht

set_option maxRecDepth 100000 in
set_option maxHeartbeats 1000000 in
theorem records_ref (v : Value) (l : List Rc) (w : World) (h : Rcs w v l) (hl : l.length ≤ 9223372036854775807) :
    Calls Try.prog 7 #[v] w fun e w' => e = .returned (.tuple (recsR l)) ∧ Below w.heap.size w w' := by
  obtain ⟨i0, hi, hz0, hz1, hz2⟩ := info_parts infoByte
  have hri := rise_ref v l w h hl
  have HC : Hid _ := h
  obtain ⟨p, c, rfl⟩ := h.len
  clear h
  by_cases hok : riseR l = 0
  · have hfin : Hid (recsR l = if 1048576 < (rcsB l).length then #[.string ⟨#[]⟩, .int .i64 4] else #[.string ⟨(rcsB l).toArray⟩, .int .i64 0]) := by show _ = _; unfold recsR; rw [if_pos hok]
    obtain ⟨hl4, hall⟩ := riseR_ok hok
    have HA : Hid _ := hall
    have el := enc_le l.length
    rw [hok] at hri
    clear hall
    go_enter Try.func7, Try.ntmps7
    go_wp2_with fail
    refine hri.mono ?_
    rintro e w1 ⟨rfl, b1⟩
    have z1 := b1.size
    go_wp2_with fail
    refine (number_ref l.length w1 (by omega)).mono ?_
    rintro e w2 ⟨rfl, b2⟩
    have B2 := b1.trans (b2.mono z1)
    have hsz := arr_size (enc l.length)
    go_wp2_with (at_builtin; refine Lib.wpList_append_own_string _ rfl (.tmp 12) (.tmp 15) 48 9 rfl w.heap.size 5 i0 Try.underlying48 Try.underlying9 hi hz0 hz1 hz2 (.slice none 0 0) 0 [] rfl (World.ownsRow_nil _ _ _ _) ⟨(enc l.length).toArray⟩ rfl ?c1 ?c2 ?c3 ?_)
    case c1 => unfold maxLen; omega
    case c2 => omega
    case c3 => exact B2.size
    intro v3 w3 o3 hg3 _
    have B3 := B2.grown hg3 B2.size (fun k hk => by cases hk)
    have o3' : w3.ownsRow w.heap.size 5 1 v3 (enc l.length).length (Lib.byteCells (enc l.length)) := by simpa [Lib.byteCells, Lib.strCells, arr_size] using o3
    clear o3
    go_wp2
    go_loopw [5, 6] (fun o i wr => ∃ (k : Nat) (Z : List UInt8), k ≤ l.length ∧ i = .int .i64 k ∧ wr.ownsRow w.heap.size 5 1 o Z.length (Lib.byteCells Z) ∧ Z.length ≤ 1048576 ∧ Hid (Z = enc l.length ++ (l.take k).flatMap rcB) ∧ Below w.heap.size w wr) (fun _ i _ => l.length - (intOf i).toNat)
    case atStart => exact ⟨0, enc l.length, Nat.zero_le _, rfl, o3', by omega, by show _ = _; simp, B3⟩
    case round =>
      obtain ⟨k, Z, hk, rfl, ho, hZl, hZ, hb⟩ := hrel
      have hz := hb.size
      clear o3'
      by_cases hlt : k < l.length
      · have hd2 : decide ((k : Int) < l.length) = true := by simp only [decide_eq_true_eq]; omega
        rcases HC.out with ⟨_, rfl⟩ | ⟨b, off, cap, hv, hc⟩
        · simp at hlt
        · simp only [Value.slice.injEq] at hv
          obtain ⟨rfl, _, rfl⟩ := hv
          obtain ⟨c1, c2, _⟩ := hc k hlt
          have hbl := World.block_lt_of_cell? w _ c1
          have d1 := (hb.cell (p := ⟨b, off + k * 2, none⟩) hbl).trans c1
          have d2 := (hb.cell (p := ⟨b, off + k * 2 + 1, none⟩) hbl).trans c2
          have hm := HA.out l[k] (List.getElem_mem hlt)
          have HL : Hid (Z ++ rcB l[k] = enc l.length ++ (l.take (k + 1)).flatMap rcB) := by show _ = _; rw [take_flat rcB l k hlt, hZ.out, List.append_assoc]
          have HD2 : Hid (∀ wx, Below w.heap.size w wx → wx.cell? ⟨b, off + k * 2 + 1, none⟩ = some (.string l[k].dat)) := fun wx hx => (hx.cell (p := ⟨b, off + k * 2 + 1, none⟩) hbl).trans c2
          have hml := rcB_len l[k] hm
          clear c1 c2 hc hZ d2
          generalize l[k] = x at d1 hm HL HD2 hml
          have t1 := txtB_len x.key
          have t2 := txtB_len x.dat
          go_wp2_with fail
          refine (laid_txt x.key wr (by omega)).mono ?_
          rintro e w4 ⟨rfl, b4⟩
          have B4 := hb.trans (b4.mono hz)
          have ho4 := own_below1 ho b4
          have hs1 := arr_size (txtB x.key)
          go_wp2_with (at_builtin; refine Lib.wpList_append_own_string _ rfl (.tmp 23) (.tmp 29) 48 9 rfl w.heap.size 5 i0 Try.underlying48 Try.underlying9 hi hz0 hz1 hz2 _ _ _ rfl ho4 ⟨(txtB x.key).toArray⟩ rfl ?c1 ?c2 ?c3 ?_)
          case c1 => unfold maxLen; omega
          case c2 => omega
          case c3 => exact B4.size
          intro v5 w5 o5 hg5 _
          have B5 := B4.grown hg5 B4.size (fun k hk => (ho.lt k hk).1)
          have o5' : w5.ownsRow w.heap.size 5 1 v5 (Z ++ txtB x.key).length (Lib.byteCells (Z ++ txtB x.key)) := by simpa [Lib.byteCells, Lib.strCells, arr_size] using o5
          have d2 := HD2.out _ B5
          have z5 := B5.size
          clear o5 d1 ho4 HD2
          go_wp2_with fail
          refine (laid_txt x.dat w5 (by omega)).mono ?_
          rintro e w6 ⟨rfl, b6⟩
          have B6 := B5.trans (b6.mono z5)
          have ho6 := own_below1 o5' b6
          have hs2 := arr_size (txtB x.dat)
          have hs3 : (Z ++ txtB x.key).length = Z.length + (txtB x.key).length := List.length_append
          go_wp2_with (at_builtin; refine Lib.wpList_append_own_string _ rfl (.tmp 31) (.tmp 37) 48 9 rfl w.heap.size 5 i0 Try.underlying48 Try.underlying9 hi hz0 hz1 hz2 _ _ _ rfl ho6 ⟨(txtB x.dat).toArray⟩ rfl ?c1 ?c2 ?c3 ?_)
          case c1 => unfold maxLen; omega
          case c2 => omega
          case c3 => exact B6.size
          intro v7 w7 o7 hg7 _
          have B7 := B6.grown hg7 B6.size (fun k hk => (o5'.lt k hk).1)
          have o7' : w7.ownsRow w.heap.size 5 1 v7 (Z ++ rcB x).length (Lib.byteCells (Z ++ rcB x)) := by simpa [Lib.byteCells, Lib.strCells, arr_size, rcB, Nat.add_assoc] using o7
          clear o7 d2 ho6
          have hlv : ∃ p c, v7 = .slice p (Z ++ rcB x).length c := by
            rcases o7'.2 with ⟨rfl, h⟩ | ⟨g, cap, cur, rfl, _⟩
            · rw [h]; exact ⟨none, 0, rfl⟩
            · exact ⟨_, _, rfl⟩
          obtain ⟨p7, c7, rfl⟩ := hlv
          have hZ2 : (Z ++ rcB x).length ≤ 1100000 := by rw [List.length_append]; omega
          by_cases hL : 1048576 < (Z ++ rcB x).length
          · have hfin2 : Hid (recsR l = #[.string ⟨#[]⟩, .int .i64 4]) := by
              show _ = _
              rw [hfin.out, if_pos]
              have h1 : (rcsB l).length = (enc l.length ++ (l.take (k + 1)).flatMap rcB ++ (l.drop (k + 1)).flatMap rcB).length := by
                unfold rcsB
                rw [List.append_assoc, ← List.flatMap_append, List.take_append_drop]
              rw [h1, ← HL.out, List.length_append]; omega
            have hdL : decide ((1048576 : Int) < ((Z ++ rcB x).length : Int)) = true := by simp only [decide_eq_true_eq]; omega
            clear hfin
            generalize (Z ++ rcB x).length = N at *
            go_wp2
            go_ret2
            exact ⟨by rw [hfin2.out]; rfl, B7⟩
          · have hdL : decide ((1048576 : Int) < ((Z ++ rcB x).length : Int)) = false := by simp only [decide_eq_false_iff_not]; omega
            generalize hY : Z ++ rcB x = Y at *
            clear hY
            go_wp2
            go_roundw
            case rel => exact ⟨k + 1, Y, by omega, by go_num, o7', by omega, HL, B7⟩
            case measure => simp [intOf]; omega
      · have hd2 : decide ((k : Int) < l.length) = false := by simp only [decide_eq_false_iff_not]; omega
        have hfull : Hid (rcsB l = Z) := by show _ = _; rw [hZ.out, List.take_of_length_le (by omega)]; rfl
        have hcv := own_convert ho
        have hfin2 : Hid (recsR l = #[.string ⟨Z.toArray⟩, .int .i64 0]) := by show _ = _; rw [hfin.out, hfull.out, if_neg (by omega)]
        clear hfull hfin hZ
        go_wp2
        go_ret2
        exact ⟨by rw [hfin2.out]; rfl, hb⟩
  · have hne : (riseR l != 0) = true := by simpa using hok
    have hfin : Hid (recsR l = #[.string ⟨#[]⟩, .int .i64 (riseR l)]) := by show _ = _; unfold recsR; rw [if_neg hok]
    go_enter Try.func7, Try.ntmps7
    go_wp2_with fail
    refine hri.mono ?_
    rintro e w1 ⟨rfl, b1⟩
    go_wp2
    go_ret2
    exact ⟨by rw [hfin.out]; rfl, b1⟩
end Go.Proofs.Ytdaonkgcdheplaa
