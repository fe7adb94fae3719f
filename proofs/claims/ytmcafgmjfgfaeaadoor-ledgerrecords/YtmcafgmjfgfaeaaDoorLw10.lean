/- Move and Hand: what is held goes over. -/
import Derived.Test.YtmcafgmjfgfaeaaDoorLw06
import Derived.Test.YtmcafgmjfgfaeaaDoorLw03
import Derived.Test.YtmcafgmjfgfaeaaDoorLw05
import Derived.Test.YtmcafgmjfgfaeaaDoorLw01
import Derived.Test.YtmcafgmjfgfaeaaDoorRows
import Derived.Handy
import Derived.WalkLawsBesides
import Derived.Deep.QuietTactic
import Derived.BigQuiet
import Derived.Lib.Strings
import Derived.Lib.Walk
import Derived.Lib.BufferWrite
import Derived.Lib.UnsafeStr
import Derived.Lib.Hide
import Derived.Laws.MakeOwn
namespace Go.Proofs.YtmcafgmjfgfaeaaDoor
open Go.RowKit
set_option linter.unusedSimpArgs false
set_option linter.unusedVariables false
variable {p b g : Nat} {l : List Kt}

set_option maxRecDepth 100000 in
set_option maxHeartbeats 2000000 in
theorem move_calls (w : World) (h : Lg w p b g l) (frm dst n : Int) (r : Int × List Kt) (hr : gate (refE l.length n [frm, dst]) l (overR l frm.toNat dst.toNat 0 1 n) = r) :
    Calls Tryd.prog 33 #[.pointer (some ⟨p, 0, none⟩), .int .i64 frm, .int .i64 dst, .int .i64 n] w fun e w' => e = .returned (.int .i64 r.1) ∧ Lg w' p b g r.2 ∧ Off b w w' := by
  obtain ⟨W1, hW1, X1, B1, Z1⟩ := nms_two w frm dst
  have hL := h.below B1
  have O1 : Off b w W1 := Off.of_below B1
  have hR := refuse_calls W1 hL n w.heap.size [frm, dst] 2 X1 (by simp) (by simp)
  rw [show ([frm, dst] : List Int).length = 2 from rfl] at hR
  have HO : Hid _ := hr
  clear hr
  have hlen := h.inv.len
  have c0 : W1.cell? ⟨p, 0, none⟩ = some (.slice (some ⟨b, 0, none⟩) l.length l.length) := hL.blk.cell rfl
  by_cases he : refE l.length n [frm, dst] = 0
  · rw [he] at hR
    obtain ⟨i, j, rfl, rfl, hi, hj, hn1, hn2⟩ := refE_two he
    have pt := part0
    have hbody : r = overR l i j 0 1 n := by
      have := HO.out
      rw [he] at this
      unfold gate at this
      rw [if_pos rfl] at this
      rw [← this]
      simp
    have z := h.inv.le pt hi
    have ny := hL.num 1 hi (by omega)
    have fy : W1.frozen? ⟨b, i * 12 + 1, none⟩ = false := hL.row.frozen
    by_cases hq : (kAt l i).n 1 < n
    · have hres : r = (61, l) := by rw [hbody]; unfold overR; rw [if_pos hq]
      have HE : Hid _ := hres
      clear hbody hres HO he
      generalize (kAt l i).n 1 = y at *
      have hd : decide (y < n) = true := decide_eq_true hq
      go_enter Tryd.func33, Tryd.ntmps33
      go_wp2_with fail
      refine hR.mono ?_
      rintro e w1 ⟨rfl, rfl⟩
      go_wp2
      repeat (go_region; go_wp2)
      go_ret
      rw [HE.out]
      first | exact ⟨rfl, hL, O1⟩ | exact ⟨rfl, hL.drew, O1.drew⟩ | exact ⟨rfl, hL.drew.drew, O1.drew.drew⟩
    · have hres : r = (0, over3 l i j 0 1 n) := by rw [hbody]; unfold overR; rw [if_neg hq]
      have HE : Hid _ := hres
      clear hbody hres HO he
      have i1 := h.inv.ov1 pt hi (show 0 ≤ n by omega) (by omega)
      have i2 := h.inv.ov2 pt (by omega) hi (show 0 ≤ n by omega) (by omega)
      have i3 := h.inv.ov3 (j := j) pt (by omega) hi hj (show 0 ≤ n by omega) (by omega)
      obtain ⟨W2, hW2, L2, O2⟩ : ∃ W2, W1.setCell ⟨b, i * 12 + 1, none⟩ (.int .i64 ((kAt l i).n 1 - n)) = W2 ∧ Lg W2 p b g (over1 l i 1 n) ∧ Off b w W2 := ⟨_, rfl, hL.set _ hi (by omega) i1, O1.setCell (p := ⟨b, i * 12 + 1, none⟩) rfl _⟩
      have nx2 : W2.cell? ⟨b, i * 12, none⟩ = some (.int .i64 ((kAt l i).n 0)) := by rw [← over1_a (n := n) (j := i) pt hi]; exact L2.num0 (by rw [over1_len]; exact hi)
      have fx2 : W2.frozen? ⟨b, i * 12, none⟩ = false := L2.row.frozen
      obtain ⟨W3, hW3, L3, O3⟩ : ∃ W3, W2.setCell ⟨b, i * 12, none⟩ (.int .i64 ((kAt l i).n 0 - n)) = W3 ∧ Lg W3 p b g (over2 l i 0 1 n) ∧ Off b w W3 := ⟨_, rfl, by rw [← over1_a (n := n) (j := i) pt hi]; exact L2.set0 _ (by rw [over1_len]; exact hi) i2, O2.setCell (p := ⟨b, i * 12, none⟩) rfl _⟩
      have nx3 := L3.num0 (i := j) (by rw [over2_len]; exact hj)
      have fx3 : W3.frozen? ⟨b, j * 12, none⟩ = false := L3.row.frozen
      have c3 : W3.cell? ⟨p, 0, none⟩ = some (.slice (some ⟨b, 0, none⟩) l.length l.length) := by have := L3.blk.cell (o := 0) rfl; rw [over2_len] at this; exact this
      have z3 := i2.le pt (show j < (over2 l i 0 1 n).length by rw [over2_len]; exact hj)
      obtain ⟨W4, hW4, L4, O4⟩ : ∃ W4, W3.setCell ⟨b, j * 12, none⟩ (.int .i64 ((kAt (over2 l i 0 1 n) j).n 0 + n)) = W4 ∧ Lg W4 p b g (over3 l i j 0 1 n) ∧ Off b w W4 := ⟨_, rfl, L3.set0 _ (by rw [over2_len]; exact hj) i3, O3.setCell (p := ⟨b, j * 12, none⟩) rfl _⟩
      have HL4 : Hid _ := L4
      clear L2 L3 L4 i1 i2 i3
      generalize hx : (kAt l i).n 0 = x at *
      generalize hy : (kAt l i).n 1 = y at *
      generalize hv : (kAt (over2 l i 0 1 n) j).n 0 = v at *
      have HX : Hid _ := hx
      have HY : Hid _ := hy
      have HV : Hid _ := hv
      clear hx hy hv
      have hd : decide (y < n) = false := decide_eq_false hq
      go_enter Tryd.func33, Tryd.ntmps33
      go_wp2_with fail
      refine hR.mono ?_
      rintro e w1 ⟨rfl, rfl⟩
      go_wp2
      repeat (go_region; go_wp2)
      go_ret
      rw [HE.out]
      first | exact ⟨rfl, HL4.out, O4⟩ | exact ⟨rfl, HL4.out.drew, O4.drew⟩ | exact ⟨rfl, HL4.out.drew.drew, O4.drew.drew⟩ | exact ⟨rfl, HL4.out.drew.drew.drew, O4.drew.drew.drew⟩
  · have hres : r = (refE l.length n [frm, dst], l) := by
      have := HO.out
      unfold gate at this
      rw [if_neg he] at this
      exact this.symm
    have HE : Hid _ := hres
    clear hres HO
    generalize refE l.length n [frm, dst] = z at *
    have hb0 : (z == 0) = false := by simpa using he
    go_enter Tryd.func33, Tryd.ntmps33
    go_wp2_with fail
    refine hR.mono ?_
    rintro e w1 ⟨rfl, rfl⟩
    go_wp2
    go_ret
    rw [HE.out]
    exact ⟨rfl, hL, O1⟩

set_option maxRecDepth 100000 in
set_option maxHeartbeats 2000000 in
theorem hand_calls (w : World) (h : Lg w p b g l) (frm dst good n : Int) (r : Int × List Kt) (hr : gate (refG g l.length good n [frm, dst]) l (overR l frm.toNat dst.toNat (2 + good.toNat) (6 + good.toNat) n) = r) :
    Calls Tryd.prog 34 #[.pointer (some ⟨p, 0, none⟩), .int .i64 frm, .int .i64 dst, .int .i64 good, .int .i64 n] w fun e w' => e = .returned (.int .i64 r.1) ∧ Lg w' p b g r.2 ∧ Off b w w' := by
  obtain ⟨W1, hW1, X1, B1, Z1⟩ := nms_two w frm dst
  have hL := h.below B1
  have O1 : Off b w W1 := Off.of_below B1
  have hR := refuseGood_calls W1 hL good n w.heap.size [frm, dst] 2 X1 (by simp) (by simp)
  rw [show ([frm, dst] : List Int).length = 2 from rfl] at hR
  have HO : Hid _ := hr
  clear hr
  have hlen := h.inv.len
  have c0 : W1.cell? ⟨p, 0, none⟩ = some (.slice (some ⟨b, 0, none⟩) l.length l.length) := hL.blk.cell rfl
  by_cases he : refG g l.length good n [frm, dst] = 0
  · rw [he] at hR
    obtain ⟨he1, q, rfl, hqg⟩ := refG_ok he
    obtain ⟨i, j, rfl, rfl, hi, hj, hn1, hn2⟩ := refE_two he1
    have hg4 := h.inv.g4
    have pt := partG q (by omega)
    clear he1
    have hbody : r = overR l i j (2 + q) (6 + q) n := by
      have := HO.out
      rw [he] at this
      unfold gate at this
      rw [if_pos rfl] at this
      rw [← this]
      simp
    have z := h.inv.le pt hi
    have ny := hL.numL hi (show q < 4 by omega)
    have fy : W1.frozen? ⟨b, i * 12 + 6 + q, none⟩ = false := hL.row.frozen
    by_cases hq : (kAt l i).n (6 + q) < n
    · have hres : r = (61, l) := by rw [hbody]; unfold overR; rw [if_pos hq]
      have HE : Hid _ := hres
      clear hbody hres HO he
      generalize (kAt l i).n (6 + q) = y at *
      have hd : decide (y < n) = true := decide_eq_true hq
      go_enter Tryd.func34, Tryd.ntmps34
      go_wp2_with fail
      refine hR.mono ?_
      rintro e w1 ⟨rfl, rfl⟩
      go_wp2
      repeat (go_region; go_wp2)
      go_ret
      rw [HE.out]
      first | exact ⟨rfl, hL, O1⟩ | exact ⟨rfl, hL.drew, O1.drew⟩ | exact ⟨rfl, hL.drew.drew, O1.drew.drew⟩
    · have hres : r = (0, over3 l i j (2 + q) (6 + q) n) := by rw [hbody]; unfold overR; rw [if_neg hq]
      have HE : Hid _ := hres
      clear hbody hres HO he
      have i1 := h.inv.ov1 pt hi (show 0 ≤ n by omega) (by omega)
      have i2 := h.inv.ov2 pt (by omega) hi (show 0 ≤ n by omega) (by omega)
      have i3 := h.inv.ov3 (j := j) pt (by omega) hi hj (show 0 ≤ n by omega) (by omega)
      obtain ⟨W2, hW2, L2, O2⟩ : ∃ W2, W1.setCell ⟨b, i * 12 + 6 + q, none⟩ (.int .i64 ((kAt l i).n (6 + q) - n)) = W2 ∧ Lg W2 p b g (over1 l i (6 + q) n) ∧ Off b w W2 := ⟨_, rfl, hL.setL _ hi (show q < 4 by omega) i1, O1.setCell (p := ⟨b, i * 12 + 6 + q, none⟩) rfl _⟩
      have nx2 : W2.cell? ⟨b, i * 12 + 2 + q, none⟩ = some (.int .i64 ((kAt l i).n (2 + q))) := by rw [← over1_a (n := n) (j := i) pt hi]; exact L2.numG (by rw [over1_len]; exact hi) (show q < 4 by omega)
      have fx2 : W2.frozen? ⟨b, i * 12 + 2 + q, none⟩ = false := L2.row.frozen
      obtain ⟨W3, hW3, L3, O3⟩ : ∃ W3, W2.setCell ⟨b, i * 12 + 2 + q, none⟩ (.int .i64 ((kAt l i).n (2 + q) - n)) = W3 ∧ Lg W3 p b g (over2 l i (2 + q) (6 + q) n) ∧ Off b w W3 := ⟨_, rfl, by rw [← over1_a (n := n) (j := i) pt hi]; exact L2.setG _ (by rw [over1_len]; exact hi) (show q < 4 by omega) i2, O2.setCell (p := ⟨b, i * 12 + 2 + q, none⟩) rfl _⟩
      have nx3 := L3.numG (i := j) (by rw [over2_len]; exact hj) (show q < 4 by omega)
      have fx3 : W3.frozen? ⟨b, j * 12 + 2 + q, none⟩ = false := L3.row.frozen
      have c3 : W3.cell? ⟨p, 0, none⟩ = some (.slice (some ⟨b, 0, none⟩) l.length l.length) := by have := L3.blk.cell (o := 0) rfl; rw [over2_len] at this; exact this
      have z3 := i2.le pt (show j < (over2 l i (2 + q) (6 + q) n).length by rw [over2_len]; exact hj)
      obtain ⟨W4, hW4, L4, O4⟩ : ∃ W4, W3.setCell ⟨b, j * 12 + 2 + q, none⟩ (.int .i64 ((kAt (over2 l i (2 + q) (6 + q) n) j).n (2 + q) + n)) = W4 ∧ Lg W4 p b g (over3 l i j (2 + q) (6 + q) n) ∧ Off b w W4 := ⟨_, rfl, L3.setG _ (by rw [over2_len]; exact hj) (show q < 4 by omega) i3, O3.setCell (p := ⟨b, j * 12 + 2 + q, none⟩) rfl _⟩
      have HL4 : Hid _ := L4
      clear L2 L3 L4 i1 i2 i3
      generalize hx : (kAt l i).n (2 + q) = x at *
      generalize hy : (kAt l i).n (6 + q) = y at *
      generalize hv : (kAt (over2 l i (2 + q) (6 + q) n) j).n (2 + q) = v at *
      have HX : Hid _ := hx
      have HY : Hid _ := hy
      have HV : Hid _ := hv
      clear hx hy hv
      have hd : decide (y < n) = false := decide_eq_false hq
      go_enter Tryd.func34, Tryd.ntmps34
      go_wp2_with fail
      refine hR.mono ?_
      rintro e w1 ⟨rfl, rfl⟩
      go_wp2
      repeat (go_region; go_wp2)
      go_ret
      rw [HE.out]
      first | exact ⟨rfl, HL4.out, O4⟩ | exact ⟨rfl, HL4.out.drew, O4.drew⟩ | exact ⟨rfl, HL4.out.drew.drew, O4.drew.drew⟩ | exact ⟨rfl, HL4.out.drew.drew.drew, O4.drew.drew.drew⟩
  · have hres : r = (refG g l.length good n [frm, dst], l) := by
      have := HO.out
      unfold gate at this
      rw [if_neg he] at this
      exact this.symm
    have HE : Hid _ := hres
    clear hres HO
    generalize refG g l.length good n [frm, dst] = z at *
    have hb0 : (z == 0) = false := by simpa using he
    go_enter Tryd.func34, Tryd.ntmps34
    go_wp2_with fail
    refine hR.mono ?_
    rintro e w1 ⟨rfl, rfl⟩
    go_wp2
    go_ret
    rw [HE.out]
    exact ⟨rfl, hL, O1⟩
end Go.Proofs.YtmcafgmjfgfaeaaDoor

namespace Go.Proofs.YtmcafgmjfgfaeaaDoor
open Go.RowKit
set_option linter.unusedSimpArgs false
set_option linter.unusedVariables false

theorem infoByte : (Tryd.prog.info? 5).map (fun i => (i.zero, i.size, i.bytes)) = some (some (.int .u8 0), 1, 1) := by kernel_rfl

set_option maxHeartbeats 4000000 in
set_option maxRecDepth 100000 in
theorem stringsliteClone_calls (s : ByteArray) (w : World) (hlim : s.size ≤ 281474976710656) :
    Calls Tryd.prog 68 #[.string s] w fun e w' => e = .returned (.string s) ∧ Below w.heap.size w w' := by
  by_cases h0 : s.size = 0
  · have hs : s = ⟨#[]⟩ := by
      apply ByteArray.ext
      exact Array.eq_empty_of_size_eq_zero h0
    subst hs
    go_enter Tryd.func68, Tryd.ntmps68
    go_wp2
    go_ret
    exact ⟨rfl, Below.refl _ _⟩
  · obtain ⟨i0, hi, hz0, hz1, hz2⟩ := info_parts infoByte
    have hinfo : (Tryd.prog.info? 5).map (·.size) = some 1 := by rw [hi]; simp [hz1]
    have hco : Tryd.prog.cellsOf 5 = 1 := by simp [Program.cellsOf, hi, hz1]
    obtain ⟨M, hM⟩ : ∃ M, M = madeCells (Value.int .u8 0).cells (((s.size : Nat) : Int).toNat * i0.size) := ⟨_, rfl⟩
    have hMs : M.size = s.size := by rw [hM, size_madeCells, hz1]; simp
    have hmk : ∀ W : World, (Instr.makeSlice 92 (.int .i64 (s.size : Int)) (.int .i64 (s.size : Int))).run Tryd.prog W = .ok (.slice (some ⟨W.heap.size, 0, none⟩) s.size s.size) (W.alloc (.cells M 5)) := fun W => by
      have h := run_make (P := Tryd.prog) W 92 5 i0 (.int .u8 0) Tryd.underlying92 hi hz0 .i64 .i64 (s.size : Int) (s.size : Int) (by omega) (by omega) (by rw [hz2]; omega) (by omega)
      rw [← hM] at h
      simpa using h
    clear hM
    have hcp := Lib.run_copy_row_string (P := Tryd.prog) (w.alloc (.cells M 5)) 92 9 3 5 w.heap.size 0 s.size s.size s M 5 Tryd.underlying92 hinfo (heap_alloc_new w _) (Nat.le_refl _) (by omega)
    obtain ⟨Y, hY⟩ : ∃ Y, Y = (M.toList.take 0 ++ Lib.byteCells s.data.toList ++ M.toList.drop (0 + s.size)).toArray := ⟨_, rfl⟩
    rw [← hY] at hcp
    have hYl : Y.toList = Lib.byteCells s.data.toList := by
      rw [hY, List.toList_toArray, List.take_zero, List.nil_append, List.drop_of_length_le (by rw [Array.length_toList]; omega), List.append_nil]
    have hYs : Y.size = s.size := by rw [← Array.length_toList, hYl, Lib.byteCells_length, ← Lib.size_eq]
    have hgY : ((w.alloc (.cells M 5)).setRow w.heap.size Y).heap[w.heap.size]? = some (.cells Y 5 (0, 0)) := setRow_heap _ _ M _ 5 (0, 0) (heap_alloc_new w _)
    have hne : s.data.toList ≠ [] := fun e => h0 (by rw [Lib.size_eq, e]; rfl)
    have hUS := Lib.run_unsafeString_row (P := Tryd.prog) ((w.alloc (.cells M 5)).setRow w.heap.size Y) 112 3 9 5 Tryd.underlying112 hco w.heap.size Y.size (by unfold World.shape?; rw [hgY]) s.data.toList hne (by rw [← Lib.size_eq]; omega) (by rw [← Lib.size_eq]; omega)
      (fun j x hx => Lib.cells_of_row hgY Y.size j _ (by rw [List.take_of_length_le (by rw [Array.length_toList]; exact Nat.le_refl _), hYl]; simp [Lib.byteCells, hx]))
    rw [← Lib.size_eq] at hUS
    clear hY
    go_enter Tryd.func68, Tryd.ntmps68
    go_wp2
    go_ret
    have hb1 : Below w.heap.size w (w.alloc (.cells M 5)) := (Below.refl _ w).alloc (Nat.le_refl _) _
    have hb2 : Below w.heap.size (w.alloc (.cells M 5)) ((w.alloc (.cells M 5)).setRow w.heap.size Y) := ⟨rfl, rfl, rfl, by simp, fun k hk => setRow_other _ _ _ _ (by omega)⟩
    exact ⟨rfl, Lib.below_freeze (hb1.trans hb2) (p := ⟨w.heap.size, 0, none⟩) (Nat.le_refl _) _⟩

theorem clone_calls (s : ByteArray) (w : World) (hlim : s.size ≤ 281474976710656) :
    Calls Tryd.prog 56 #[.string s] w fun e w' => e = .returned (.string s) ∧ Below w.heap.size w w' := by
  go_enter Tryd.func56, Tryd.ntmps56
  go_wp2_with fail
  refine (stringsliteClone_calls s _ hlim).mono ?_
  rintro e w1 ⟨rfl, hb⟩
  go_wp2
  go_ret
  exact ⟨rfl, hb⟩
end Go.Proofs.YtmcafgmjfgfaeaaDoor
