/- Move and Hand: what is held goes over. -/
import Derived.Test.YtmcafgmjfgfaeaaDoorLr11
import Derived.Test.YtmcafgmjfgfaeaaDoorLr12
namespace Go.Proofs.YtmcafgmjfgfaeaaDoor
open Go.RowKit
set_option linter.unusedSimpArgs false
set_option linter.unusedVariables false
variable {p b g : Nat} {l : List Kt}

set_option maxRecDepth 100000 in
set_option maxHeartbeats 2000000 in
theorem move_calls (w : World) (h : Lg w p b g l) (frm dst n : Int) (r : Int × List Kt) (hr : gate (refE l.length n [frm, dst]) l (overR l frm.toNat dst.toNat 0 1 n) = r) :
    Calls Tryd.prog 33 #[.pointer (some ⟨p, 0, none⟩), .int .i64 frm, .int .i64 dst, .int .i64 n] w fun e w' => e = .returned (.int .i64 r.1) ∧ Lg w' p b g r.2 ∧ Off b w w' := by
  obtain ⟨W1, hW1, X1, B1, Z1⟩ := nms_two w frm dst
  have hL := h.below B1
  have O1 : Off b w W1 := Off.of_below B1
  have hR := refuse_calls W1 hL n w.heap.size [frm, dst] 2 X1 (by simp) (by simp)
  rw [show ([frm, dst] : List Int).length = 2 from rfl] at hR
  have HO : Hid _ := hr
  clear hr
  have hlen := h.inv.len
  have c0 : W1.cell? ⟨p, 0, none⟩ = some (.slice (some ⟨b, 0, none⟩) l.length l.length) := hL.blk.cell rfl
  by_cases he : refE l.length n [frm, dst] = 0
  · rw [he] at hR
    obtain ⟨i, j, rfl, rfl, hi, hj, hn1, hn2⟩ := refE_two he
    have pt := part0
    have hbody : r = overR l i j 0 1 n := by
      have := HO.out
      rw [he] at this
      unfold gate at this
      rw [if_pos rfl] at this
      rw [← this]
      simp
    have z := h.inv.le pt hi
    have ny := hL.num 1 hi (by omega)
    have fy : W1.frozen? ⟨b, i * 12 + 1, none⟩ = false := hL.row.frozen
    by_cases hq : (kAt l i).n 1 < n
    · have hres : r = (61, l) := by rw [hbody]; unfold overR; rw [if_pos hq]
      have HE : Hid _ := hres
      clear hbody hres HO he
      generalize (kAt l i).n 1 = y at *
      have hd : decide (y < n) = true := decide_eq_true hq
      go_enter Tryd.func33, Tryd.ntmps33
      go_wp2_with fail
      refine hR.mono ?_
      rintro e w1 ⟨rfl, rfl⟩
      go_wp2
      repeat (go_region; go_wp2)
      go_ret
      rw [HE.out]
      first | exact ⟨rfl, hL, O1⟩ | exact ⟨rfl, hL.drew, O1.drew⟩ | exact ⟨rfl, hL.drew.drew, O1.drew.drew⟩
    · have hres : r = (0, over3 l i j 0 1 n) := by rw [hbody]; unfold overR; rw [if_neg hq]
      have HE : Hid _ := hres
      clear hbody hres HO he
      have i1 := h.inv.ov1 pt hi (show 0 ≤ n by omega) (by omega)
      have i2 := h.inv.ov2 pt (by omega) hi (show 0 ≤ n by omega) (by omega)
      have i3 := h.inv.ov3 (j := j) pt (by omega) hi hj (show 0 ≤ n by omega) (by omega)
      obtain ⟨W2, hW2, L2, O2⟩ : ∃ W2, W1.setCell ⟨b, i * 12 + 1, none⟩ (.int .i64 ((kAt l i).n 1 - n)) = W2 ∧ Lg W2 p b g (over1 l i 1 n) ∧ Off b w W2 := ⟨_, rfl, hL.set _ hi (by omega) i1, O1.setCell (p := ⟨b, i * 12 + 1, none⟩) rfl _⟩
      have nx2 : W2.cell? ⟨b, i * 12, none⟩ = some (.int .i64 ((kAt l i).n 0)) := by rw [← over1_a (n := n) (j := i) pt hi]; exact L2.num0 (by rw [over1_len]; exact hi)
      have fx2 : W2.frozen? ⟨b, i * 12, none⟩ = false := L2.row.frozen
      obtain ⟨W3, hW3, L3, O3⟩ : ∃ W3, W2.setCell ⟨b, i * 12, none⟩ (.int .i64 ((kAt l i).n 0 - n)) = W3 ∧ Lg W3 p b g (over2 l i 0 1 n) ∧ Off b w W3 := ⟨_, rfl, by rw [← over1_a (n := n) (j := i) pt hi]; exact L2.set0 _ (by rw [over1_len]; exact hi) i2, O2.setCell (p := ⟨b, i * 12, none⟩) rfl _⟩
      have nx3 := L3.num0 (i := j) (by rw [over2_len]; exact hj)
      have fx3 : W3.frozen? ⟨b, j * 12, none⟩ = false := L3.row.frozen
      have c3 : W3.cell? ⟨p, 0, none⟩ = some (.slice (some ⟨b, 0, none⟩) l.length l.length) := by have := L3.blk.cell (o := 0) rfl; rw [over2_len] at this; exact this
      have z3 := i2.le pt (show j < (over2 l i 0 1 n).length by rw [over2_len]; exact hj)
      obtain ⟨W4, hW4, L4, O4⟩ : ∃ W4, W3.setCell ⟨b, j * 12, none⟩ (.int .i64 ((kAt (over2 l i 0 1 n) j).n 0 + n)) = W4 ∧ Lg W4 p b g (over3 l i j 0 1 n) ∧ Off b w W4 := ⟨_, rfl, L3.set0 _ (by rw [over2_len]; exact hj) i3, O3.setCell (p := ⟨b, j * 12, none⟩) rfl _⟩
      have HL4 : Hid _ := L4
      clear L2 L3 L4 i1 i2 i3
      generalize hx : (kAt l i).n 0 = x at *
      generalize hy : (kAt l i).n 1 = y at *
      generalize hv : (kAt (over2 l i 0 1 n) j).n 0 = v at *
      have HX : Hid _ := hx
      have HY : Hid _ := hy
      have HV : Hid _ := hv
      clear hx hy hv
      have hd : decide (y < n) = false := decide_eq_false hq
      go_enter Tryd.func33, Tryd.ntmps33
      go_wp2_with fail
      refine hR.mono ?_
      rintro e w1 ⟨rfl, rfl⟩
      go_wp2
      repeat (go_region; go_wp2)
      go_ret
      rw [HE.out]
      first | exact ⟨rfl, HL4.out, O4⟩ | exact ⟨rfl, HL4.out.drew, O4.drew⟩ | exact ⟨rfl, HL4.out.drew.drew, O4.drew.drew⟩ | exact ⟨rfl, HL4.out.drew.drew.drew, O4.drew.drew.drew⟩
  · have hres : r = (refE l.length n [frm, dst], l) := by
      have := HO.out
      unfold gate at this
      rw [if_neg he] at this
      exact this.symm
    have HE : Hid _ := hres
    clear hres HO
    generalize refE l.length n [frm, dst] = z at *
    have hb0 : (z == 0) = false := by simpa using he
    go_enter Tryd.func33, Tryd.ntmps33
    go_wp2_with fail
    refine hR.mono ?_
    rintro e w1 ⟨rfl, rfl⟩
    go_wp2
    go_ret
    rw [HE.out]
    exact ⟨rfl, hL, O1⟩

end Go.Proofs.YtmcafgmjfgfaeaaDoor
