/- Take, Hold, Free: free and held cash of one client. -/
import Derived.Test.YtmcafgmjfgfaeaaDoorLr11
import Derived.Test.YtmcafgmjfgfaeaaDoorLr12
namespace Go.Proofs.YtmcafgmjfgfaeaaDoor
open Go.RowKit
set_option linter.unusedSimpArgs false
set_option linter.unusedVariables false
variable {p b g : Nat} {l : List Kt}

set_option maxRecDepth 100000 in
set_option maxHeartbeats 1000000 in
theorem take_calls (w : World) (h : Lg w p b g l) (who n : Int) (r : Int × List Kt) (hr : gate (refE l.length n [who]) l (outR l who.toNat 0 1 n) = r) :
    Calls Tryd.prog 26 #[.pointer (some ⟨p, 0, none⟩), .int .i64 who, .int .i64 n] w fun e w' => e = .returned (.int .i64 r.1) ∧ Lg w' p b g r.2 ∧ Off b w w' := by
  obtain ⟨W1, hW1, X1, B1, Z1⟩ := nms_one w who
  have hL := h.below B1
  have O1 : Off b w W1 := Off.of_below B1
  have hR := refuse_calls W1 hL n w.heap.size [who] 1 X1 (by simp) (by simp)
  rw [show ([who] : List Int).length = 1 from rfl] at hR
  have HO : Hid _ := hr
  clear hr
  have c0 : W1.cell? ⟨p, 0, none⟩ = some (.slice (some ⟨b, 0, none⟩) l.length l.length) := hL.blk.cell rfl
  have hlen := h.inv.len
  by_cases he : refE l.length n [who] = 0
  · rw [he] at hR
    obtain ⟨i, rfl, hi, hn1, hn2⟩ := refE_one he
    have pt := part0
    have hbody : r = outR l i 0 1 n := by
      have := HO.out
      rw [he] at this
      unfold gate at this
      rw [if_pos rfl] at this
      rw [← this]
      simp
    have z := h.inv.le pt hi
    have nx := hL.num0 hi
    have ny := hL.num 1 hi (by omega)
    have fx : W1.frozen? ⟨b, i * 12, none⟩ = false := hL.row.frozen
    by_cases hq : (kAt l i).n 0 - (kAt l i).n 1 < n
    · have hres : r = (61, l) := by rw [hbody]; unfold outR; rw [if_pos hq]
      have HE : Hid _ := hres
      clear hbody hres HO he
      generalize (kAt l i).n 0 = x at *
      generalize (kAt l i).n 1 = y at *
      have hd : decide (x - y < n) = true := decide_eq_true hq
      go_enter Tryd.func26, Tryd.ntmps26
      go_wp2_with fail
      refine hR.mono ?_
      rintro e w1 ⟨rfl, rfl⟩
      go_wp2
      repeat (go_region; go_wp2)
      go_ret
      rw [HE.out]
      first | exact ⟨rfl, hL, O1⟩ | exact ⟨rfl, hL.drew, O1.drew⟩ | exact ⟨rfl, hL.drew.drew, O1.drew.drew⟩
    · have hres : r = (0, upd l i 0 ((kAt l i).n 0 - n)) := by rw [hbody]; unfold outR; rw [if_neg hq]
      have HE : Hid _ := hres
      clear hbody hres HO he
      have hv : Inv g (upd l i 0 ((kAt l i).n 0 - n)) := h.inv.subA pt (by omega) hi (by omega) (by omega)
      obtain ⟨W2, hW2, L2, O2⟩ : ∃ W2, W1.setCell ⟨b, i * 12, none⟩ (.int .i64 ((kAt l i).n 0 - n)) = W2 ∧ Lg W2 p b g (upd l i 0 ((kAt l i).n 0 - n)) ∧ Off b w W2 := ⟨_, rfl, hL.set0 _ hi hv, O1.setCell (p := ⟨b, i * 12, none⟩) rfl _⟩
      have HL2 : Hid _ := L2
      clear hv L2
      generalize hx : (kAt l i).n 0 = x at *
      generalize hy : (kAt l i).n 1 = y at *
      have HX : Hid _ := hx
      have HY : Hid _ := hy
      clear hx hy
      have hd : decide (x - y < n) = false := decide_eq_false hq
      go_enter Tryd.func26, Tryd.ntmps26
      go_wp2_with fail
      refine hR.mono ?_
      rintro e w1 ⟨rfl, rfl⟩
      go_wp2
      repeat (go_region; go_wp2)
      go_ret
      rw [HE.out]
      first | exact ⟨rfl, HL2.out, O2⟩ | exact ⟨rfl, HL2.out.drew, O2.drew⟩ | exact ⟨rfl, HL2.out.drew.drew, O2.drew.drew⟩
  · have hres : r = (refE l.length n [who], l) := by
      have := HO.out
      unfold gate at this
      rw [if_neg he] at this
      exact this.symm
    have HE : Hid _ := hres
    clear hres HO
    generalize refE l.length n [who] = z at *
    have hb0 : (z == 0) = false := by simpa using he
    go_enter Tryd.func26, Tryd.ntmps26
    go_wp2_with fail
    refine hR.mono ?_
    rintro e w1 ⟨rfl, rfl⟩
    go_wp2
    go_ret
    rw [HE.out]
    exact ⟨rfl, hL, O1⟩

set_option maxRecDepth 100000 in
set_option maxHeartbeats 1000000 in
theorem hold_calls (w : World) (h : Lg w p b g l) (who n : Int) (r : Int × List Kt) (hr : gate (refE l.length n [who]) l (keepR l who.toNat 0 1 n) = r) :
    Calls Tryd.prog 29 #[.pointer (some ⟨p, 0, none⟩), .int .i64 who, .int .i64 n] w fun e w' => e = .returned (.int .i64 r.1) ∧ Lg w' p b g r.2 ∧ Off b w w' := by
  obtain ⟨W1, hW1, X1, B1, Z1⟩ := nms_one w who
  have hL := h.below B1
  have O1 : Off b w W1 := Off.of_below B1
  have hR := refuse_calls W1 hL n w.heap.size [who] 1 X1 (by simp) (by simp)
  rw [show ([who] : List Int).length = 1 from rfl] at hR
  have HO : Hid _ := hr
  clear hr
  have c0 : W1.cell? ⟨p, 0, none⟩ = some (.slice (some ⟨b, 0, none⟩) l.length l.length) := hL.blk.cell rfl
  have hlen := h.inv.len
  by_cases he : refE l.length n [who] = 0
  · rw [he] at hR
    obtain ⟨i, rfl, hi, hn1, hn2⟩ := refE_one he
    have pt := part0
    have hbody : r = keepR l i 0 1 n := by
      have := HO.out
      rw [he] at this
      unfold gate at this
      rw [if_pos rfl] at this
      rw [← this]
      simp
    have z := h.inv.le pt hi
    have nx := hL.num0 hi
    have ny := hL.num 1 hi (by omega)
    have fx : W1.frozen? ⟨b, i * 12 + 1, none⟩ = false := hL.row.frozen
    by_cases hq : (kAt l i).n 0 - (kAt l i).n 1 < n
    · have hres : r = (61, l) := by rw [hbody]; unfold keepR; rw [if_pos hq]
      have HE : Hid _ := hres
      clear hbody hres HO he
      generalize (kAt l i).n 0 = x at *
      generalize (kAt l i).n 1 = y at *
      have hd : decide (x - y < n) = true := decide_eq_true hq
      go_enter Tryd.func29, Tryd.ntmps29
      go_wp2_with fail
      refine hR.mono ?_
      rintro e w1 ⟨rfl, rfl⟩
      go_wp2
      repeat (go_region; go_wp2)
      go_ret
      rw [HE.out]
      first | exact ⟨rfl, hL, O1⟩ | exact ⟨rfl, hL.drew, O1.drew⟩ | exact ⟨rfl, hL.drew.drew, O1.drew.drew⟩
    · have hres : r = (0, upd l i 1 ((kAt l i).n 1 + n)) := by rw [hbody]; unfold keepR; rw [if_neg hq]
      have HE : Hid _ := hres
      clear hbody hres HO he
      have hv : Inv g (upd l i 1 ((kAt l i).n 1 + n)) := h.inv.setH pt hi (by omega) (by omega)
      obtain ⟨W2, hW2, L2, O2⟩ : ∃ W2, W1.setCell ⟨b, i * 12 + 1, none⟩ (.int .i64 ((kAt l i).n 1 + n)) = W2 ∧ Lg W2 p b g (upd l i 1 ((kAt l i).n 1 + n)) ∧ Off b w W2 := ⟨_, rfl, hL.set _ hi (by omega) hv, O1.setCell (p := ⟨b, i * 12 + 1, none⟩) rfl _⟩
      have HL2 : Hid _ := L2
      clear hv L2
      generalize hx : (kAt l i).n 0 = x at *
      generalize hy : (kAt l i).n 1 = y at *
      have HX : Hid _ := hx
      have HY : Hid _ := hy
      clear hx hy
      have hd : decide (x - y < n) = false := decide_eq_false hq
      go_enter Tryd.func29, Tryd.ntmps29
      go_wp2_with fail
      refine hR.mono ?_
      rintro e w1 ⟨rfl, rfl⟩
      go_wp2
      repeat (go_region; go_wp2)
      go_ret
      rw [HE.out]
      first | exact ⟨rfl, HL2.out, O2⟩ | exact ⟨rfl, HL2.out.drew, O2.drew⟩ | exact ⟨rfl, HL2.out.drew.drew, O2.drew.drew⟩
  · have hres : r = (refE l.length n [who], l) := by
      have := HO.out
      unfold gate at this
      rw [if_neg he] at this
      exact this.symm
    have HE : Hid _ := hres
    clear hres HO
    generalize refE l.length n [who] = z at *
    have hb0 : (z == 0) = false := by simpa using he
    go_enter Tryd.func29, Tryd.ntmps29
    go_wp2_with fail
    refine hR.mono ?_
    rintro e w1 ⟨rfl, rfl⟩
    go_wp2
    go_ret
    rw [HE.out]
    exact ⟨rfl, hL, O1⟩

end Go.Proofs.YtmcafgmjfgfaeaaDoor
