/- Fetch, Lock, Unlock: free and locked goods of one client. -/
import Derived.Test.YtmcafgmjfgfaeaaDoorLr11
import Derived.Test.YtmcafgmjfgfaeaaDoorLr12
namespace Go.Proofs.YtmcafgmjfgfaeaaDoor
open Go.RowKit
set_option linter.unusedSimpArgs false
set_option linter.unusedVariables false
variable {p b g : Nat} {l : List Kt}

set_option maxRecDepth 100000 in
set_option maxHeartbeats 1000000 in
theorem fetch_calls (w : World) (h : Lg w p b g l) (who good n : Int) (r : Int × List Kt) (hr : gate (refG g l.length good n [who]) l (outR l who.toNat (2 + good.toNat) (6 + good.toNat) n) = r) :
    Calls Tryd.prog 28 #[.pointer (some ⟨p, 0, none⟩), .int .i64 who, .int .i64 good, .int .i64 n] w fun e w' => e = .returned (.int .i64 r.1) ∧ Lg w' p b g r.2 ∧ Off b w w' := by
  obtain ⟨W1, hW1, X1, B1, Z1⟩ := nms_one w who
  have hL := h.below B1
  have O1 : Off b w W1 := Off.of_below B1
  have hR := refuseGood_calls W1 hL good n w.heap.size [who] 1 X1 (by simp) (by simp)
  rw [show ([who] : List Int).length = 1 from rfl] at hR
  have HO : Hid _ := hr
  clear hr
  have c0 : W1.cell? ⟨p, 0, none⟩ = some (.slice (some ⟨b, 0, none⟩) l.length l.length) := hL.blk.cell rfl
  have hlen := h.inv.len
  by_cases he : refG g l.length good n [who] = 0
  · rw [he] at hR
    obtain ⟨he1, q, rfl, hqg⟩ := refG_ok he
    obtain ⟨i, rfl, hi, hn1, hn2⟩ := refE_one he1
    have hg4 := h.inv.g4
    have pt := partG q (by omega)
    clear he1
    have hbody : r = outR l i (2 + q) (6 + q) n := by
      have := HO.out
      rw [he] at this
      unfold gate at this
      rw [if_pos rfl] at this
      rw [← this]
      simp
    have z := h.inv.le pt hi
    have nx := hL.numG hi (show q < 4 by omega)
    have ny := hL.numL hi (show q < 4 by omega)
    have fx : W1.frozen? ⟨b, i * 12 + 2 + q, none⟩ = false := hL.row.frozen
    by_cases hq : (kAt l i).n (2 + q) - (kAt l i).n (6 + q) < n
    · have hres : r = (61, l) := by rw [hbody]; unfold outR; rw [if_pos hq]
      have HE : Hid _ := hres
      clear hbody hres HO he
      generalize (kAt l i).n (2 + q) = x at *
      generalize (kAt l i).n (6 + q) = y at *
      have hd : decide (x - y < n) = true := decide_eq_true hq
      go_enter Tryd.func28, Tryd.ntmps28
      go_wp2_with fail
      refine hR.mono ?_
      rintro e w1 ⟨rfl, rfl⟩
      go_wp2
      repeat (go_region; go_wp2)
      go_ret
      rw [HE.out]
      first | exact ⟨rfl, hL, O1⟩ | exact ⟨rfl, hL.drew, O1.drew⟩ | exact ⟨rfl, hL.drew.drew, O1.drew.drew⟩
    · have hres : r = (0, upd l i (2 + q) ((kAt l i).n (2 + q) - n)) := by rw [hbody]; unfold outR; rw [if_neg hq]
      have HE : Hid _ := hres
      clear hbody hres HO he
      have hv : Inv g (upd l i (2 + q) ((kAt l i).n (2 + q) - n)) := h.inv.subA pt (by omega) hi (by omega) (by omega)
      obtain ⟨W2, hW2, L2, O2⟩ : ∃ W2, W1.setCell ⟨b, i * 12 + 2 + q, none⟩ (.int .i64 ((kAt l i).n (2 + q) - n)) = W2 ∧ Lg W2 p b g (upd l i (2 + q) ((kAt l i).n (2 + q) - n)) ∧ Off b w W2 := ⟨_, rfl, hL.setG _ hi (show q < 4 by omega) hv, O1.setCell (p := ⟨b, i * 12 + 2 + q, none⟩) rfl _⟩
      have HL2 : Hid _ := L2
      clear hv L2
      generalize hx : (kAt l i).n (2 + q) = x at *
      generalize hy : (kAt l i).n (6 + q) = y at *
      have HX : Hid _ := hx
      have HY : Hid _ := hy
      clear hx hy
      have hd : decide (x - y < n) = false := decide_eq_false hq
      go_enter Tryd.func28, Tryd.ntmps28
      go_wp2_with fail
      refine hR.mono ?_
      rintro e w1 ⟨rfl, rfl⟩
      go_wp2
      repeat (go_region; go_wp2)
      go_ret
      rw [HE.out]
      first | exact ⟨rfl, HL2.out, O2⟩ | exact ⟨rfl, HL2.out.drew, O2.drew⟩ | exact ⟨rfl, HL2.out.drew.drew, O2.drew.drew⟩
  · have hres : r = (refG g l.length good n [who], l) := by
      have := HO.out
      unfold gate at this
      rw [if_neg he] at this
      exact this.symm
    have HE : Hid _ := hres
    clear hres HO
    generalize refG g l.length good n [who] = z at *
    have hb0 : (z == 0) = false := by simpa using he
    go_enter Tryd.func28, Tryd.ntmps28
    go_wp2_with fail
    refine hR.mono ?_
    rintro e w1 ⟨rfl, rfl⟩
    go_wp2
    go_ret
    rw [HE.out]
    exact ⟨rfl, hL, O1⟩

set_option maxRecDepth 100000 in
set_option maxHeartbeats 1000000 in
theorem lock_calls (w : World) (h : Lg w p b g l) (who good n : Int) (r : Int × List Kt) (hr : gate (refG g l.length good n [who]) l (keepR l who.toNat (2 + good.toNat) (6 + good.toNat) n) = r) :
    Calls Tryd.prog 31 #[.pointer (some ⟨p, 0, none⟩), .int .i64 who, .int .i64 good, .int .i64 n] w fun e w' => e = .returned (.int .i64 r.1) ∧ Lg w' p b g r.2 ∧ Off b w w' := by
  obtain ⟨W1, hW1, X1, B1, Z1⟩ := nms_one w who
  have hL := h.below B1
  have O1 : Off b w W1 := Off.of_below B1
  have hR := refuseGood_calls W1 hL good n w.heap.size [who] 1 X1 (by simp) (by simp)
  rw [show ([who] : List Int).length = 1 from rfl] at hR
  have HO : Hid _ := hr
  clear hr
  have c0 : W1.cell? ⟨p, 0, none⟩ = some (.slice (some ⟨b, 0, none⟩) l.length l.length) := hL.blk.cell rfl
  have hlen := h.inv.len
  by_cases he : refG g l.length good n [who] = 0
  · rw [he] at hR
    obtain ⟨he1, q, rfl, hqg⟩ := refG_ok he
    obtain ⟨i, rfl, hi, hn1, hn2⟩ := refE_one he1
    have hg4 := h.inv.g4
    have pt := partG q (by omega)
    clear he1
    have hbody : r = keepR l i (2 + q) (6 + q) n := by
      have := HO.out
      rw [he] at this
      unfold gate at this
      rw [if_pos rfl] at this
      rw [← this]
      simp
    have z := h.inv.le pt hi
    have nx := hL.numG hi (show q < 4 by omega)
    have ny := hL.numL hi (show q < 4 by omega)
    have fx : W1.frozen? ⟨b, i * 12 + 6 + q, none⟩ = false := hL.row.frozen
    by_cases hq : (kAt l i).n (2 + q) - (kAt l i).n (6 + q) < n
    · have hres : r = (61, l) := by rw [hbody]; unfold keepR; rw [if_pos hq]
      have HE : Hid _ := hres
      clear hbody hres HO he
      generalize (kAt l i).n (2 + q) = x at *
      generalize (kAt l i).n (6 + q) = y at *
      have hd : decide (x - y < n) = true := decide_eq_true hq
      go_enter Tryd.func31, Tryd.ntmps31
      go_wp2_with fail
      refine hR.mono ?_
      rintro e w1 ⟨rfl, rfl⟩
      go_wp2
      repeat (go_region; go_wp2)
      go_ret
      rw [HE.out]
      first | exact ⟨rfl, hL, O1⟩ | exact ⟨rfl, hL.drew, O1.drew⟩ | exact ⟨rfl, hL.drew.drew, O1.drew.drew⟩
    · have hres : r = (0, upd l i (6 + q) ((kAt l i).n (6 + q) + n)) := by rw [hbody]; unfold keepR; rw [if_neg hq]
      have HE : Hid _ := hres
      clear hbody hres HO he
      have hv : Inv g (upd l i (6 + q) ((kAt l i).n (6 + q) + n)) := h.inv.setH pt hi (by omega) (by omega)
      obtain ⟨W2, hW2, L2, O2⟩ : ∃ W2, W1.setCell ⟨b, i * 12 + 6 + q, none⟩ (.int .i64 ((kAt l i).n (6 + q) + n)) = W2 ∧ Lg W2 p b g (upd l i (6 + q) ((kAt l i).n (6 + q) + n)) ∧ Off b w W2 := ⟨_, rfl, hL.setL _ hi (show q < 4 by omega) hv, O1.setCell (p := ⟨b, i * 12 + 6 + q, none⟩) rfl _⟩
      have HL2 : Hid _ := L2
      clear hv L2
      generalize hx : (kAt l i).n (2 + q) = x at *
      generalize hy : (kAt l i).n (6 + q) = y at *
      have HX : Hid _ := hx
      have HY : Hid _ := hy
      clear hx hy
      have hd : decide (x - y < n) = false := decide_eq_false hq
      go_enter Tryd.func31, Tryd.ntmps31
      go_wp2_with fail
      refine hR.mono ?_
      rintro e w1 ⟨rfl, rfl⟩
      go_wp2
      repeat (go_region; go_wp2)
      go_ret
      rw [HE.out]
      first | exact ⟨rfl, HL2.out, O2⟩ | exact ⟨rfl, HL2.out.drew, O2.drew⟩ | exact ⟨rfl, HL2.out.drew.drew, O2.drew.drew⟩
  · have hres : r = (refG g l.length good n [who], l) := by
      have := HO.out
      unfold gate at this
      rw [if_neg he] at this
      exact this.symm
    have HE : Hid _ := hres
    clear hres HO
    generalize refG g l.length good n [who] = z at *
    have hb0 : (z == 0) = false := by simpa using he
    go_enter Tryd.func31, Tryd.ntmps31
    go_wp2_with fail
    refine hR.mono ?_
    rintro e w1 ⟨rfl, rfl⟩
    go_wp2
    go_ret
    rw [HE.out]
    exact ⟨rfl, hL, O1⟩

set_option maxRecDepth 100000 in
set_option maxHeartbeats 1000000 in
theorem unlock_calls (w : World) (h : Lg w p b g l) (who good n : Int) (r : Int × List Kt) (hr : gate (refG g l.length good n [who]) l (looseR l who.toNat (6 + good.toNat) n) = r) :
    Calls Tryd.prog 32 #[.pointer (some ⟨p, 0, none⟩), .int .i64 who, .int .i64 good, .int .i64 n] w fun e w' => e = .returned (.int .i64 r.1) ∧ Lg w' p b g r.2 ∧ Off b w w' := by
  obtain ⟨W1, hW1, X1, B1, Z1⟩ := nms_one w who
  have hL := h.below B1
  have O1 : Off b w W1 := Off.of_below B1
  have hR := refuseGood_calls W1 hL good n w.heap.size [who] 1 X1 (by simp) (by simp)
  rw [show ([who] : List Int).length = 1 from rfl] at hR
  have HO : Hid _ := hr
  clear hr
  have c0 : W1.cell? ⟨p, 0, none⟩ = some (.slice (some ⟨b, 0, none⟩) l.length l.length) := hL.blk.cell rfl
  have hlen := h.inv.len
  by_cases he : refG g l.length good n [who] = 0
  · rw [he] at hR
    obtain ⟨he1, q, rfl, hqg⟩ := refG_ok he
    obtain ⟨i, rfl, hi, hn1, hn2⟩ := refE_one he1
    have hg4 := h.inv.g4
    have pt := partG q (by omega)
    clear he1
    have hbody : r = looseR l i (6 + q) n := by
      have := HO.out
      rw [he] at this
      unfold gate at this
      rw [if_pos rfl] at this
      rw [← this]
      simp
    have z := h.inv.le pt hi
    have nx := hL.numG hi (show q < 4 by omega)
    have ny := hL.numL hi (show q < 4 by omega)
    have fx : W1.frozen? ⟨b, i * 12 + 6 + q, none⟩ = false := hL.row.frozen
    by_cases hq : (kAt l i).n (6 + q) < n
    · have hres : r = (61, l) := by rw [hbody]; unfold looseR; rw [if_pos hq]
      have HE : Hid _ := hres
      clear hbody hres HO he
      generalize (kAt l i).n (2 + q) = x at *
      generalize (kAt l i).n (6 + q) = y at *
      have hd : decide (y < n) = true := decide_eq_true hq
      go_enter Tryd.func32, Tryd.ntmps32
      go_wp2_with fail
      refine hR.mono ?_
      rintro e w1 ⟨rfl, rfl⟩
      go_wp2
      repeat (go_region; go_wp2)
      go_ret
      rw [HE.out]
      first | exact ⟨rfl, hL, O1⟩ | exact ⟨rfl, hL.drew, O1.drew⟩ | exact ⟨rfl, hL.drew.drew, O1.drew.drew⟩
    · have hres : r = (0, upd l i (6 + q) ((kAt l i).n (6 + q) - n)) := by rw [hbody]; unfold looseR; rw [if_neg hq]
      have HE : Hid _ := hres
      clear hbody hres HO he
      have hv : Inv g (upd l i (6 + q) ((kAt l i).n (6 + q) - n)) := h.inv.setH pt hi (by omega) (by omega)
      obtain ⟨W2, hW2, L2, O2⟩ : ∃ W2, W1.setCell ⟨b, i * 12 + 6 + q, none⟩ (.int .i64 ((kAt l i).n (6 + q) - n)) = W2 ∧ Lg W2 p b g (upd l i (6 + q) ((kAt l i).n (6 + q) - n)) ∧ Off b w W2 := ⟨_, rfl, hL.setL _ hi (show q < 4 by omega) hv, O1.setCell (p := ⟨b, i * 12 + 6 + q, none⟩) rfl _⟩
      have HL2 : Hid _ := L2
      clear hv L2
      generalize hx : (kAt l i).n (2 + q) = x at *
      generalize hy : (kAt l i).n (6 + q) = y at *
      have HX : Hid _ := hx
      have HY : Hid _ := hy
      clear hx hy
      have hd : decide (y < n) = false := decide_eq_false hq
      go_enter Tryd.func32, Tryd.ntmps32
      go_wp2_with fail
      refine hR.mono ?_
      rintro e w1 ⟨rfl, rfl⟩
      go_wp2
      repeat (go_region; go_wp2)
      go_ret
      rw [HE.out]
      first | exact ⟨rfl, HL2.out, O2⟩ | exact ⟨rfl, HL2.out.drew, O2.drew⟩ | exact ⟨rfl, HL2.out.drew.drew, O2.drew.drew⟩
  · have hres : r = (refG g l.length good n [who], l) := by
      have := HO.out
      unfold gate at this
      rw [if_neg he] at this
      exact this.symm
    have HE : Hid _ := hres
    clear hres HO
    generalize refG g l.length good n [who] = z at *
    have hb0 : (z == 0) = false := by simpa using he
    go_enter Tryd.func32, Tryd.ntmps32
    go_wp2_with fail
    refine hR.mono ?_
    rintro e w1 ⟨rfl, rfl⟩
    go_wp2
    go_ret
    rw [HE.out]
    exact ⟨rfl, hL, O1⟩
end Go.Proofs.YtmcafgmjfgfaeaaDoor
