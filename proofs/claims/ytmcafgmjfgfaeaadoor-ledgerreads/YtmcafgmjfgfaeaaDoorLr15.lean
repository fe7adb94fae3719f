/- Pay and Store: more cash, more of a good. -/
import Derived.Test.YtmcafgmjfgfaeaaDoorLr11
import Derived.Test.YtmcafgmjfgfaeaaDoorLr12
namespace Go.Proofs.YtmcafgmjfgfaeaaDoor
open Go.RowKit
set_option linter.unusedSimpArgs false
set_option linter.unusedVariables false
variable {p b g : Nat} {l : List Kt}

theorem gC_get (f : Nat → Int) (q : Nat) (h : q < 4) : (gC f)[q]? = some (.int .i64 (f (2 + q))) := by
  have : q = 0 ∨ q = 1 ∨ q = 2 ∨ q = 3 := by omega
  rcases this with rfl | rfl | rfl | rfl <;> rfl

set_option maxRecDepth 100000 in
set_option maxHeartbeats 2000000 in
theorem pay_calls (w : World) (h : Lg w p b g l) (who n : Int) (r : Int × List Kt) (hr : gate (refE l.length n [who]) l (inR l who.toNat 0 n) = r) :
    Calls Tryd.prog 25 #[.pointer (some ⟨p, 0, none⟩), .int .i64 who, .int .i64 n] w fun e w' => e = .returned (.int .i64 r.1) ∧ Lg w' p b g r.2 ∧ Off b w w' := by
  obtain ⟨W1, hW1, X1, B1, Z1⟩ := nms_one w who
  have hL := h.below B1
  have O1 : Off b w W1 := Off.of_below B1
  have hR := refuse_calls W1 hL n w.heap.size [who] 1 X1 (by simp) (by simp)
  rw [show ([who] : List Int).length = 1 from rfl] at hR
  have HO : Hid _ := hr
  clear hr
  have hlen := h.inv.len
  by_cases he : refE l.length n [who] = 0
  · rw [he] at hR
    obtain ⟨i, rfl, hi, hn1, hn2⟩ := refE_one he
    have pt := part0
    have hbody : r = inR l i 0 n := by
      have := HO.out
      rw [he] at this
      unfold gate at this
      rw [if_pos rfl] at this
      rw [← this]
      simp
    have z := h.inv.le pt hi
    have t := h.inv.sums l.length (Nat.le_refl _) pt
    rw [List.take_length] at t
    have HTO : Hid _ := totals_calls W1 hL
    have gz : gC (tot l) = #[.int .i64 (tot l 2), .int .i64 (tot l 3), .int .i64 (tot l 4), .int .i64 (tot l 5)] := rfl
    unfold totV at HTO
    rw [gz] at HTO
    by_cases hq : 1099511627776 < tot l 0 + n
    · have hres : r = (62, l) := by rw [hbody]; unfold inR; rw [if_pos hq]
      have HE : Hid _ := hres
      clear hbody hres HO he
      have hd : decide (1099511627776 < tot l 0 + n) = true := decide_eq_true hq
      go_enter Tryd.func25, Tryd.ntmps25
      go_wp2_with fail
      refine hR.mono ?_
      rintro e w1 ⟨rfl, rfl⟩
      go_wp2_with fail
      refine Calls.mono HTO.out ?_
      rintro e w2 ⟨rfl, hb2⟩
      obtain ⟨W3, hW3, X3, B3⟩ : ∃ W3, (w2.alloc (.cells #[.int .i64 (tot l 2), .int .i64 (tot l 3), .int .i64 (tot l 4), .int .i64 (tot l 5)] 63)) = W3 ∧ Blk W3 w2.heap.size (gC (tot l)) 63 ∧ Below w2.heap.size w2 W3 := ⟨_, rfl, blk_new _ _ _ _ rfl, by go_grown⟩

      go_wp2
      repeat (go_region; go_wp2)
      go_ret
      rw [HE.out]
      have L3 := (hL.below hb2).below B3
      have O3 : Off b w W3 := (O1.trans (Off.of_below hb2)).trans (Off.of_below B3)
      first | exact ⟨rfl, L3, O3⟩ | exact ⟨rfl, L3.drew, O3.drew⟩ | exact ⟨rfl, L3.drew.drew, O3.drew.drew⟩
    · have hres : r = (0, upd l i 0 ((kAt l i).n 0 + n)) := by rw [hbody]; unfold inR; rw [if_neg hq]
      have HE : Hid _ := hres
      clear hbody hres HO he
      have hv : Inv g (upd l i 0 ((kAt l i).n 0 + n)) := h.inv.addA pt (by omega) hi (by omega) (by omega)
      have hd : decide (1099511627776 < tot l 0 + n) = false := decide_eq_false hq
      go_enter Tryd.func25, Tryd.ntmps25
      go_wp2_with fail
      refine hR.mono ?_
      rintro e w1 ⟨rfl, rfl⟩
      go_wp2_with fail
      refine Calls.mono HTO.out ?_
      rintro e w2 ⟨rfl, hb2⟩
      obtain ⟨W3, hW3, X3, B3⟩ : ∃ W3, (w2.alloc (.cells #[.int .i64 (tot l 2), .int .i64 (tot l 3), .int .i64 (tot l 4), .int .i64 (tot l 5)] 63)) = W3 ∧ Blk W3 w2.heap.size (gC (tot l)) 63 ∧ Below w2.heap.size w2 W3 := ⟨_, rfl, blk_new _ _ _ _ rfl, by go_grown⟩

      have L3 := (hL.below hb2).below B3
      have O3 : Off b w W3 := (O1.trans (Off.of_below hb2)).trans (Off.of_below B3)
      have c0 : W3.cell? ⟨p, 0, none⟩ = some (.slice (some ⟨b, 0, none⟩) l.length l.length) := L3.blk.cell rfl
      have nx := L3.num0 hi
      have fx : W3.frozen? ⟨b, i * 12, none⟩ = false := L3.row.frozen
      obtain ⟨W4, hW4, L4, O4⟩ : ∃ W4, W3.setCell ⟨b, i * 12, none⟩ (.int .i64 ((kAt l i).n 0 + n)) = W4 ∧ Lg W4 p b g (upd l i 0 ((kAt l i).n 0 + n)) ∧ Off b w W4 := ⟨_, rfl, L3.set0 _ hi hv, O3.setCell (p := ⟨b, i * 12, none⟩) rfl _⟩
      have HL4 : Hid _ := L4
      clear hv L4
      generalize hx : (kAt l i).n 0 = x at *
      have HX : Hid _ := hx
      clear hx
      go_wp2
      repeat (go_region; go_wp2)
      go_ret
      rw [HE.out]
      first | exact ⟨rfl, HL4.out, O4⟩ | exact ⟨rfl, HL4.out.drew, O4.drew⟩ | exact ⟨rfl, HL4.out.drew.drew, O4.drew.drew⟩
  · have hres : r = (refE l.length n [who], l) := by
      have := HO.out
      unfold gate at this
      rw [if_neg he] at this
      exact this.symm
    have HE : Hid _ := hres
    clear hres HO
    generalize refE l.length n [who] = z at *
    have hb0 : (z == 0) = false := by simpa using he
    go_enter Tryd.func25, Tryd.ntmps25
    go_wp2_with fail
    refine hR.mono ?_
    rintro e w1 ⟨rfl, rfl⟩
    go_wp2
    go_ret
    rw [HE.out]
    exact ⟨rfl, hL, O1⟩

end Go.Proofs.YtmcafgmjfgfaeaaDoor
