/- The document's ledger and the program's tell the same: like answers true. -/
import Derived.Test.YtmcafgmjfgfaeaaDoorLr39
import Derived.Test.YtmcafgmjfgfaeaaDoorLr33
import Derived.Test.YtmcafgmjfgfaeaaDoorLr11
import Derived.Test.YtmcafgmjfgfaeaaDoorLr17
import Derived.Test.YtmcafgmjfgfaeaaDoorLr40
namespace Go.Proofs.YtmcafgmjfgfaeaaDoor
open Go.RowKit
set_option linter.unusedSimpArgs false
set_option linter.unusedVariables false
variable {g base p b : Nat} {m l : List Kt}

set_option maxRecDepth 100000 in
set_option maxHeartbeats 4000000 in
theorem like_ref (w : World) (v : Value) (h : Lg w p b g l) (hR : Rm w base v m) (S : Sim m l) :
    Calls Tryd.prog 13 #[.pointer (some ⟨p, 0, none⟩), .agg #[.int .i64 g, v]] w fun e w' => e = .returned (.bool true) ∧ Below w.heap.size w w' := by
  have hlen := h.inv.len
  have hpos := h.inv.pos
  have hml := S.len
  obtain ⟨q, cap, rfl, hbq, hq, hcap, hc⟩ := hR.at (by omega)
  have hcell := hc
  rw [hml] at hR hcell
  have HC : Hid (∀ i, i < l.length → (∀ j, j < 11 → w.cell? ⟨q, i * 12 + j, none⟩ = some (.int .i64 ((kAt m i).n j))) ∧ w.cell? ⟨q, i * 12 + 11, none⟩ = some (.string (kAt m i).reply)) := fun i hi => ⟨(hcell i hi).1, (hcell i hi).2.1⟩
  have HTo : Hid (∀ (wx : World) (pt : Int) (p0 : Nat), pt = p0 → p0 ≤ 4 → Below w.heap.size w wx → Calls Tryd.prog 46 #[.agg #[.int .i64 g, .slice (some ⟨q, 0, none⟩) l.length cap], .int .i64 pt] wx fun e w' => e = .returned (.int .i64 (tot l (apf p0))) ∧ Below wx.heap.size wx w') :=
    fun wx pt p0 e hp0 hb => total_ref wx _ pt p0 e (hR.below hb) S h.inv hp0
  have HSh : Hid (∀ i, i < l.length → (∀ p, p ≤ 4 → (kAt m i).n p + (kAt m i).n (5 + p) = (kAt l i).n (apf p) ∧ (kAt m i).n (5 + p) = (kAt l i).n (hpf p) ∧ 0 ≤ (kAt m i).n p ∧ 0 ≤ (kAt m i).n (5 + p) ∧ (kAt l i).n (apf p) ≤ 1099511627776) ∧ (kAt m i).n 10 = (kAt l i).n 10 ∧ (kAt m i).reply = (kAt l i).reply) := fun i hi => by
    refine ⟨fun p hp => ?_, S.stamp i hi, S.reply i hi⟩
    have h1 := S.free i hi p hp
    have h2 := S.kept i hi p hp
    have h3 := h.inv.held i hi _ _ (part_of hp)
    have h4 := h.inv.all _ _ (part_of hp)
    have h5 := tot_le l (apf p) i (h.inv.nn (part_of hp)) hi
    exact ⟨by omega, h2, by omega, by omega, by omega⟩
  rw [hml]
  clear hc hcell hR S hml hcap hbq
  obtain ⟨W0, hW0, X0, B0, Z0⟩ : ∃ W0, (w.alloc (.cells #[.int .i64 g, .slice (some ⟨q, 0, none⟩) l.length cap] 29)) = W0 ∧ Blk W0 w.heap.size (rlA g (.slice (some ⟨q, 0, none⟩) l.length cap)) 29 ∧ Below w.heap.size w W0 ∧ W0.heap.size = w.heap.size + 1 := ⟨_, rfl, blk_new _ _ _ _ rfl, by go_grown, by simp⟩
  have HT : Hid _ := totals_calls W0 (h.below B0)
  unfold totV gC at HT
  go_enter Tryd.func13, Tryd.ntmps13
  go_wp2_with fail
  refine Calls.mono HT.out ?_
  rintro e w1 ⟨rfl, b1⟩
  clear HT
  obtain ⟨W2, hW2, X2, B2⟩ : ∃ W2, (w1.alloc (.cells #[.int .i64 (tot l 2), .int .i64 (tot l 3), .int .i64 (tot l 4), .int .i64 (tot l 5)] 63)) = W2 ∧ Blk W2 w1.heap.size (gC (tot l)) 63 ∧ Below w1.heap.size w1 W2 := ⟨_, rfl, blk_new _ _ _ _ rfl, by go_grown⟩
  have Y2 := (X0.below b1).below B2
  have z0 := B0.size
  have z1 := b1.size
  have z2 := B2.size
  have BB : Below w.heap.size w W2 := (B0.trans (b1.mono z0)).trans (B2.mono (by omega))
  have HB : Hid _ := BB
  have c0 : W2.cell? ⟨w.heap.size, 0, none⟩ = some (.int .i64 g) := Y2.cell rfl
  have c1 : W2.cell? ⟨w.heap.size, 1, none⟩ = some (.slice (some ⟨q, 0, none⟩) l.length cap) := Y2.cell rfl
  clear b1 B2 BB Z0 B0
  go_wp2_with fail
  refine Calls.mono (HTo.out W2 0 0 rfl (by omega) HB.out) ?_
  rintro e w3 ⟨rfl, b3⟩
  have z3 := b3.size
  have ha0 : tot l (apf 0) = tot l 0 := rfl
  have B3 : Below W2.heap.size W2 w3 := b3
  have HY : Hid _ := Y2
  have HX : Hid _ := X2
  clear Y2 X2 c0 c1 hW2 hW0
  go_wp2_with fail
  go_loopw [7] (fun i wr => ∃ j : Nat, j ≤ 4 ∧ i = .int .i64 j ∧ Below W2.heap.size W2 wr) (fun i _ => 4 - (intOf i).toNat)
  case atStart => exact ⟨0, by omega, rfl, B3⟩
  case round =>
    obtain ⟨j, hj, rfl, br⟩ := hrel
    have zr := br.size
    by_cases hlt : j < 4
    · have hd : decide ((j : Int) < 4) = true := by simp only [decide_eq_true_eq]; omega
      have Yr : Blk wr w.heap.size (rlA g (.slice (some ⟨q, 0, none⟩) l.length cap)) 29 := Blk.below HY.out br
      have Xr : Blk wr w1.heap.size (gC (tot l)) 63 := Blk.below HX.out br
      have hne := bw_some wr
      have y0 := fun y : BW wr => y.cell (show wr.cell? ⟨w.heap.size, 0, none⟩ = some (.int .i64 g) from Yr.cell rfl)
      have y1 := fun y : BW wr => y.cell (show wr.cell? ⟨w.heap.size, 1, none⟩ = some (.slice (some ⟨q, 0, none⟩) l.length cap) from Yr.cell rfl)
      have y2 := fun y : BW wr => y.cell (Xr.cell (gC_get (tot l) j hlt))
      have HTj : Hid (∀ y : BW wr, Calls Tryd.prog 46 #[.agg #[.int .i64 g, .slice (some ⟨q, 0, none⟩) l.length cap], .int .i64 ((j : Int) + 1)] y.w fun e w' => e = .returned (.int .i64 (tot l (2 + j))) ∧ Below y.w.heap.size y.w w') := fun y => by
        have := HTo.out y.w ((j : Int) + 1) (j + 1) (by norm_cast) (by omega) ((HB.out.trans (br.mono (by omega))).trans (y.h.mono (by omega)))
        rw [show apf (j + 1) = 2 + j by unfold apf; rw [if_neg (by omega)]; omega] at this
        exact this
      clear Yr Xr
      generalize tot l (2 + j) = tj at *
      go_wp2_with fail
      have hj4 : (j : Int) < 4 := by omega
      have hwr : IntKind.i64.wrap ((j : Int) + 1) = (j : Int) + 1 := by rw [IntKind.wrap_i64]; omega
      refine wp_region_below (by kernel_rfl) (by kernel_rfl) ?_
      repeat (quiet_step (first | (go_at_call 46; exact BW.call _ (HTj.out _))))
      refine wpQuiet_nil ?_
      rintro w4 ⟨⟨_, b4⟩, rfl⟩
      go_wp2_with fail
      refine ⟨⟨j + 1, by omega, by norm_cast, br.trans (b4.mono zr)⟩, ?_⟩
      simp [intOf]; omega
    · have hd : decide ((j : Int) < 4) = false := by simp only [decide_eq_false_iff_not]; omega
      go_wp2_with fail
      go_loopw [8] (fun i wr => ∃ k : Nat, k ≤ l.length ∧ i = .int .i64 k ∧ Below W2.heap.size W2 wr) (fun i _ => l.length - (intOf i).toNat)
      case atStart => exact ⟨0, Nat.zero_le _, rfl, br⟩
      case round =>
        rename_i wo _ _
        clear br zr hd
        obtain ⟨k, hk, rfl, br⟩ := hrel
        have zr := br.size
        have Yr : Blk wr w.heap.size (rlA g (.slice (some ⟨q, 0, none⟩) l.length cap)) 29 := Blk.below HY.out br
        have Br : Below w.heap.size w wr := HB.out.trans (br.mono (by omega))
        have Lr := h.below Br
        have c1 : wr.cell? ⟨w.heap.size, 1, none⟩ = some (.slice (some ⟨q, 0, none⟩) l.length cap) := Yr.cell rfl
        by_cases hkl : k < l.length
        · have hd : decide ((k : Int) < l.length) = true := by simp only [decide_eq_true_eq]; omega
          have hac := account_ok wr Lr k (by omega) (by omega)
          rw [Int.toNat_natCast] at hac
          obtain ⟨cn, cr⟩ := HC.out k hkl
          obtain ⟨hsh, hst, hrp⟩ := HSh.out k hkl
          have hla : ∀ wx, Below w.heap.size w wx → _ := fun wx hb => last_ok wx (h.below hb) k (by omega) (by omega)
          rw [Int.toNat_natCast] at hla
          have hsw := fun wx => shown_ref (kAt l k) (kAt m k) wx hsh
          generalize kAt l k = ka at *
          generalize kAt m k = km at *
          have hv : (Value.agg km.cells.toArray) = .agg #[.int .i64 (km.n 0), .int .i64 (km.n 1), .int .i64 (km.n 2), .int .i64 (km.n 3), .int .i64 (km.n 4), .int .i64 (km.n 5), .int .i64 (km.n 6), .int .i64 (km.n 7), .int .i64 (km.n 8), .int .i64 (km.n 9), .int .i64 (km.n 10), .string km.reply] := rfl
          rw [hv, hst, hrp] at hsw
          have hEq := fun wx => eqAcc wx ka ka
          rw [accEq_self] at hEq
          unfold accV accA at hac hsw
          unfold accA at hEq
          have HAC : Hid _ := hac
          have HLA : Hid _ := hla
          have HSW : Hid _ := hsw
          have HCN : Hid _ := cn
          have HCR : Hid _ := cr
          have HST : Hid _ := hst
          have HRP : Hid _ := hrp
          clear hac hla hsw cn cr hst hrp hsh hv
          go_wp2_with fail
          refine Calls.mono HAC.out ?_
          rintro e w4 ⟨rfl, b4⟩
          clear HAC
          obtain ⟨W5, hW5, X5, B5⟩ : ∃ W5, (w4.alloc (.cells #[.int .i64 (ka.n 0), .int .i64 (ka.n 1), .int .i64 (ka.n 2), .int .i64 (ka.n 3), .int .i64 (ka.n 4), .int .i64 (ka.n 5), .int .i64 (ka.n 6), .int .i64 (ka.n 7), .int .i64 (ka.n 8), .int .i64 (ka.n 9)] 65)) = W5 ∧ Blk W5 w4.heap.size #[.int .i64 (ka.n 0), .int .i64 (ka.n 1), .int .i64 (ka.n 2), .int .i64 (ka.n 3), .int .i64 (ka.n 4), .int .i64 (ka.n 5), .int .i64 (ka.n 6), .int .i64 (ka.n 7), .int .i64 (ka.n 8), .int .i64 (ka.n 9)] 65 ∧ Below w4.heap.size w4 W5 := ⟨_, rfl, blk_new _ _ _ _ rfl, by go_grown⟩
          have z4 := b4.size
          have z5 := B5.size
          have zw := Br.size
          have Br5 : Below wr.heap.size wr W5 := b4.trans (B5.mono z4)
          have Bw5 : Below w.heap.size w W5 := Br.trans (Br5.mono zw)
          clear b4 B5
          go_wp2_with fail
          refine Calls.mono (HLA.out W5 Bw5) ?_
          rintro e w6 ⟨rfl, b6⟩
          have z6 := b6.size
          have Br6 : Below wr.heap.size wr w6 := Br5.trans (b6.mono (by omega))
          have Bw6 : Below w.heap.size w w6 := Br.trans (Br6.mono zw)
          have Y6 : Blk w6 w.heap.size (rlA g (.slice (some ⟨q, 0, none⟩) l.length cap)) 29 := Blk.below Yr Br6
          have X6 := X5.below b6
          have hne := bw_some w6
          have y1 := fun y : BW w6 => y.cell (show w6.cell? ⟨w.heap.size, 1, none⟩ = some (.slice (some ⟨q, 0, none⟩) l.length cap) from Y6.cell rfl)
          have a0 := fun y : BW w6 => y.cell (show w6.cell? ⟨w4.heap.size, 0, none⟩ = some (.int .i64 (ka.n 0)) from X6.cell rfl)
          have a1 := fun y : BW w6 => y.cell (show w6.cell? ⟨w4.heap.size, 1, none⟩ = some (.int .i64 (ka.n 1)) from X6.cell rfl)
          have a2 := fun y : BW w6 => y.cell (show w6.cell? ⟨w4.heap.size, 2, none⟩ = some (.int .i64 (ka.n 2)) from X6.cell rfl)
          have a3 := fun y : BW w6 => y.cell (show w6.cell? ⟨w4.heap.size, 3, none⟩ = some (.int .i64 (ka.n 3)) from X6.cell rfl)
          have a4 := fun y : BW w6 => y.cell (show w6.cell? ⟨w4.heap.size, 4, none⟩ = some (.int .i64 (ka.n 4)) from X6.cell rfl)
          have a5 := fun y : BW w6 => y.cell (show w6.cell? ⟨w4.heap.size, 5, none⟩ = some (.int .i64 (ka.n 5)) from X6.cell rfl)
          have a6 := fun y : BW w6 => y.cell (show w6.cell? ⟨w4.heap.size, 6, none⟩ = some (.int .i64 (ka.n 6)) from X6.cell rfl)
          have a7 := fun y : BW w6 => y.cell (show w6.cell? ⟨w4.heap.size, 7, none⟩ = some (.int .i64 (ka.n 7)) from X6.cell rfl)
          have a8 := fun y : BW w6 => y.cell (show w6.cell? ⟨w4.heap.size, 8, none⟩ = some (.int .i64 (ka.n 8)) from X6.cell rfl)
          have a9 := fun y : BW w6 => y.cell (show w6.cell? ⟨w4.heap.size, 9, none⟩ = some (.int .i64 (ka.n 9)) from X6.cell rfl)
          have r0 := fun y : BW w6 => y.cell (show w6.cell? ⟨q, k * 12, none⟩ = some (.int .i64 (km.n 0)) from (Bw6.cell (p := ⟨q, k * 12 + 0, none⟩) hq).trans (HCN.out 0 (by omega)))
          have r1 := fun y : BW w6 => y.cell (show w6.cell? ⟨q, k * 12 + 1, none⟩ = some (.int .i64 (km.n 1)) from (Bw6.cell (p := ⟨q, k * 12 + 1, none⟩) hq).trans (HCN.out 1 (by omega)))
          have r2 := fun y : BW w6 => y.cell (show w6.cell? ⟨q, k * 12 + 2, none⟩ = some (.int .i64 (km.n 2)) from (Bw6.cell (p := ⟨q, k * 12 + 2, none⟩) hq).trans (HCN.out 2 (by omega)))
          have r3 := fun y : BW w6 => y.cell (show w6.cell? ⟨q, k * 12 + 3, none⟩ = some (.int .i64 (km.n 3)) from (Bw6.cell (p := ⟨q, k * 12 + 3, none⟩) hq).trans (HCN.out 3 (by omega)))
          have r4 := fun y : BW w6 => y.cell (show w6.cell? ⟨q, k * 12 + 4, none⟩ = some (.int .i64 (km.n 4)) from (Bw6.cell (p := ⟨q, k * 12 + 4, none⟩) hq).trans (HCN.out 4 (by omega)))
          have r5 := fun y : BW w6 => y.cell (show w6.cell? ⟨q, k * 12 + 5, none⟩ = some (.int .i64 (km.n 5)) from (Bw6.cell (p := ⟨q, k * 12 + 5, none⟩) hq).trans (HCN.out 5 (by omega)))
          have r6 := fun y : BW w6 => y.cell (show w6.cell? ⟨q, k * 12 + 6, none⟩ = some (.int .i64 (km.n 6)) from (Bw6.cell (p := ⟨q, k * 12 + 6, none⟩) hq).trans (HCN.out 6 (by omega)))
          have r7 := fun y : BW w6 => y.cell (show w6.cell? ⟨q, k * 12 + 7, none⟩ = some (.int .i64 (km.n 7)) from (Bw6.cell (p := ⟨q, k * 12 + 7, none⟩) hq).trans (HCN.out 7 (by omega)))
          have r8 := fun y : BW w6 => y.cell (show w6.cell? ⟨q, k * 12 + 8, none⟩ = some (.int .i64 (km.n 8)) from (Bw6.cell (p := ⟨q, k * 12 + 8, none⟩) hq).trans (HCN.out 8 (by omega)))
          have r9 := fun y : BW w6 => y.cell (show w6.cell? ⟨q, k * 12 + 9, none⟩ = some (.int .i64 (km.n 9)) from (Bw6.cell (p := ⟨q, k * 12 + 9, none⟩) hq).trans (HCN.out 9 (by omega)))
          have r10 := fun y : BW w6 => y.cell (show w6.cell? ⟨q, k * 12 + 10, none⟩ = some (.int .i64 (ka.n 10)) from by rw [← HST.out]; exact (Bw6.cell (p := ⟨q, k * 12 + 10, none⟩) hq).trans (HCN.out 10 (by omega)))
          have r11 := fun y : BW w6 => y.cell (show w6.cell? ⟨q, k * 12 + 11, none⟩ = some (.string ka.reply) from by rw [← HRP.out]; exact (Bw6.cell (p := ⟨q, k * 12 + 11, none⟩) hq).trans HCR.out)
          have HB6 : Hid _ := Br6
          clear Yr Lr c1 hW5 X5 X6 Y6 Br5 Bw5 Bw6 Br6 b6 HCN HCR HST HRP HLA Br
          go_wp2_with fail
          refine wp_region_below (by kernel_rfl) (by kernel_rfl) ?_
          repeat (quiet_step (first | (go_at_call 49; exact BW.call _ (HSW.out _))))
          refine wpQuiet_nil ?_
          rintro w7 ⟨⟨_, b7⟩, rfl⟩
          have z7 := HB6.out.size
          go_wp2_with fail
          refine ⟨⟨k + 1, by omega, by norm_cast, (br.trans (HB6.out.mono zr)).trans (b7.mono (by omega))⟩, ?_⟩
          simp [intOf]; omega
        · have hd : decide ((k : Int) < l.length) = false := by simp only [decide_eq_false_iff_not]; omega
          obtain ⟨kz, hkz⟩ : ∃ kz, Kt.zero = kz := ⟨_, rfl⟩
          have hab := account_bad wr Lr (-1) (by omega)
          have hae : ∀ wx, Below w.heap.size w wx → _ := fun wx hb => account_bad wx (h.below hb) k (by omega)
          rw [hkz] at hab hae
          have hkk : k = l.length := by omega
          rw [hkk] at hae
          have HA : Hid _ := hab
          have HE : Hid _ := hae
          unfold accV accA at HA HE
          clear hab hae hkz hkk
          go_wp2_with fail
          refine Calls.mono HA.out ?_
          rintro e w4 ⟨rfl, b4⟩
          clear HA
          obtain ⟨W5, hW5, B5⟩ : ∃ W5, (w4.alloc (.cells #[.int .i64 (kz.n 0), .int .i64 (kz.n 1), .int .i64 (kz.n 2), .int .i64 (kz.n 3), .int .i64 (kz.n 4), .int .i64 (kz.n 5), .int .i64 (kz.n 6), .int .i64 (kz.n 7), .int .i64 (kz.n 8), .int .i64 (kz.n 9)] 65)) = W5 ∧ Below w4.heap.size w4 W5 := ⟨_, rfl, by go_grown⟩
          have z4 := b4.size
          have z5 := B5.size
          have zw := Br.size
          have Br5 : Below wr.heap.size wr W5 := b4.trans (B5.mono z4)
          have Bw5 : Below w.heap.size w W5 := Br.trans (Br5.mono zw)
          have Y5 : Blk W5 w.heap.size (rlA g (.slice (some ⟨q, 0, none⟩) l.length cap)) 29 := Blk.below Yr Br5
          have e1 : W5.cell? ⟨w.heap.size, 1, none⟩ = some (.slice (some ⟨q, 0, none⟩) l.length cap) := Y5.cell rfl
          clear b4 B5 c1
          go_wp2_with fail
          refine Calls.mono (HE.out W5 Bw5) ?_
          rintro e w6 ⟨rfl, b6⟩
          obtain ⟨W7, hW7, B7⟩ : ∃ W7, (w6.alloc (.cells #[.int .i64 (kz.n 0), .int .i64 (kz.n 1), .int .i64 (kz.n 2), .int .i64 (kz.n 3), .int .i64 (kz.n 4), .int .i64 (kz.n 5), .int .i64 (kz.n 6), .int .i64 (kz.n 7), .int .i64 (kz.n 8), .int .i64 (kz.n 9)] 65)) = W7 ∧ Below w6.heap.size w6 W7 := ⟨_, rfl, by go_grown⟩
          have z6 := b6.size
          have zw5 := Bw5.size
          go_wp2
          go_ret
          exact ⟨rfl, (Bw5.trans (b6.mono zw5)).trans (B7.mono (by omega))⟩
end Go.Proofs.YtmcafgmjfgfaeaaDoor
