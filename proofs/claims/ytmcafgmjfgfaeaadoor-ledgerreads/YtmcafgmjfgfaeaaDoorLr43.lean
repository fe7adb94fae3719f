/- The document's records of a ledger are the program's. -/
import Derived.Test.YtmcafgmjfgfaeaaDoorLr34
import Derived.Test.YtmcafgmjfgfaeaaDoorLr28
import Derived.Test.YtmcafgmjfgfaeaaDoorLr42
import Derived.Test.YtmcafgmjfgfaeaaDoorLr40
import Derived.Deep.RegionHeld
import Derived.Deep.DeepCutAuto
import Derived.Deep.CutBlock
namespace Go.Proofs.YtmcafgmjfgfaeaaDoor
open Go.RowKit
set_option linter.unusedSimpArgs false
set_option linter.unusedVariables false
variable {g base p b : Nat} {m l : List Kt}

theorem catL (a b : List UInt8) : (⟨a.toArray⟩ : ByteArray) ++ (⟨b.toArray⟩ : ByteArray) = ⟨(a ++ b).toArray⟩ := by
  apply ByteArray.ext
  simp [ByteArray.data_append]
theorem two_own (w : World) (a b : Int) (ha : 0 ≤ a ∧ a < 256) (hb : 0 ≤ b ∧ b < 256) : (convert 92 9 (.slice (some ⟨w.heap.size, 0, none⟩) 2 2)).run Tryd.prog (w.alloc (.cells #[.int .u8 a, .int .u8 b] 5)) = .ok (.string ⟨#[UInt8.ofNat a.toNat, UInt8.ofNat b.toNat]⟩) (w.alloc (.cells #[.int .u8 a, .int .u8 b] 5)) := by
  have e : Lib.byteCells [UInt8.ofNat a.toNat, UInt8.ofNat b.toNat] = [.int .u8 a, .int .u8 b] := by
    have h1 : ((UInt8.ofNat a.toNat).toNat : Int) = a := by simp [UInt8.toNat_ofNat']; omega
    have h2 : ((UInt8.ofNat b.toNat).toNat : Int) = b := by simp [UInt8.toNat_ofNat']; omega
    simp [Lib.byteCells]
    omega
  refine own_convert (base := w.heap.size) (n := 2) (l := [UInt8.ofNat a.toNat, UInt8.ofNat b.toNat]) ?_
  rw [e]
  exact ⟨rfl, Or.inr ⟨w.heap.size, 2, #[.int .u8 a, .int .u8 b], rfl, Nat.le_refl _, blk_new _ _ _ _ rfl, by omega, by unfold maxLen; omega, rfl, rfl⟩⟩
set_option maxRecDepth 100000 in
set_option maxHeartbeats 2000000 in
theorem key_ref (i : Nat) (w : World) (h : i < 16) : Calls Tryd.prog 40 #[.int .i64 i] w fun e w' => e = .returned (.string (keyB i)) ∧ Below w.heap.size w w' := by
  have hcv := fun a b => two_own w a b
  have : i = 0 ∨ i = 1 ∨ i = 2 ∨ i = 3 ∨ i = 4 ∨ i = 5 ∨ i = 6 ∨ i = 7 ∨ i = 8 ∨ i = 9 ∨ i = 10 ∨ i = 11 ∨ i = 12 ∨ i = 13 ∨ i = 14 ∨ i = 15 := by omega
  rcases this with rfl | rfl | rfl | rfl | rfl | rfl | rfl | rfl | rfl | rfl | rfl | rfl | rfl | rfl | rfl | rfl
  all_goals
    go_enter Tryd.func40, Tryd.ntmps40
    go_wp2
    go_ret
    exact ⟨rfl, by go_grown⟩

theorem encs_append (a b : List Int) : encs (a ++ b) = encs a ++ encs b := by unfold encs; rw [List.flatMap_append]
theorem encs_range (f : Nat → Int) (j : Nat) : encs ((List.range (j + 1)).map f) = encs ((List.range j).map f) ++ enc (f j).toNat := by
  rw [List.range_succ, List.map_append, encs_append]; simp [encs]
theorem own_weak {w : World} {b1 b2 : Nat} {e : TypeId} {sz : Nat} {v : Value} {n : Nat} {xs : List Value} (h : w.ownsRow b1 e sz v n xs) (hb : b2 ≤ b1) : w.ownsRow b2 e sz v n xs := by
  refine ⟨h.1, ?_⟩
  rcases h.2 with h2 | ⟨q, cap, cur, h1, h2, h3⟩
  · exact Or.inl h2
  · exact Or.inr ⟨q, cap, cur, h1, by omega, h3⟩
set_option maxRecDepth 100000 in
set_option maxHeartbeats 8000000 in
theorem records_ref (w : World) (v : Value) (hR : Rm w base v m) (S : Sim m l) (H : Inv g l) :
    Calls Tryd.prog 11 #[.agg #[.int .i64 g, v]] w fun e w' => ∃ u, e = .returned u ∧ w'.ownsRow w.heap.size 71 2 u l.length (rcCells (recs g l)) ∧ Below w.heap.size w w' := by
  obtain ⟨i0, hi, hz0, hz1, hz2⟩ := info_parts infoRcL
  have hlen := H.len
  have hpos := H.pos
  have hg4 := H.g4
  have hml := S.len
  obtain ⟨q, cap, rfl, hbq, hq, hcap, hc⟩ := hR.at (by omega)
  have HC : Hid (∀ i, i < l.length → (∀ j, j < 11 → w.cell? ⟨q, i * 12 + j, none⟩ = some (.int .i64 ((kAt m i).n j))) ∧ w.cell? ⟨q, i * 12 + 11, none⟩ = some (.string (kAt m i).reply)) := fun i hi => ⟨(hc i (by omega)).1, (hc i (by omega)).2.1⟩
  have HSh : Hid (∀ i, i < l.length → (∀ p, p ≤ 4 → (kAt m i).n p + (kAt l i).n (hpf p) = (kAt l i).n (apf p) ∧ (kAt m i).n (5 + p) = (kAt l i).n (hpf p) ∧ 0 ≤ (kAt l i).n (hpf p) ∧ 0 ≤ (kAt l i).n (apf p) ∧ (kAt l i).n (hpf p) ≤ 1099511627776 ∧ (kAt l i).n (apf p) ≤ 1099511627776) ∧ (kAt m i).n 10 = (kAt l i).n 10 ∧ (kAt m i).reply = (kAt l i).reply ∧ 0 ≤ (kAt l i).n 10 ∧ (kAt l i).n 10 ≤ 1099511627776 ∧ (kAt l i).reply.size ≤ 256) := fun i hi => by
    refine ⟨fun p hp => ?_, S.stamp i hi, S.reply i hi, (H.stamp i hi).1, (H.stamp i hi).2, H.reply i hi⟩
    have h1 := S.free i hi p hp
    have h2 := S.kept i hi p hp
    have h3 := H.held i hi _ _ (part_of hp)
    have h4 := H.all _ _ (part_of hp)
    have h5 := tot_le l (apf p) i (H.nn (part_of hp)) hi
    exact ⟨by omega, h2, by omega, by omega, by omega, by omega⟩
  rw [hml]
  clear hc hR S hml hcap hbq H
  obtain ⟨W0, hW0, X0, B0, Z0⟩ : ∃ W0, (w.alloc (.cells #[.int .i64 g, .slice (some ⟨q, 0, none⟩) l.length cap] 29)) = W0 ∧ Blk W0 w.heap.size (rlA g (.slice (some ⟨q, 0, none⟩) l.length cap)) 29 ∧ Below w.heap.size w W0 ∧ W0.heap.size = w.heap.size + 1 := ⟨_, rfl, blk_new _ _ _ _ rfl, by go_grown, by simp⟩
  have HZ0 : Hid _ := Z0
  clear Z0
  go_enter Tryd.func11, Tryd.ntmps11
  go_wp2_with fail
  go_loopw [3, 4] (fun u i wr => ∃ k : Nat, k ≤ l.length ∧ i = .int .i64 k ∧ wr.ownsRow (w.heap.size + 1) 71 2 u k (rcCells (recsN g l k)) ∧ Blk wr w.heap.size (rlA g (.slice (some ⟨q, 0, none⟩) l.length cap)) 29 ∧ Below w.heap.size w wr ∧ w.heap.size + 1 ≤ wr.heap.size) (fun _ i _ => l.length - (intOf i).toNat)
  case atStart => exact ⟨0, Nat.zero_le _, rfl, World.ownsRow_nil _ _ _ _, X0, B0, by have := HZ0.out; omega⟩
  case round =>
    clear hW0 X0 B0 HZ0
    obtain ⟨k, hk, rfl, ho, Yr, hb, hwz⟩ := hrel
    obtain ⟨w1, rfl⟩ : ∃ w1, w1 = wr := ⟨wr, rfl⟩
    have hbz := hb.size
    have y0 : w1.cell? ⟨w.heap.size, 0, none⟩ = some (.int .i64 g) := Yr.cell rfl
    have y1 : w1.cell? ⟨w.heap.size, 1, none⟩ = some (.slice (some ⟨q, 0, none⟩) l.length cap) := Yr.cell rfl
    by_cases hlt : k < l.length
    · have hd : decide ((k : Int) < l.length) = true := by simp only [decide_eq_true_eq]; omega
      obtain ⟨cn, cr⟩ := HC.out k hlt
      obtain ⟨hsh, hst, hrp, st0, st1, rsz⟩ := HSh.out k hlt
      have hrn := recsN_succ g l k
      unfold recOf at hrn
      have hvb : ∀ kk : Kt, valB kk g = encs [kk.n 10, kk.n 0, kk.n 1] ++ encs ((List.range g).map fun i => kk.n (2 + i)) ++ encs ((List.range g).map fun i => kk.n (6 + i)) ++ (enc kk.reply.size ++ kk.reply.data.toList) := fun _ => rfl
      rw [hvb] at hrn
      have m0 := keepCell hb (cn 0 (by omega)) hq
      have m1 := keepCell hb (cn 1 (by omega)) hq
      have m2 := keepCell hb (cn 2 (by omega)) hq
      have m3 := keepCell hb (cn 3 (by omega)) hq
      have m4 := keepCell hb (cn 4 (by omega)) hq
      have m5 := keepCell hb (cn 5 (by omega)) hq
      have m6 := keepCell hb (cn 6 (by omega)) hq
      have m7 := keepCell hb (cn 7 (by omega)) hq
      have m8 := keepCell hb (cn 8 (by omega)) hq
      have m9 := keepCell hb (cn 9 (by omega)) hq
      have m10 := keepCell hb (cn 10 (by omega)) hq
      have m11 := keepCell hb cr hq
      rw [Nat.add_zero] at m0
      generalize kAt l k = ka at *
      generalize kAt m k = km at *
      have HRN : Hid _ := hrn
      have HO : Hid _ := ho
      have HY : Hid _ := Yr
      have HSH : Hid _ := hsh
      have HST : Hid _ := hst
      have HRP : Hid _ := hrp
      clear hrn ho Yr hsh hst hrp cn cr hvb
      obtain ⟨W2, hW2, X2, B2, Z2⟩ : ∃ W2, (w1.alloc (.cells #[.int .i64 (km.n 0), .int .i64 (km.n 1), .int .i64 (km.n 2), .int .i64 (km.n 3), .int .i64 (km.n 4), .int .i64 (km.n 5), .int .i64 (km.n 6), .int .i64 (km.n 7), .int .i64 (km.n 8), .int .i64 (km.n 9), .int .i64 (km.n 10), .string km.reply] 50)) = W2 ∧ Blk W2 w1.heap.size km.cells.toArray 50 ∧ Below w1.heap.size w1 W2 ∧ W2.heap.size = w1.heap.size + 1 := ⟨_, rfl, blk_new _ _ _ _ rfl, by go_grown, by simp⟩
      obtain ⟨s1, s2, s3, s4, s5, s6⟩ := HSH.out 0 (by omega)
      have s1' : km.n 0 + ka.n 1 = ka.n 0 := s1
      have s2' : km.n 5 = ka.n 1 := s2
      have s3' : 0 ≤ ka.n 1 := s3
      have s4' : 0 ≤ ka.n 0 := s4
      have s5' : ka.n 1 ≤ 1099511627776 := s5
      have s6' : ka.n 0 ≤ 1099511627776 := s6
      clear s1 s2 s3 s4 s5 s6
      have hnum : ∀ (z : Int), 0 ≤ z → z ≤ 1099511627776 → ∀ wx, Calls Tryd.prog 39 #[.int .i64 z] wx fun e w' => e = .returned (.string ⟨(enc z.toNat).toArray⟩) ∧ Below wx.heap.size wx w' := fun z h0 h1 wx => by
        have := number_ref z.toNat wx (by omega)
        rw [Int.toNat_of_nonneg h0] at this
        exact this
      have HNum : Hid _ := hnum
      clear hnum
      have NA : Hid _ := HNum.out (ka.n 10) st0 st1
      have NB : Hid _ := HNum.out (ka.n 0) s4' s6'
      have NC : Hid _ := HNum.out (ka.n 1) s3' s5'
      have hP : encs [ka.n 10, ka.n 0, ka.n 1] = enc (ka.n 10).toNat ++ enc (ka.n 0).toNat ++ enc (ka.n 1).toNat := by simp [encs]
      have ea := enc_le (ka.n 10).toNat
      have eb := enc_le (ka.n 0).toNat
      have ec := enc_le (ka.n 1).toNat
      generalize enc (ka.n 10).toNat = EA at *
      generalize enc (ka.n 0).toNat = EB at *
      generalize enc (ka.n 1).toNat = EC at *
      have d1 : ¬ 9223372036854775807 < EA.length + EB.length := by omega
      have d2 : ¬ 9223372036854775807 < EA.length + EB.length + EC.length := by omega
      have hwr : IntKind.i64.wrap (km.n 0 + ka.n 1) = ka.n 0 := by rw [s1', IntKind.wrap_i64]; omega
      have HX2 : Hid _ := X2
      have hne := bw_some W2
      have x10 := fun y : BW W2 => y.cell (show W2.cell? ⟨w1.heap.size, 10, none⟩ = some (.int .i64 (ka.n 10)) from by rw [← HST.out]; exact X2.cell rfl)
      have x0 := fun y : BW W2 => y.cell (show W2.cell? ⟨w1.heap.size, 0, none⟩ = some (.int .i64 (km.n 0)) from X2.cell rfl)
      have x5 := fun y : BW W2 => y.cell (show W2.cell? ⟨w1.heap.size, 5, none⟩ = some (.int .i64 (ka.n 1)) from by rw [← s2']; exact X2.cell rfl)
      have HB2 : Hid _ := B2
      have HS1 : Hid _ := s1'
      have HS2 : Hid _ := s2'
      have HP : Hid _ := hP
      clear s1' s2' hP X2 B2
      go_wp2_with fail
      refine wp_region_below (by kernel_rfl) (by kernel_rfl) ?_
      repeat (quiet_step (first
        | (go_at_call_of 39 (Value.int .i64 (ka.n 10)); exact BW.call _ (NA.out _))
        | (go_at_call_of 39 (Value.int .i64 (ka.n 0)); exact BW.call _ (NB.out _))
        | (go_at_call_of 39 (Value.int .i64 (ka.n 1)); exact BW.call _ (NC.out _))))
      refine wpQuiet_nil ?_
      rintro _ ⟨⟨w3, b3⟩, rfl⟩
      simp only [catL]
      clear x10 x0 x5 hne NA NB NC hwr
      generalize hE1 : EA ++ EB = EAB at *
      generalize hE2 : EAB ++ EC = EABC at *
      have hPl : EABC.length ≤ 30 := by rw [← hE2, ← hE1]; simp; omega
      have HE2 : Hid _ := hE2
      clear hE1 hE2 d1 d2
      go_wp2_with fail
      go_loopw [6, 7] (fun s gi wx => ∃ (j : Nat) (L : List UInt8), j ≤ g ∧ gi = .int .i64 ((j : Int) + 1) ∧ s = .string ⟨L.toArray⟩ ∧ L.length ≤ 30 + 10 * j ∧ Hid (L = encs [ka.n 10, ka.n 0, ka.n 1] ++ encs ((List.range j).map fun i => ka.n (2 + i))) ∧ Below W2.heap.size W2 wx) (fun _ gi _ => g + 1 - (intOf gi).toNat)
      case atStart => exact ⟨0, EABC, by omega, rfl, rfl, by omega, by show _ = _; rw [HP.out]; simp [encs], b3⟩
      case round =>
        clear b3
        obtain ⟨j, L, hj, rfl, rfl, hL, HL, br⟩ := hrel
        have zr := br.size
        have Yr : Blk wr w.heap.size (rlA g (.slice (some ⟨q, 0, none⟩) l.length cap)) 29 := Blk.below (Blk.below HY.out HB2.out) br
        have Xr : Blk wr w1.heap.size km.cells.toArray 50 := Blk.below HX2.out br
        have yy0 : wr.cell? ⟨w.heap.size, 0, none⟩ = some (.int .i64 g) := Yr.cell rfl
        by_cases hjg : j < g
        · have hdj : decide ((j : Int) + 1 ≤ g) = true := by simp only [decide_eq_true_eq]; omega
          obtain ⟨t1, t2, t3, t4, t5, t6⟩ := HSH.out (j + 1) (by omega)
          have e1 : apf (j + 1) = 2 + j := by unfold apf; rw [if_neg (by omega)]; omega
          have e2 : hpf (j + 1) = 6 + j := by unfold hpf; rw [if_neg (by omega)]; omega
          rw [e1, e2] at t1
          rw [e2] at t2
          rw [e1] at t4 t6
          rw [e2] at t5
          have N : Hid _ := HNum.out (ka.n (2 + j)) t4 t6
          have HER : Hid _ := encs_range (fun i => ka.n (2 + i)) j
          have ee := enc_le (ka.n (2 + j)).toNat
          generalize enc (ka.n (2 + j)).toNat = E at *
          have hne := bw_some wr
          have a1 := fun y : BW wr => y.cell (show wr.cell? ⟨w1.heap.size, j + 1, none⟩ = some (.int .i64 (km.n (j + 1))) from Xr.cell (by rw [List.getElem?_toArray]; exact Kt.num km (j + 1) (by omega)))
          have a2 := fun y : BW wr => y.cell (show wr.cell? ⟨w1.heap.size, 5 + (j + 1), none⟩ = some (.int .i64 (ka.n (6 + j))) from by rw [← t2]; exact Xr.cell (by rw [List.getElem?_toArray]; exact Kt.num km (5 + (j + 1)) (by omega)))
          have hw : IntKind.i64.wrap (km.n (j + 1) + ka.n (6 + j)) = ka.n (2 + j) := by rw [t1, IntKind.wrap_i64]; omega
          have hj5 : (j : Int) + 1 < 5 := by omega
          have hj0 : (0 : Int) ≤ (j : Int) + 1 := by omega
          have dc : ¬ 9223372036854775807 < L.length + E.length := by omega
          clear Xr Yr t1 t2 e1 e2
          go_wp2_with fail
          refine wp_region_below (by kernel_rfl) (by kernel_rfl) ?_
          repeat (quiet_step (first | (go_at_call 39; exact BW.call _ (N.out _))))
          refine wpQuiet_nil ?_
          rintro _ ⟨⟨w4, b4⟩, rfl⟩
          simp only [catL]
          generalize hLE : L ++ E = LE at *
          have HLE : Hid _ := hLE
          have hLl : LE.length ≤ 30 + 10 * (j + 1) := by rw [← hLE]; simp; omega
          clear hLE
          go_wp2_with fail
          refine ⟨⟨j + 1, LE, by omega, by norm_cast, rfl, hLl, by show _ = _; rw [← HLE.out, HER.out, HL.out]; simp, br.trans (b4.mono zr)⟩, ?_⟩
          simp [intOf]; omega
        · have hdj : decide ((j : Int) + 1 ≤ g) = false := by simp only [decide_eq_false_iff_not]; omega
          have hjg' : j = g := by omega
          have HL2 : Hid (L = encs [ka.n 10, ka.n 0, ka.n 1] ++ encs ((List.range g).map fun i => ka.n (2 + i))) := by rw [← hjg']; exact HL
          have hL70 : L.length ≤ 70 := by omega
          clear HL hL Xr Yr hjg'
          go_wp2_with fail
          go_loopw [6, 8] (fun s gi wx => ∃ (j : Nat) (L' : List UInt8), j ≤ g ∧ gi = .int .i64 ((j : Int) + 1) ∧ s = .string ⟨L'.toArray⟩ ∧ L'.length ≤ 70 + 10 * j ∧ Hid (L' = L ++ encs ((List.range j).map fun i => ka.n (6 + i))) ∧ Below W2.heap.size W2 wx) (fun _ gi _ => g + 1 - (intOf gi).toNat)
          case atStart => exact ⟨0, L, by omega, rfl, rfl, by omega, by show _ = _; simp [encs], br⟩
          case round =>
            clear br zr yy0 hdj hjg hj
            obtain ⟨i, L', hj, rfl, rfl, hL', HL', br⟩ := hrel
            have zr := br.size
            have Yr : Blk wr w.heap.size (rlA g (.slice (some ⟨q, 0, none⟩) l.length cap)) 29 := Blk.below (Blk.below HY.out HB2.out) br
            have Xr : Blk wr w1.heap.size km.cells.toArray 50 := Blk.below HX2.out br
            have yy0 : wr.cell? ⟨w.heap.size, 0, none⟩ = some (.int .i64 g) := Yr.cell rfl
            by_cases hjg : i < g
            · have hdj : decide ((i : Int) + 1 ≤ g) = true := by simp only [decide_eq_true_eq]; omega
              obtain ⟨t1, t2, t3, t4, t5, t6⟩ := HSH.out (i + 1) (by omega)
              have e2 : hpf (i + 1) = 6 + i := by unfold hpf; rw [if_neg (by omega)]; omega
              rw [e2] at t2 t3 t5
              have N : Hid _ := HNum.out (ka.n (6 + i)) t3 t5
              have HER : Hid _ := encs_range (fun i => ka.n (6 + i)) i
              have ee := enc_le (ka.n (6 + i)).toNat
              generalize enc (ka.n (6 + i)).toNat = E at *
              have hne := bw_some wr
              have a2 : wr.cell? ⟨w1.heap.size, 5 + (i + 1), none⟩ = some (.int .i64 (ka.n (6 + i))) := by rw [← t2]; exact Xr.cell (by rw [List.getElem?_toArray]; exact Kt.num km (5 + (i + 1)) (by omega))
              have hj5 : (i : Int) + 1 < 5 := by omega
              have hj0 : (0 : Int) ≤ (i : Int) + 1 := by omega
              have dc : ¬ 9223372036854775807 < L'.length + E.length := by omega
              clear Xr Yr t1 t2 e2
              go_wp2_with fail
              refine Calls.mono (N.out _) ?_
              rintro e w4 ⟨rfl, b4⟩
              go_upto_region 13 with fail
              simp only [catL]
              generalize hLE : L' ++ E = LE at *
              have HLE : Hid _ := hLE
              have hLl : LE.length ≤ 70 + 10 * (i + 1) := by rw [← hLE]; simp; omega
              clear hLE
              go_wp2_with fail
              refine ⟨⟨i + 1, LE, by omega, by norm_cast, rfl, hLl, by show _ = _; rw [← HLE.out, HER.out, HL'.out]; simp, br.trans (b4.mono zr)⟩, ?_⟩
              simp [intOf]; omega
            · have hdj : decide ((i : Int) + 1 ≤ g) = false := by simp only [decide_eq_false_iff_not]; omega
              have hig : i = g := by omega
              have HF : Hid (L' = L ++ encs ((List.range g).map fun i => ka.n (6 + i))) := by rw [← hig]; exact HL'
              have hL9 : L'.length ≤ 110 := by omega
              clear HL' hL' hig
              obtain ⟨wz, rfl⟩ : ∃ wz, wz = wr := ⟨wr, rfl⟩
              have HKey : Hid (∀ wx, _) := fun wx => key_ref k wx (by omega)
              have HLaid : Hid (∀ wx, _) := fun wx => laid_ref ka.reply wx (by omega)
              have hel : (enc ka.reply.size ++ ka.reply.data.toList).length ≤ 300 := by
                have h1 := enc_le ka.reply.size
                have h2 : ka.reply.data.toList.length = ka.reply.size := by rw [Array.length_toList]; rfl
                rw [List.length_append, h2]; omega
              obtain ⟨ER, hER⟩ : ∃ ER, enc ka.reply.size ++ ka.reply.data.toList = ER := ⟨_, rfl⟩
              have HRN2 : Hid (recsN g l (k + 1) = recsN g l k ++ [⟨keyB k, ⟨(L' ++ ER).toArray⟩⟩]) := by
                show _ = _
                rw [HRN.out, ← hER, HF.out, HL2.out]
              rw [hER] at HLaid hel
              have rz : wz.drew.cell? ⟨w1.heap.size, 11, none⟩ = some (.string ka.reply) := by rw [← HRP.out]; exact Xr.cell rfl
              have zB2 := HB2.out.size
              have Brz : Below w1.heap.size w1 wz := HB2.out.trans (br.mono zB2)
              have zrz : w1.heap.size ≤ wz.heap.size := Brz.size
              have dcat : ¬ 9223372036854775807 < L'.length + ER.length := by omega
              clear hER HF HL2 HRN Xr Yr HX2 HSH HST HRP HNum HP HS1 HS2
              go_wp2_with fail
              refine wp_region_held_drew (S := (fun wx => wx.cell? ⟨w1.heap.size, 11, none⟩ = some (.string ka.reply))) (by kernel_rfl) rz (fun hS => ?_)
              refine wpAnyH_take (i := 0) (v := u3) rfl (by kernel_rfl) (by kernel_rfl) (by kernel_rfl) (fun _ _ _ h => h) (Or.inl ⟨by rfl, fun w3 hS => by go_simp⟩) hS ?_
              refine wpAnyH_take (i := 1) (v := .int .i64 k) rfl (by kernel_rfl) (by kernel_rfl) (by kernel_rfl) (fun _ _ _ h => h) (Or.inl ⟨by rfl, fun w3 hS => by go_simp⟩) hS ?_
              refine wpAnyH_take (i := 3) (v := .string ⟨L'.toArray⟩) rfl (by kernel_rfl) (by kernel_rfl) (by kernel_rfl) (fun _ _ _ h => h) (Or.inl ⟨by rfl, fun w3 hS => by go_simp⟩) hS ?_
              refine wpAnyH_take (i := 4) (v := .pointer (some ⟨w1.heap.size, 11, none⟩)) rfl (by kernel_rfl) (by kernel_rfl) (by kernel_rfl) (fun _ _ _ h => h) (Or.inl ⟨by rfl, fun w3 hS => by go_simp⟩) hS ?_
              refine wpAnyH_take (i := 5) (v := .string ka.reply) rfl (by kernel_rfl) (by kernel_rfl) (by kernel_rfl) (fun _ _ _ h => h) (Or.inl ⟨by rfl, fun w3 hS => by go_simp⟩) hS ?_
              refine wpAnyH_ready (rs := [2]) (by kernel_rfl) (by simp) ?_
              refine AllReadyH.cons rfl (fun K hK => ?_) AllReadyH.nil
              go_simp
              refine (HKey.out _).mono ?_
              rintro e w5 ⟨rfl, b5⟩
              refine hK.out _ _ ((b5.cell (p := ⟨w1.heap.size, 11, none⟩) (World.block_lt_of_cell? _ _ hS)).trans hS) (fun hS => ?_)
              clear hK
              refine wpAnyH_ready (rs := [6]) (by kernel_rfl) (by simp) ?_
              refine AllReadyH.cons rfl (fun K hK => ?_) AllReadyH.nil
              go_simp
              refine (HLaid.out _).mono ?_
              rintro e w6 ⟨rfl, b6⟩
              refine hK.out _ _ ((b6.cell (p := ⟨w1.heap.size, 11, none⟩) (World.block_lt_of_cell? _ _ hS)).trans hS) (fun hS => ?_)
              clear hK
              refine wpAnyH_take (i := 7) (v := .string ⟨(L' ++ ER).toArray⟩) rfl (by kernel_rfl) (by kernel_rfl) (by kernel_rfl) (fun _ _ _ h => h) (Or.inl ⟨by rfl, fun w3 hS => by simp only [← catL]; go_simp⟩) hS ?_
              refine wpAnyH_take (i := 8) (v := .agg #[.string (keyB k), .string ⟨(L' ++ ER).toArray⟩]) rfl (by kernel_rfl) (by kernel_rfl) (by kernel_rfl) (fun _ _ _ h => h) (Or.inl ⟨by rfl, fun w3 hS => by go_simp⟩) hS ?_
              have BF : Below wz.heap.size wz w6 := (((Below.refl _ _).drew (w := wz)).trans (b5.mono (Nat.le_refl _))).trans (b6.mono b5.size)
              have z6 := BF.size
              have O6 := own_belowL HO.out ((Brz.trans (BF.mono zrz)))
              refine wpAnyH_ready (rs := [9]) (by kernel_rfl) (by simp) ?_
              refine AllReadyH.cons rfl (fun K hK => ?_) AllReadyH.nil
              go_simp
              refine hK.out _ _ ((((Below.refl w6.heap.size w6).alloc (Nat.le_refl _) _).cell (p := ⟨w1.heap.size, 11, none⟩) (World.block_lt_of_cell? _ _ hS)).trans hS) (fun hS => ?_)
              clear hK
              refine wpAnyH_ready (rs := [10]) (by kernel_rfl) (by simp) ?_
              refine AllReadyH.cons rfl (fun K hK => ?_) AllReadyH.nil
              refine step_ifL rfl ?_
              refine wp_append_own _ (.tmp 69) (.tmp 78) 36 rfl (w.heap.size + 1) 71 i0 (.agg #[.string ⟨#[]⟩, .string ⟨#[]⟩]) 2 32 Tryd.underlying36 hi hz0 hz1 hz2 rfl (by decide) u3 k (rcCells (recsN g l k)) rfl (World.ownsRow.alloc O6 _) ⟨w6.heap.size, 0, none⟩ 1 1 [.string (keyB k), .string ⟨(L' ++ ER).toArray⟩] rfl rfl ?_ ?_ ?_ ?_ ?_ ?_
              · intro j u hu
                have X := blk_new w6 w6.heap.size #[.string (keyB k), .string ⟨(L' ++ ER).toArray⟩] 71 rfl
                have : j = 0 ∨ j = 1 := by
                  have := (List.getElem?_eq_some_iff.1 hu).1
                  simp at this; omega
                rcases this with rfl | rfl
                · have e : u = .string (keyB k) := by simpa using hu.symm
                  subst e; exact X.cell rfl
                · have e : u = .string ⟨(L' ++ ER).toArray⟩ := by simpa using hu.symm
                  subst e; exact X.cell rfl
              · intro u hu
                simp at hu
                rcases hu with rfl | rfl <;> rfl
              · unfold maxLen; omega
              · omega
              · simp; omega
              intro v' w7 hown' hgrow _
              have hob : ∀ q, u3.ownBlock = some q → w.heap.size + 1 ≤ q ∧ q < w1.heap.size := fun q hq => World.ownsRow.lt HO.out q hq
              have hz7 := hgrow.size
              refine hK.out _ _ ?_ (fun hS => ?_)
              · rw [World.cell?_of_block (hgrow.block w1.heap.size (by simp; omega) (fun e => by have := hob _ e.symm; omega))]
                exact hS
              clear hK
              refine wpAnyH_take (i := 11) (v := v') rfl (by kernel_rfl) (by kernel_rfl) (by kernel_rfl) (fun _ _ _ h => h) (Or.inl ⟨by rfl, fun w3 hS => by go_simp⟩) hS ?_
              refine wpAnyH_done (by kernel_rfl) ?_ _
              go_wp2_with fail
              have BW6 : Below w.heap.size w w6 := hb.trans ((Brz.trans (BF.mono zrz)).mono hbz)
              refine ⟨⟨k + 1, by omega, by norm_cast, ?_, ?_, ?_, ?_⟩, ?_⟩
              · rw [HRN2.out, rcCells_snoc]; exact hown'
              · exact (hgrow.block w.heap.size (by simp; omega) (fun e => by have := hob _ e.symm; omega)).trans ((Blk.below HY.out (Brz.trans (BF.mono zrz))).alloc _)
              · exact (BW6.alloc (by omega) _).grown hgrow (by simp; omega) (fun q hq => by have := (hob q hq).1; omega)
              · simp at hz7; omega
              · simp [intOf]; omega
    · have hd : decide ((k : Int) < l.length) = false := by simp only [decide_eq_false_iff_not]; omega
      have hkl : k = l.length := by omega
      have hof : recsN g l k = recs g l := by rw [hkl]; rfl
      rw [hof, hkl] at ho
      have HOF : Hid _ := ho
      clear ho hof hkl
      go_wp2
      go_ret
      exact ⟨_, rfl, own_weak HOF.out (by omega), hb⟩
end Go.Proofs.YtmcafgmjfgfaeaaDoor
