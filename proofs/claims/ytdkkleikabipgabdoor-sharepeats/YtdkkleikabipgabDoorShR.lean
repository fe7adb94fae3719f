/- ShaRepeats' walk: a text of one byte, so many times. -/
import Derived.Test.YtdkkleikabipgabDoorShM
import Derived.Test.YtdkkleikabipgabDoorShX
import Derived.Deep.OwnRows
namespace Go.Proofs.YtdkkleikabipgabDoor
open Go.RowKit
set_option linter.unusedSimpArgs false
set_option linter.unusedVariables false

/-- So many of the byte, then noughts. -/
def repL (c : UInt8) (k m : Nat) : List UInt8 := List.replicate k c ++ List.replicate (m - k) 0
theorem repL_length (c : UInt8) (k m : Nat) (h : k ≤ m) : (repL c k m).length = m := by simp [repL]; omega
theorem repL_get (c : UInt8) (k m i : Nat) (h : i < m) (hk : k ≤ m) : (repL c k m).getD i 0 = if i < k then c else 0 := by
  unfold repL
  rw [List.getD_eq_getElem?_getD, List.getElem?_append, List.length_replicate]
  by_cases e : i < k
  · rw [if_pos e, if_pos e, List.getElem?_replicate, if_pos e]; rfl
  · rw [if_neg e, if_neg e, List.getElem?_replicate, if_pos (by omega)]; rfl
theorem repL_zero (c : UInt8) (m : Nat) : madeCells #[.int .u8 0] m = byA (repL c 0 m) := by
  apply Array.ext_getElem?
  intro i
  by_cases hi : i < m
  · have a1 : (madeCells #[.int .u8 0] m)[i]? = some (.int .u8 0) := by simp [madeCells, hi, Nat.mod_one]
    rw [a1, byA_get _ _ (by rw [repL_length _ _ _ (Nat.zero_le _)]; exact hi), repL_get _ _ _ _ hi (Nat.zero_le _)]
    simp
  · rw [Array.getElem?_eq_none (by rw [size_madeCells]; omega), Array.getElem?_eq_none (by rw [byA_size, repL_length _ _ _ (Nat.zero_le _)]; omega)]
theorem repL_full (c : UInt8) (m : Nat) : repL c m m = List.replicate m c := by simp [repL]
theorem repL_set (c : UInt8) (k m : Nat) (h : k < m) : (byA (repL c k m)).setIfInBounds k (.int .u8 (c.toNat : Int)) = byA (repL c (k + 1) m) := by
  apply Array.ext_getElem?
  intro i
  rw [Array.getElem?_setIfInBounds, byA_size, repL_length _ _ _ (by omega)]
  by_cases hi : i < m
  · rw [byA_get (repL c (k + 1) m) i (by rw [repL_length _ _ _ (by omega)]; exact hi), repL_get _ _ _ _ hi (by omega)]
    by_cases e : k = i
    · subst e; rw [if_pos rfl, if_pos hi, if_pos (by omega)]
    · rw [if_neg e, byA_get (repL c k m) i (by rw [repL_length _ _ _ (by omega)]; exact hi), repL_get _ _ _ _ hi (by omega)]
      by_cases hk : i < k
      · rw [if_pos hk, if_pos (by omega)]
      · rw [if_neg hk, if_neg (by omega)]
  · rw [if_neg (by omega), Array.getElem?_eq_none (by rw [byA_size, repL_length _ _ _ (by omega)]; omega), Array.getElem?_eq_none (by rw [byA_size, repL_length _ _ _ (by omega)]; omega)]
theorem tmod_small (n : Int) (m : Nat) (hm : 0 < m) : -(m : Int) < n.tmod m ∧ n.tmod m < m := by
  have h1 := Int.tmod_lt_of_pos n (b := (m : Int)) (by omega)
  have h2 := Int.tmod_lt_of_pos (-n) (b := (m : Int)) (by omega)
  rw [Int.neg_tmod] at h2
  omega

theorem HashAt.off {w w' : World} {b c : Nat} {l : List UInt8} (h : HashAt w b l) (ho : Off c w w') (hb : b ≠ c) : HashAt w' b l := by
  obtain ⟨r, h1, h2, X⟩ := h.blk
  exact ⟨r, h1, h2, X.off ho hb⟩
theorem rep_halves (s : ByteArray) (c : UInt8) (m q : Nat) (h : s.data.toList = List.replicate m c) (hs : s.size = m) (hq : q ≤ m) :
    [] ++ (s.extract 0 q).data.toList ++ (s.extract q m).data.toList = List.replicate m c := by
  rw [List.nil_append, ByteArray.data_extract, ByteArray.data_extract, Array.toList_extract, Array.toList_extract, h, List.extract_eq_take_drop, List.extract_eq_take_drop]
  simp
  omega
theorem rep_next (s : ByteArray) (c : UInt8) (m k : Nat) (h : s.data.toList = List.replicate m c) (hs : s.size = m) (hk : k < m) :
    List.replicate k c ++ (s.extract k (k + 1)).data.toList = List.replicate (k + 1) c := by
  rw [ByteArray.data_extract, Array.toList_extract, h, List.extract_eq_take_drop]
  simp
  omega

set_option maxRecDepth 100000 in
set_option maxHeartbeats 4000000 in
theorem repeats_calls (c : UInt8) (n cut : Int) (w : World) (hK : KT w) :
    Calls Tryd.prog 3 #[.int .u8 (c.toNat : Int), .int .i64 n, .int .i64 cut] w fun e w' => e = .returned (.bool true) ∧ Below w.heap.size w w' := by
  have hgl := hK.lt
  have hz := tmod_small n 1001 (by decide)
  have hz' : -1001 < n.tmod 1001 ∧ n.tmod 1001 < 1001 := hz
  clear hz
  obtain ⟨m, hm⟩ : ∃ m : Nat, (n.tmod 1001).natAbs = m := ⟨_, rfl⟩
  have hm1 : m ≤ 1000 := by omega
  have hmk := fun wx => run_make_row' (P := Tryd.prog) 22 5 (.int .u8 0) 1 Tryd.underlying22 infoByte rfl .i64 .i64 m (by omega) (by omega) wx
  have e1 : n.tmod 1001 < 0 → -n.tmod 1001 = (m : Int) := fun h => by omega
  have e2 : ¬ n.tmod 1001 < 0 → n.tmod 1001 = (m : Int) := fun h => by omega
  obtain ⟨W0, hW0⟩ : ∃ W0, w.alloc (.cells (madeCells #[.int .u8 0] m) 5) = W0 := ⟨_, rfl⟩
  have B0 : Below w.heap.size w W0 := by rw [← hW0]; exact (Below.refl _ _).alloc (Nat.le_refl _) _
  have X0 : Blk W0 w.heap.size (byA (repL c 0 m)) 5 := by rw [← hW0, repL_zero c]; exact blk_new _ _ _ _ rfl
  go_enter Tryd.func3, Tryd.ntmps3
  by_cases h0 : n.tmod 1001 < 0
  · have e3 := e1 h0
    clear e1 e2
    go_wp2
    go_loopw [9] (fun i wr => ∃ k : Nat, i = .int .i64 (k : Int) ∧ k ≤ m ∧ Below w.heap.size w wr ∧ Blk wr w.heap.size (byA (repL c k m)) 5) (fun i _ => match i with | .int _ z => ((m : Int) - z).toNat | _ => 0)
    case atStart => exact ⟨0, rfl, Nat.zero_le _, B0, X0⟩
    case round =>
      obtain ⟨k, rfl, hk, hB, hX⟩ := hrel
      by_cases hlt : k < m
      · have hf := hX.frozen (o := k)
        have hc0 := hX.cell (byA_get (repL c k m) k (by rw [repL_length _ _ _ hk]; exact hlt))
        go_wp2
        refine ⟨⟨k + 1, by norm_cast, by omega, ?_, ?_⟩, ?_⟩
        · exact hB.setCell (Nat.le_refl _) _
        · rw [← repL_set c k m hlt]; exact hX.set k _
        · show ((m : Int) - ((k : Int) + 1)).toNat < ((m : Int) - (k : Int)).toNat
          omega
      · have hkm : k = m := by omega
        subst hkm
        rw [repL_full] at hX
        have hcv := run_convert_bytes_back (P := Tryd.prog) wr 22 9 5 ⟨w.heap.size, 0, none⟩ k (List.replicate k c) Tryd.underlying22 Tryd.underlying5 Tryd.underlying9 (fun j hj => by
          have := hX.cell (byA_get (List.replicate k c) j hj)
          rw [List.getD_eq_getElem?_getD, List.getElem?_eq_getElem hj] at this
          by_cases hj0 : j = 0
          · subst hj0; simpa [Addr.add] using this
          · simpa [Addr.add, hj0] using this)
        rw [List.length_replicate] at hcv
        obtain ⟨s, hs⟩ : ∃ s : ByteArray, ByteArray.mk (List.replicate k c).toArray = s := ⟨_, rfl⟩
        have hsz : s.size = k := by rw [← hs]; simp [ByteArray.size]
        have HS : Hid (s.data.toList = List.replicate k c) := by rw [← hs]; rfl
        rw [hs] at hcv
        clear hs hX hW0 X0 B0 hmk
        have hcu := tmod_small cut (k + 1) (by omega)
        obtain ⟨q, hq⟩ : ∃ q : Nat, (cut.tmod ((k + 1 : Nat) : Int)).natAbs = q := ⟨_, rfl⟩
        rw [show (((k + 1 : Nat) : Int)) = (k : Int) + 1 by omega] at hcu hq
        have hqk : q ≤ k := by omega
        have hKr : KT wr := hK.below hB hgl
        by_cases h1 : cut.tmod ((k : Int) + 1) < 0
        · have e4 : -cut.tmod ((k : Int) + 1) = (q : Int) := by omega
          go_wp2_with fail
          refine (new_calls _).mono ?_
          rintro e w1 ⟨P, rfl, hP, hb1, H1⟩
          have hz1 := hb1.size
          have B1 := hB.trans (hb1.mono hB.size)
          have K1 := hKr.below hb1 hKr.lt
          have hPl := H1.lt
          go_wp2_with fail
          refine (new_calls _).mono ?_
          rintro e w2 ⟨Q, rfl, hQ, hb2, G2⟩
          have B2 := B1.trans (hb2.mono B1.size)
          have K2 := K1.below hb2 K1.lt
          have H2 := H1.below hb2 H1.lt
          have hwr := hB.size
          have h3 := write_calls P [] (s.extract 0 q) w2 H2 K2 (by omega) (by rw [ByteArray.size_extract]; omega) (by simp)
          have W3 : Hid _ := h3
          clear h3 H1 H2
          go_wp2_with fail
          refine Calls.mono W3.out ?_
          rintro e w3 ⟨⟨v3, rfl⟩, o3, H3⟩
          have B3 := o3.below (by omega) B2 B2.size
          have K3 := K2.off o3 (by omega)
          have G3 := G2.off o3 (by omega)
          have h4 := write_calls P _ (s.extract q k) w3 H3 K3 (by omega) (by rw [ByteArray.size_extract]; omega) (by rw [List.nil_append, show (s.extract 0 q).data.toList.length = (s.extract 0 q).size from by rw [Lib.size_eq], ByteArray.size_extract]; omega)
          rw [rep_halves s c k q HS.out hsz hqk] at h4
          have W4 : Hid _ := h4
          clear h4 H3 G2
          go_wp2_with fail
          refine Calls.mono W4.out ?_
          rintro e w4 ⟨⟨v4, rfl⟩, o4, H4⟩
          have B4 := o4.below (by omega) B3 B3.size
          have K4 := K3.off o4 (by omega)
          have G4 := G3.off o4 (by omega)
          clear G3 W3 W4
          go_wp2
          go_loopw [14] (fun i wr => ∃ j : Nat, i = .int .i64 (j : Int) ∧ j ≤ k ∧ Below w.heap.size w wr ∧ KT wr ∧ HashAt wr P (List.replicate k c) ∧ HashAt wr Q (List.replicate j c)) (fun i _ => match i with | .int _ z => ((k : Int) - z).toNat | _ => 0)
          case atStart => exact ⟨0, rfl, Nat.zero_le _, B4, K4, H4, G4⟩
          case round =>
            obtain ⟨j, rfl, hj, hBr, hKj, hHP, hHQ⟩ := hrel
            by_cases hjk : j < k
            · have h5 := write_calls Q _ (s.extract j (j + 1)) wr hHQ hKj (by omega) (by rw [ByteArray.size_extract]; omega) (by rw [List.length_replicate]; omega)
              rw [rep_next s c k j HS.out hsz hjk] at h5
              have hsl : (Instr.slice 9 (.string s) (some (.int .i64 (j : Int))) (some (.int .i64 ((j : Int) + 1))) none).run Tryd.prog wr = .ok (.string (s.extract j (j + 1))) wr :=
                run_slice_string (P := Tryd.prog) wr 9 s .i64 .i64 (j : Int) ((j : Int) + 1) Tryd.underlying9 (by omega) (by omega) (by omega)
              have W5 : Hid _ := h5
              clear h5
              go_wp2_with fail
              refine Calls.mono W5.out ?_
              rintro e w5 ⟨⟨v5, rfl⟩, o5, G5⟩
              have B5 := o5.below (by omega) hBr hBr.size
              have K5 := hKj.off o5 (by omega)
              have H5 := hHP.off o5 (by omega)
              go_wp2
              refine ⟨⟨j + 1, by norm_cast, by omega, B5, K5, H5, G5⟩, ?_⟩
              show ((k : Int) - ((j : Int) + 1)).toNat < ((k : Int) - (j : Int)).toNat
              omega
            · have hjk2 : j = k := by omega
              subst hjk2
              have hs1 := fun wx (hx : HashAt wx P (List.replicate j c)) (hk : KT wx) => sum_calls P _ wx hx hk (by rw [List.length_replicate]; omega)
              have hs2 := fun wx (hx : HashAt wx Q (List.replicate j c)) (hk : KT wx) => sum_calls Q _ wx hx hk (by rw [List.length_replicate]; omega)
              have hs3 := fun wx (hk : KT wx) => shaSum_calls s wx hk (by omega)
              have hs4 := fun wx => refSum_calls s wx (by omega)
              rw [HS.out] at hs3 hs4
              generalize ByteArray.mk (sumL (List.replicate j c)).toArray = r at hs1 hs2 hs3 hs4
              have S1 : Hid _ := hs1
              have S2 : Hid _ := hs2
              have S3 : Hid _ := hs3
              have S4 : Hid _ := hs4
              clear hs1 hs2 hs3 hs4
              go_wp2_with fail
              refine (S1.out _ hHP hKj).mono ?_
              rintro e w5 ⟨rfl, hb5⟩
              have B5 := hBr.trans (hb5.mono hBr.size)
              have K5 := hKj.below hb5 hKj.lt
              have G5 := hHQ.below hb5 hHQ.lt
              go_wp2_with fail
              refine (S3.out _ K5).mono ?_
              rintro e w6 ⟨rfl, hb6⟩
              have B6 := B5.trans (hb6.mono B5.size)
              have K6 := K5.below hb6 K5.lt
              have G6 := G5.below hb6 G5.lt
              go_wp2_with fail
              refine (S2.out _ G6 K6).mono ?_
              rintro e w7 ⟨rfl, hb7⟩
              have B7 := B6.trans (hb7.mono B6.size)
              have K7 := K6.below hb7 K6.lt
              go_wp2_with fail
              refine (S3.out _ K7).mono ?_
              rintro e w8 ⟨rfl, hb8⟩
              have B8 := B7.trans (hb8.mono B7.size)
              have K8 := K7.below hb8 K7.lt
              go_wp2_with fail
              refine (S3.out _ K8).mono ?_
              rintro e w9 ⟨rfl, hb9⟩
              have B9 := B8.trans (hb9.mono B8.size)
              have K9 := K8.below hb9 K8.lt
              go_wp2_with fail
              refine (S4.out _).mono ?_
              rintro e w10 ⟨rfl, hb10⟩
              have B10 := B9.trans (hb10.mono B9.size)
              have K10 := K9.below hb10 K9.lt
              go_wp2_with fail
              refine (awake_calls _ K10).mono ?_
              rintro e w11 ⟨rfl, hb11⟩
              go_wp2
              go_ret
              exact ⟨rfl, B10.trans (hb11.mono B10.size)⟩
        · have e4 : cut.tmod ((k : Int) + 1) = (q : Int) := by omega
          go_wp2_with fail
          refine (new_calls _).mono ?_
          rintro e w1 ⟨P, rfl, hP, hb1, H1⟩
          have hz1 := hb1.size
          have B1 := hB.trans (hb1.mono hB.size)
          have K1 := hKr.below hb1 hKr.lt
          have hPl := H1.lt
          go_wp2_with fail
          refine (new_calls _).mono ?_
          rintro e w2 ⟨Q, rfl, hQ, hb2, G2⟩
          have B2 := B1.trans (hb2.mono B1.size)
          have K2 := K1.below hb2 K1.lt
          have H2 := H1.below hb2 H1.lt
          have hwr := hB.size
          have h3 := write_calls P [] (s.extract 0 q) w2 H2 K2 (by omega) (by rw [ByteArray.size_extract]; omega) (by simp)
          have W3 : Hid _ := h3
          clear h3 H1 H2
          go_wp2_with fail
          refine Calls.mono W3.out ?_
          rintro e w3 ⟨⟨v3, rfl⟩, o3, H3⟩
          have B3 := o3.below (by omega) B2 B2.size
          have K3 := K2.off o3 (by omega)
          have G3 := G2.off o3 (by omega)
          have h4 := write_calls P _ (s.extract q k) w3 H3 K3 (by omega) (by rw [ByteArray.size_extract]; omega) (by rw [List.nil_append, show (s.extract 0 q).data.toList.length = (s.extract 0 q).size from by rw [Lib.size_eq], ByteArray.size_extract]; omega)
          rw [rep_halves s c k q HS.out hsz hqk] at h4
          have W4 : Hid _ := h4
          clear h4 H3 G2
          go_wp2_with fail
          refine Calls.mono W4.out ?_
          rintro e w4 ⟨⟨v4, rfl⟩, o4, H4⟩
          have B4 := o4.below (by omega) B3 B3.size
          have K4 := K3.off o4 (by omega)
          have G4 := G3.off o4 (by omega)
          clear G3 W3 W4
          go_wp2
          go_loopw [14] (fun i wr => ∃ j : Nat, i = .int .i64 (j : Int) ∧ j ≤ k ∧ Below w.heap.size w wr ∧ KT wr ∧ HashAt wr P (List.replicate k c) ∧ HashAt wr Q (List.replicate j c)) (fun i _ => match i with | .int _ z => ((k : Int) - z).toNat | _ => 0)
          case atStart => exact ⟨0, rfl, Nat.zero_le _, B4, K4, H4, G4⟩
          case round =>
            obtain ⟨j, rfl, hj, hBr, hKj, hHP, hHQ⟩ := hrel
            by_cases hjk : j < k
            · have h5 := write_calls Q _ (s.extract j (j + 1)) wr hHQ hKj (by omega) (by rw [ByteArray.size_extract]; omega) (by rw [List.length_replicate]; omega)
              rw [rep_next s c k j HS.out hsz hjk] at h5
              have hsl : (Instr.slice 9 (.string s) (some (.int .i64 (j : Int))) (some (.int .i64 ((j : Int) + 1))) none).run Tryd.prog wr = .ok (.string (s.extract j (j + 1))) wr :=
                run_slice_string (P := Tryd.prog) wr 9 s .i64 .i64 (j : Int) ((j : Int) + 1) Tryd.underlying9 (by omega) (by omega) (by omega)
              have W5 : Hid _ := h5
              clear h5
              go_wp2_with fail
              refine Calls.mono W5.out ?_
              rintro e w5 ⟨⟨v5, rfl⟩, o5, G5⟩
              have B5 := o5.below (by omega) hBr hBr.size
              have K5 := hKj.off o5 (by omega)
              have H5 := hHP.off o5 (by omega)
              go_wp2
              refine ⟨⟨j + 1, by norm_cast, by omega, B5, K5, H5, G5⟩, ?_⟩
              show ((k : Int) - ((j : Int) + 1)).toNat < ((k : Int) - (j : Int)).toNat
              omega
            · have hjk2 : j = k := by omega
              subst hjk2
              have hs1 := fun wx (hx : HashAt wx P (List.replicate j c)) (hk : KT wx) => sum_calls P _ wx hx hk (by rw [List.length_replicate]; omega)
              have hs2 := fun wx (hx : HashAt wx Q (List.replicate j c)) (hk : KT wx) => sum_calls Q _ wx hx hk (by rw [List.length_replicate]; omega)
              have hs3 := fun wx (hk : KT wx) => shaSum_calls s wx hk (by omega)
              have hs4 := fun wx => refSum_calls s wx (by omega)
              rw [HS.out] at hs3 hs4
              generalize ByteArray.mk (sumL (List.replicate j c)).toArray = r at hs1 hs2 hs3 hs4
              have S1 : Hid _ := hs1
              have S2 : Hid _ := hs2
              have S3 : Hid _ := hs3
              have S4 : Hid _ := hs4
              clear hs1 hs2 hs3 hs4
              go_wp2_with fail
              refine (S1.out _ hHP hKj).mono ?_
              rintro e w5 ⟨rfl, hb5⟩
              have B5 := hBr.trans (hb5.mono hBr.size)
              have K5 := hKj.below hb5 hKj.lt
              have G5 := hHQ.below hb5 hHQ.lt
              go_wp2_with fail
              refine (S3.out _ K5).mono ?_
              rintro e w6 ⟨rfl, hb6⟩
              have B6 := B5.trans (hb6.mono B5.size)
              have K6 := K5.below hb6 K5.lt
              have G6 := G5.below hb6 G5.lt
              go_wp2_with fail
              refine (S2.out _ G6 K6).mono ?_
              rintro e w7 ⟨rfl, hb7⟩
              have B7 := B6.trans (hb7.mono B6.size)
              have K7 := K6.below hb7 K6.lt
              go_wp2_with fail
              refine (S3.out _ K7).mono ?_
              rintro e w8 ⟨rfl, hb8⟩
              have B8 := B7.trans (hb8.mono B7.size)
              have K8 := K7.below hb8 K7.lt
              go_wp2_with fail
              refine (S3.out _ K8).mono ?_
              rintro e w9 ⟨rfl, hb9⟩
              have B9 := B8.trans (hb9.mono B8.size)
              have K9 := K8.below hb9 K8.lt
              go_wp2_with fail
              refine (S4.out _).mono ?_
              rintro e w10 ⟨rfl, hb10⟩
              have B10 := B9.trans (hb10.mono B9.size)
              have K10 := K9.below hb10 K9.lt
              go_wp2_with fail
              refine (awake_calls _ K10).mono ?_
              rintro e w11 ⟨rfl, hb11⟩
              go_wp2
              go_ret
              exact ⟨rfl, B10.trans (hb11.mono B10.size)⟩
  · have e3 := e2 h0
    clear e1 e2
    go_wp2
    go_loopw [9] (fun i wr => ∃ k : Nat, i = .int .i64 (k : Int) ∧ k ≤ m ∧ Below w.heap.size w wr ∧ Blk wr w.heap.size (byA (repL c k m)) 5) (fun i _ => match i with | .int _ z => ((m : Int) - z).toNat | _ => 0)
    case atStart => exact ⟨0, rfl, Nat.zero_le _, B0, X0⟩
    case round =>
      obtain ⟨k, rfl, hk, hB, hX⟩ := hrel
      by_cases hlt : k < m
      · have hf := hX.frozen (o := k)
        have hc0 := hX.cell (byA_get (repL c k m) k (by rw [repL_length _ _ _ hk]; exact hlt))
        go_wp2
        refine ⟨⟨k + 1, by norm_cast, by omega, ?_, ?_⟩, ?_⟩
        · exact hB.setCell (Nat.le_refl _) _
        · rw [← repL_set c k m hlt]; exact hX.set k _
        · show ((m : Int) - ((k : Int) + 1)).toNat < ((m : Int) - (k : Int)).toNat
          omega
      · have hkm : k = m := by omega
        subst hkm
        rw [repL_full] at hX
        have hcv := run_convert_bytes_back (P := Tryd.prog) wr 22 9 5 ⟨w.heap.size, 0, none⟩ k (List.replicate k c) Tryd.underlying22 Tryd.underlying5 Tryd.underlying9 (fun j hj => by
          have := hX.cell (byA_get (List.replicate k c) j hj)
          rw [List.getD_eq_getElem?_getD, List.getElem?_eq_getElem hj] at this
          by_cases hj0 : j = 0
          · subst hj0; simpa [Addr.add] using this
          · simpa [Addr.add, hj0] using this)
        rw [List.length_replicate] at hcv
        obtain ⟨s, hs⟩ : ∃ s : ByteArray, ByteArray.mk (List.replicate k c).toArray = s := ⟨_, rfl⟩
        have hsz : s.size = k := by rw [← hs]; simp [ByteArray.size]
        have HS : Hid (s.data.toList = List.replicate k c) := by rw [← hs]; rfl
        rw [hs] at hcv
        clear hs hX hW0 X0 B0 hmk
        have hcu := tmod_small cut (k + 1) (by omega)
        obtain ⟨q, hq⟩ : ∃ q : Nat, (cut.tmod ((k + 1 : Nat) : Int)).natAbs = q := ⟨_, rfl⟩
        rw [show (((k + 1 : Nat) : Int)) = (k : Int) + 1 by omega] at hcu hq
        have hqk : q ≤ k := by omega
        have hKr : KT wr := hK.below hB hgl
        by_cases h1 : cut.tmod ((k : Int) + 1) < 0
        · have e4 : -cut.tmod ((k : Int) + 1) = (q : Int) := by omega
          go_wp2_with fail
          refine (new_calls _).mono ?_
          rintro e w1 ⟨P, rfl, hP, hb1, H1⟩
          have hz1 := hb1.size
          have B1 := hB.trans (hb1.mono hB.size)
          have K1 := hKr.below hb1 hKr.lt
          have hPl := H1.lt
          go_wp2_with fail
          refine (new_calls _).mono ?_
          rintro e w2 ⟨Q, rfl, hQ, hb2, G2⟩
          have B2 := B1.trans (hb2.mono B1.size)
          have K2 := K1.below hb2 K1.lt
          have H2 := H1.below hb2 H1.lt
          have hwr := hB.size
          have h3 := write_calls P [] (s.extract 0 q) w2 H2 K2 (by omega) (by rw [ByteArray.size_extract]; omega) (by simp)
          have W3 : Hid _ := h3
          clear h3 H1 H2
          go_wp2_with fail
          refine Calls.mono W3.out ?_
          rintro e w3 ⟨⟨v3, rfl⟩, o3, H3⟩
          have B3 := o3.below (by omega) B2 B2.size
          have K3 := K2.off o3 (by omega)
          have G3 := G2.off o3 (by omega)
          have h4 := write_calls P _ (s.extract q k) w3 H3 K3 (by omega) (by rw [ByteArray.size_extract]; omega) (by rw [List.nil_append, show (s.extract 0 q).data.toList.length = (s.extract 0 q).size from by rw [Lib.size_eq], ByteArray.size_extract]; omega)
          rw [rep_halves s c k q HS.out hsz hqk] at h4
          have W4 : Hid _ := h4
          clear h4 H3 G2
          go_wp2_with fail
          refine Calls.mono W4.out ?_
          rintro e w4 ⟨⟨v4, rfl⟩, o4, H4⟩
          have B4 := o4.below (by omega) B3 B3.size
          have K4 := K3.off o4 (by omega)
          have G4 := G3.off o4 (by omega)
          clear G3 W3 W4
          go_wp2
          go_loopw [14] (fun i wr => ∃ j : Nat, i = .int .i64 (j : Int) ∧ j ≤ k ∧ Below w.heap.size w wr ∧ KT wr ∧ HashAt wr P (List.replicate k c) ∧ HashAt wr Q (List.replicate j c)) (fun i _ => match i with | .int _ z => ((k : Int) - z).toNat | _ => 0)
          case atStart => exact ⟨0, rfl, Nat.zero_le _, B4, K4, H4, G4⟩
          case round =>
            obtain ⟨j, rfl, hj, hBr, hKj, hHP, hHQ⟩ := hrel
            by_cases hjk : j < k
            · have h5 := write_calls Q _ (s.extract j (j + 1)) wr hHQ hKj (by omega) (by rw [ByteArray.size_extract]; omega) (by rw [List.length_replicate]; omega)
              rw [rep_next s c k j HS.out hsz hjk] at h5
              have hsl : (Instr.slice 9 (.string s) (some (.int .i64 (j : Int))) (some (.int .i64 ((j : Int) + 1))) none).run Tryd.prog wr = .ok (.string (s.extract j (j + 1))) wr :=
                run_slice_string (P := Tryd.prog) wr 9 s .i64 .i64 (j : Int) ((j : Int) + 1) Tryd.underlying9 (by omega) (by omega) (by omega)
              have W5 : Hid _ := h5
              clear h5
              go_wp2_with fail
              refine Calls.mono W5.out ?_
              rintro e w5 ⟨⟨v5, rfl⟩, o5, G5⟩
              have B5 := o5.below (by omega) hBr hBr.size
              have K5 := hKj.off o5 (by omega)
              have H5 := hHP.off o5 (by omega)
              go_wp2
              refine ⟨⟨j + 1, by norm_cast, by omega, B5, K5, H5, G5⟩, ?_⟩
              show ((k : Int) - ((j : Int) + 1)).toNat < ((k : Int) - (j : Int)).toNat
              omega
            · have hjk2 : j = k := by omega
              subst hjk2
              have hs1 := fun wx (hx : HashAt wx P (List.replicate j c)) (hk : KT wx) => sum_calls P _ wx hx hk (by rw [List.length_replicate]; omega)
              have hs2 := fun wx (hx : HashAt wx Q (List.replicate j c)) (hk : KT wx) => sum_calls Q _ wx hx hk (by rw [List.length_replicate]; omega)
              have hs3 := fun wx (hk : KT wx) => shaSum_calls s wx hk (by omega)
              have hs4 := fun wx => refSum_calls s wx (by omega)
              rw [HS.out] at hs3 hs4
              generalize ByteArray.mk (sumL (List.replicate j c)).toArray = r at hs1 hs2 hs3 hs4
              have S1 : Hid _ := hs1
              have S2 : Hid _ := hs2
              have S3 : Hid _ := hs3
              have S4 : Hid _ := hs4
              clear hs1 hs2 hs3 hs4
              go_wp2_with fail
              refine (S1.out _ hHP hKj).mono ?_
              rintro e w5 ⟨rfl, hb5⟩
              have B5 := hBr.trans (hb5.mono hBr.size)
              have K5 := hKj.below hb5 hKj.lt
              have G5 := hHQ.below hb5 hHQ.lt
              go_wp2_with fail
              refine (S3.out _ K5).mono ?_
              rintro e w6 ⟨rfl, hb6⟩
              have B6 := B5.trans (hb6.mono B5.size)
              have K6 := K5.below hb6 K5.lt
              have G6 := G5.below hb6 G5.lt
              go_wp2_with fail
              refine (S2.out _ G6 K6).mono ?_
              rintro e w7 ⟨rfl, hb7⟩
              have B7 := B6.trans (hb7.mono B6.size)
              have K7 := K6.below hb7 K6.lt
              go_wp2_with fail
              refine (S3.out _ K7).mono ?_
              rintro e w8 ⟨rfl, hb8⟩
              have B8 := B7.trans (hb8.mono B7.size)
              have K8 := K7.below hb8 K7.lt
              go_wp2_with fail
              refine (S3.out _ K8).mono ?_
              rintro e w9 ⟨rfl, hb9⟩
              have B9 := B8.trans (hb9.mono B8.size)
              have K9 := K8.below hb9 K8.lt
              go_wp2_with fail
              refine (S4.out _).mono ?_
              rintro e w10 ⟨rfl, hb10⟩
              have B10 := B9.trans (hb10.mono B9.size)
              have K10 := K9.below hb10 K9.lt
              go_wp2_with fail
              refine (awake_calls _ K10).mono ?_
              rintro e w11 ⟨rfl, hb11⟩
              go_wp2
              go_ret
              exact ⟨rfl, B10.trans (hb11.mono B10.size)⟩
        · have e4 : cut.tmod ((k : Int) + 1) = (q : Int) := by omega
          go_wp2_with fail
          refine (new_calls _).mono ?_
          rintro e w1 ⟨P, rfl, hP, hb1, H1⟩
          have hz1 := hb1.size
          have B1 := hB.trans (hb1.mono hB.size)
          have K1 := hKr.below hb1 hKr.lt
          have hPl := H1.lt
          go_wp2_with fail
          refine (new_calls _).mono ?_
          rintro e w2 ⟨Q, rfl, hQ, hb2, G2⟩
          have B2 := B1.trans (hb2.mono B1.size)
          have K2 := K1.below hb2 K1.lt
          have H2 := H1.below hb2 H1.lt
          have hwr := hB.size
          have h3 := write_calls P [] (s.extract 0 q) w2 H2 K2 (by omega) (by rw [ByteArray.size_extract]; omega) (by simp)
          have W3 : Hid _ := h3
          clear h3 H1 H2
          go_wp2_with fail
          refine Calls.mono W3.out ?_
          rintro e w3 ⟨⟨v3, rfl⟩, o3, H3⟩
          have B3 := o3.below (by omega) B2 B2.size
          have K3 := K2.off o3 (by omega)
          have G3 := G2.off o3 (by omega)
          have h4 := write_calls P _ (s.extract q k) w3 H3 K3 (by omega) (by rw [ByteArray.size_extract]; omega) (by rw [List.nil_append, show (s.extract 0 q).data.toList.length = (s.extract 0 q).size from by rw [Lib.size_eq], ByteArray.size_extract]; omega)
          rw [rep_halves s c k q HS.out hsz hqk] at h4
          have W4 : Hid _ := h4
          clear h4 H3 G2
          go_wp2_with fail
          refine Calls.mono W4.out ?_
          rintro e w4 ⟨⟨v4, rfl⟩, o4, H4⟩
          have B4 := o4.below (by omega) B3 B3.size
          have K4 := K3.off o4 (by omega)
          have G4 := G3.off o4 (by omega)
          clear G3 W3 W4
          go_wp2
          go_loopw [14] (fun i wr => ∃ j : Nat, i = .int .i64 (j : Int) ∧ j ≤ k ∧ Below w.heap.size w wr ∧ KT wr ∧ HashAt wr P (List.replicate k c) ∧ HashAt wr Q (List.replicate j c)) (fun i _ => match i with | .int _ z => ((k : Int) - z).toNat | _ => 0)
          case atStart => exact ⟨0, rfl, Nat.zero_le _, B4, K4, H4, G4⟩
          case round =>
            obtain ⟨j, rfl, hj, hBr, hKj, hHP, hHQ⟩ := hrel
            by_cases hjk : j < k
            · have h5 := write_calls Q _ (s.extract j (j + 1)) wr hHQ hKj (by omega) (by rw [ByteArray.size_extract]; omega) (by rw [List.length_replicate]; omega)
              rw [rep_next s c k j HS.out hsz hjk] at h5
              have hsl : (Instr.slice 9 (.string s) (some (.int .i64 (j : Int))) (some (.int .i64 ((j : Int) + 1))) none).run Tryd.prog wr = .ok (.string (s.extract j (j + 1))) wr :=
                run_slice_string (P := Tryd.prog) wr 9 s .i64 .i64 (j : Int) ((j : Int) + 1) Tryd.underlying9 (by omega) (by omega) (by omega)
              have W5 : Hid _ := h5
              clear h5
              go_wp2_with fail
              refine Calls.mono W5.out ?_
              rintro e w5 ⟨⟨v5, rfl⟩, o5, G5⟩
              have B5 := o5.below (by omega) hBr hBr.size
              have K5 := hKj.off o5 (by omega)
              have H5 := hHP.off o5 (by omega)
              go_wp2
              refine ⟨⟨j + 1, by norm_cast, by omega, B5, K5, H5, G5⟩, ?_⟩
              show ((k : Int) - ((j : Int) + 1)).toNat < ((k : Int) - (j : Int)).toNat
              omega
            · have hjk2 : j = k := by omega
              subst hjk2
              have hs1 := fun wx (hx : HashAt wx P (List.replicate j c)) (hk : KT wx) => sum_calls P _ wx hx hk (by rw [List.length_replicate]; omega)
              have hs2 := fun wx (hx : HashAt wx Q (List.replicate j c)) (hk : KT wx) => sum_calls Q _ wx hx hk (by rw [List.length_replicate]; omega)
              have hs3 := fun wx (hk : KT wx) => shaSum_calls s wx hk (by omega)
              have hs4 := fun wx => refSum_calls s wx (by omega)
              rw [HS.out] at hs3 hs4
              generalize ByteArray.mk (sumL (List.replicate j c)).toArray = r at hs1 hs2 hs3 hs4
              have S1 : Hid _ := hs1
              have S2 : Hid _ := hs2
              have S3 : Hid _ := hs3
              have S4 : Hid _ := hs4
              clear hs1 hs2 hs3 hs4
              go_wp2_with fail
              refine (S1.out _ hHP hKj).mono ?_
              rintro e w5 ⟨rfl, hb5⟩
              have B5 := hBr.trans (hb5.mono hBr.size)
              have K5 := hKj.below hb5 hKj.lt
              have G5 := hHQ.below hb5 hHQ.lt
              go_wp2_with fail
              refine (S3.out _ K5).mono ?_
              rintro e w6 ⟨rfl, hb6⟩
              have B6 := B5.trans (hb6.mono B5.size)
              have K6 := K5.below hb6 K5.lt
              have G6 := G5.below hb6 G5.lt
              go_wp2_with fail
              refine (S2.out _ G6 K6).mono ?_
              rintro e w7 ⟨rfl, hb7⟩
              have B7 := B6.trans (hb7.mono B6.size)
              have K7 := K6.below hb7 K6.lt
              go_wp2_with fail
              refine (S3.out _ K7).mono ?_
              rintro e w8 ⟨rfl, hb8⟩
              have B8 := B7.trans (hb8.mono B7.size)
              have K8 := K7.below hb8 K7.lt
              go_wp2_with fail
              refine (S3.out _ K8).mono ?_
              rintro e w9 ⟨rfl, hb9⟩
              have B9 := B8.trans (hb9.mono B8.size)
              have K9 := K8.below hb9 K8.lt
              go_wp2_with fail
              refine (S4.out _).mono ?_
              rintro e w10 ⟨rfl, hb10⟩
              have B10 := B9.trans (hb10.mono B9.size)
              have K10 := K9.below hb10 K9.lt
              go_wp2_with fail
              refine (awake_calls _ K10).mono ?_
              rintro e w11 ⟨rfl, hb11⟩
              go_wp2
              go_ret
              exact ⟨rfl, B10.trans (hb11.mono B10.size)⟩
end Go.Proofs.YtdkkleikabipgabDoor
