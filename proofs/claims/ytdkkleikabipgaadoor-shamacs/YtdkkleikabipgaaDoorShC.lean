/- The words of a block. -/
import Derived.Test.YtdkkleikabipgaaDoorShB
namespace Go.Proofs.YtdkkleikabipgaaDoor
open Go.RowKit
set_option linter.unusedSimpArgs false
set_option linter.unusedVariables false

/-- Words as values. -/
def woA (l : List Nat) : Array Value := (l.map fun x : Nat => Value.int .u32 (x : Int)).toArray
theorem woA_size (l : List Nat) : (woA l).size = l.length := by simp [woA]
theorem woA_get (l : List Nat) (j : Nat) (h : j < l.length) : (woA l)[j]? = some (.int .u32 ((l.getD j 0 : Nat) : Int)) := by
  simp [woA, h, List.getD_eq_getElem?_getD]
theorem woA_one (l : List Nat) : (woA l).all (·.oneCell') = true :=
  all_oneCell_toArray (fun v hv => by simp at hv; obtain ⟨x, _, rfl⟩ := hv; rfl)
/-- The words so far, noughts behind them. -/
def schL (b : Nat → Nat) (k : Nat) : List Nat := sched b k ++ List.replicate (64 - k) 0
theorem schL_length (b : Nat → Nat) (k : Nat) (h : k ≤ 64) : (schL b k).length = 64 := by simp [schL, sched_length]; omega
theorem schL_get (b : Nat → Nat) (k j : Nat) (h : j < k) : (schL b k).getD j 0 = (sched b k).getD j 0 := by
  simp only [schL, List.getD_eq_getElem?_getD]; rw [List.getElem?_append_left (by rw [sched_length]; exact h)]
theorem schL_set (b : Nat → Nat) (k : Nat) (h : k < 64) : (woA (schL b k)).setIfInBounds k (.int .u32 ((nextW b (sched b k) k : Nat) : Int)) = woA (schL b (k + 1)) := by
  have e : 64 - k = (64 - (k + 1)) + 1 := by omega
  unfold woA schL
  rw [e, List.replicate_succ, sched, List.append_assoc, List.singleton_append]
  simp only [List.map_append, List.map_cons, List.setIfInBounds_toArray]
  rw [List.set_append_right _ _ (by simp [sched_length])]
  simp [sched_length]
theorem woA_zero : woA (List.replicate 64 0) = Array.replicate 64 (.int .u32 0) := by unfold woA; rw [List.map_replicate, List.toArray_replicate]; rfl

theorem sched_getD_lt (b : Nat → Nat) (hb : ∀ i, b i < 4294967296) (n i : Nat) : (sched b n).getD i 0 < 4294967296 := by
  rcases Nat.lt_or_ge i (sched b n).length with h | h
  · rw [List.getD_eq_getElem?_getD, List.getElem?_eq_getElem h]
    exact sched_lt b hb n _ (List.getElem_mem h)
  · rw [List.getD_eq_getElem?_getD, List.getElem?_eq_none h]; decide
/-- The worlds of schedule: the block's bytes, the result's cells, the words so far. -/
def SW (w : World) (l : List UInt8) (k : Nat) (wr : World) : Prop :=
  Below w.heap.size w wr ∧ Blk wr w.heap.size (byA l) 40 ∧ Blk wr (w.heap.size + 1) (woA (List.replicate 64 0)) 53 ∧ Blk wr (w.heap.size + 1 + 1) (woA (schL (wordAt l) k)) 53
set_option maxHeartbeats 1000000 in
set_option maxRecDepth 100000 in
theorem schedule_calls (l : List UInt8) (w : World) (hl : l.length = 64) :
    Calls Tryd.prog 26 #[.agg (byA l)] w fun e w' => e = .returned (.agg (woA (sched (wordAt l) 64))) ∧ Below w.heap.size w w' := by
  go_enter Tryd.func26, Tryd.ntmps26
  go_wp2
  go_loopw [10] (fun i wr => ∃ k : Nat, k ≤ 16 ∧ i = .int .i64 k ∧ SW w l k wr) (fun i _ => 16 - (intOf i).toNat)
  case atStart =>
    refine ⟨0, by omega, rfl, (((Below.refl _ _).alloc (Nat.le_refl _) _).alloc (by simp) _).alloc (by simp; omega) _, ((blk_new _ _ _ _ rfl).alloc _).alloc _, (blk_new _ _ _ _ (by simp)).alloc _, blk_new _ _ _ _ (by simp)⟩
  case round =>
    obtain ⟨k, hk, rfl, hB, X0, X1, X2⟩ := hrel
    by_cases hlt : k < 16
    · have hz : (Tryd.prog.info? 40).map (·.size) = some (byA l).size := by rw [byA_size, hl]; kernel_rfl
      go_wp2_with ((with_reducible refine wpl_load (ty := 40) X0 Tryd.underlying40 rfl hz ?_ ?_); rfl)
      refine (word_calls l k _ hl hlt).mono ?_
      rintro e w1 ⟨rfl, hb1⟩
      have Y2 := X2.below hb1
      have c2 := Y2.cell (woA_get _ k (by rw [schL_length _ _ (by omega)]; omega))
      have f2 := Y2.frozen (o := k)
      go_wp2
      go_roundw
      case rel =>
        have hz := hb1.size
        refine ⟨k + 1, by omega, by go_num, (hB.trans (hb1.mono hB.size)).setCell (by simp; omega) _, (X0.below hb1).setOther (by simp; omega) _, (X1.below hb1).setOther (by simp) _, ?_⟩
        have hs := Y2.set k (.int .u32 ((nextW (wordAt l) (sched (wordAt l) k) k : Nat) : Int))
        rw [schL_set _ _ (by omega)] at hs
        have e : nextW (wordAt l) (sched (wordAt l) k) k = wordAt l k := by unfold nextW; rw [if_pos hlt]
        rw [e] at hs
        exact hs
      case measure => simp [intOf]; omega
    · have e16 : k = 16 := by omega
      rw [e16] at X2
      clear e16
      go_wp2
      go_loopw [5] (fun i wr => ∃ k : Nat, 16 ≤ k ∧ k ≤ 64 ∧ i = .int .i64 k ∧ SW w l k wr) (fun i _ => 64 - (intOf i).toNat)
      case atStart => exact ⟨16, by omega, by omega, rfl, hB, X0, X1, X2⟩
      case round =>
        obtain ⟨k, hk1, hk, rfl, hB, X0, X1, X2⟩ := hrel
        by_cases hlt : k < 64
        · have c0 := X2.cell (woA_get _ (k - 16) (by rw [schL_length _ _ (by omega)]; omega))
          have c1 := X2.cell (woA_get _ (k - 15) (by rw [schL_length _ _ (by omega)]; omega))
          have c2 := X2.cell (woA_get _ (k - 7) (by rw [schL_length _ _ (by omega)]; omega))
          have c3 := X2.cell (woA_get _ (k - 2) (by rw [schL_length _ _ (by omega)]; omega))
          have c4 := X2.cell (woA_get _ k (by rw [schL_length _ _ (by omega)]; omega))
          have f4 := X2.frozen (o := k)
          rw [schL_get _ _ _ (by omega)] at c0 c1 c2 c3
          have hstep : nextW (wordAt l) (sched (wordAt l) k) k = ((sched (wordAt l) k).getD (k - 16) 0 + sg0 ((sched (wordAt l) k).getD (k - 15) 0) + (sched (wordAt l) k).getD (k - 7) 0 + sg1 ((sched (wordAt l) k).getD (k - 2) 0)) % 4294967296 := by
            unfold nextW; rw [if_neg (by omega)]
          have hs := fun v => X2.set k (.int .u32 v)
          have hq := schL_set (wordAt l) k hlt
          rw [hstep] at hq
          have g0 := sched_getD_lt (wordAt l) (wordAt_lt l) k (k - 16)
          have g1 := sched_getD_lt (wordAt l) (wordAt_lt l) k (k - 15)
          have g2 := sched_getD_lt (wordAt l) (wordAt_lt l) k (k - 7)
          have g3 := sched_getD_lt (wordAt l) (wordAt_lt l) k (k - 2)
          clear hstep
          generalize (sched (wordAt l) k).getD (k - 16) 0 = y0 at *
          generalize (sched (wordAt l) k).getD (k - 15) 0 = y1 at *
          generalize (sched (wordAt l) k).getD (k - 7) 0 = y2 at *
          generalize (sched (wordAt l) k).getD (k - 2) 0 = y3 at *
          have HQ : Hid _ := hq
          have HS : Hid _ := hs
          clear hq hs
          go_wp2
          go_region
          go_wp2_with fail
          refine (right_calls y1 7 _ g1 (by omega) (by omega)).mono ?_
          rintro e w1 ⟨rfl, rfl⟩
          go_wp2_with fail
          refine (right_calls y1 18 _ g1 (by omega) (by omega)).mono ?_
          rintro e w1 ⟨rfl, rfl⟩
          go_wp2_with fail
          refine (right_calls y3 17 _ g3 (by omega) (by omega)).mono ?_
          rintro e w1 ⟨rfl, rfl⟩
          go_wp2_with fail
          refine (right_calls y3 19 _ g3 (by omega) (by omega)).mono ?_
          rintro e w1 ⟨rfl, rfl⟩
          go_wp2_with fail
          go_region
          go_wp2
          go_roundw
          case rel =>
            refine ⟨k + 1, by omega, by omega, by go_num, ?_⟩
            rw [sg0_bits y1 g1, sg1_bits y3 g3]
            have e : ((y0 : Int) + (sg0 y1 : Int) + (y2 : Int) + (sg1 y3 : Int)) % 4294967296 = (((y0 + sg0 y1 + y2 + sg1 y3) % 4294967296 : Nat) : Int) := by omega
            rw [e]
            refine ⟨((hB.setCell (by simp; omega) _).drew).drew, X0.setOther (by simp; omega) _, X1.setOther (by simp) _, ?_⟩
            have h := HS.out (((y0 + sg0 y1 + y2 + sg1 y3) % 4294967296 : Nat) : Int)
            rw [HQ.out] at h
            exact h
          case measure => simp [intOf]; omega
        · have e64 : Hid (schL (wordAt l) k = sched (wordAt l) 64) := by
            have e : k = 64 := by omega
            subst e; show _ = _; simp [schL]
          have hz2 : (Tryd.prog.info? 53).map (·.size) = some (woA (schL (wordAt l) k)).size := by rw [woA_size, schL_length _ _ (by omega)]; kernel_rfl
          have hs2 : (woA (List.replicate 64 0)).size = (woA (schL (wordAt l) k)).size := by rw [woA_size, woA_size, schL_length _ _ (by omega)]; rfl
          have ho2 := woA_one (schL (wordAt l) k)
          have HE : Hid (woA (schL (wordAt l) k) = woA (sched (wordAt l) 64)) := by show _ = _; rw [e64.out]
          clear e64
          generalize woA (schL (wordAt l) k) = A at *
          generalize woA (List.replicate 64 0) = Z at *
          go_wp2_with (first | ((with_reducible refine wpl_load (ty := 53) X2 Tryd.underlying53 rfl hz2 ?_ ?_); rfl) | ((with_reducible refine wpl_store (ty := 53) X1 hz2 hs2 ho2 ?_ ?_ ?_); rfl; rfl))
          have Y1 := X1.setRow A
          refine bodyPost_ret (v := .agg A) (results_cell_row Tryd.results26 _ _ (w.heap.size + 1) 53 A (0, 0) _ (by simp [go_sem]) Y1 Tryd.underlying53 rfl hz2) rfl ⟨by rw [HE.out], below_setRow hB _ _ (by omega)⟩
end Go.Proofs.YtdkkleikabipgaaDoor
