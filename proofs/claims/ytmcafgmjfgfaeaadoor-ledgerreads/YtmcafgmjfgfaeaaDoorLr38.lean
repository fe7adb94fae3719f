/- The document's empty ledger; which part is meant; what is made of a call. -/
import Derived.Test.YtmcafgmjfgfaeaaDoorLr37
import Derived.Test.YtmcafgmjfgfaeaaDoorLr19
import Derived.Lib.Builder
namespace Go.Proofs.YtmcafgmjfgfaeaaDoor
open Go.RowKit
set_option linter.unusedSimpArgs false
set_option linter.unusedVariables false
variable {g base : Nat} {m l : List Kt}

theorem kL_snoc (m : List Kt) (k : Kt) : kL (m ++ [k]) = kL m ++ k.cells := by unfold kL; rw [List.flatMap_append]; simp
set_option maxRecDepth 100000 in
set_option maxHeartbeats 2000000 in
theorem newref_ok (c gg : Int) (w : World) (h1 : 1 ≤ c) (h2 : c ≤ 16) (h3 : 1 ≤ gg) (h4 : gg ≤ 4) : Calls Tryd.prog 6 #[.int .i64 c, .int .i64 gg] w fun e w' =>
    ∃ q cap, e = .returned (.tuple #[.agg #[.int .i64 gg, .slice (some ⟨q, 0, none⟩) c.toNat cap], .bool true]) ∧ Rm w' w.heap.size (.slice (some ⟨q, 0, none⟩) c.toNat cap) (List.replicate c.toNat Kt.zero) ∧ Below w.heap.size w w' := by
  obtain ⟨i0, hi, hz0, hz1, hz2⟩ := info_parts infoRa
  obtain ⟨n, rfl⟩ := Int.eq_ofNat_of_zero_le (show 0 ≤ c by omega)
  rw [Int.toNat_natCast]
  have d1 : decide ((n : Int) < 1) = false := decide_eq_false (by omega)
  have d2 : decide (16 < (n : Int)) = false := decide_eq_false (by omega)
  have d3 : decide (gg < 1) = false := decide_eq_false (by omega)
  have d4 : decide (4 < gg) = false := decide_eq_false (by omega)
  obtain ⟨W1, hW1, X1, Y1, B1, Z1⟩ : ∃ W1, ((w.alloc (.cells #[.int .i64 0, .slice none 0 0] 29)).alloc (.cells #[.int .i64 0, .slice none 0 0] 29)) = W1 ∧ Blk W1 w.heap.size (rlA 0 (.slice none 0 0)) 29 ∧ Blk W1 (w.heap.size + 1) (rlA 0 (.slice none 0 0)) 29 ∧ Below w.heap.size w W1 ∧ W1.heap.size = w.heap.size + 2 :=
    ⟨_, rfl, (blk_new _ _ _ _ rfl).alloc _, blk_new _ _ _ _ (by simp), by go_grown, by simp⟩
  have f0 : W1.frozen? ⟨w.heap.size + 1, 0, none⟩ = false := Y1.frozen
  have c0 : W1.cell? ⟨w.heap.size + 1, 0, none⟩ = some (.int .i64 0) := Y1.cell rfl
  obtain ⟨W2, hW2, X2, Y2, B2, Z2⟩ : ∃ W2, W1.setCell ⟨w.heap.size + 1, 0, none⟩ (.int .i64 gg) = W2 ∧ Blk W2 w.heap.size (rlA 0 (.slice none 0 0)) 29 ∧ Blk W2 (w.heap.size + 1) (rlA gg (.slice none 0 0)) 29 ∧ Below w.heap.size w W2 ∧ W2.heap.size = w.heap.size + 2 :=
    ⟨_, rfl, X1.setOther (p := ⟨w.heap.size + 1, 0, none⟩) (by show w.heap.size ≠ w.heap.size + 1; omega) _, Y1.set 0 _, B1.setCell (p := ⟨w.heap.size + 1, 0, none⟩) (by show w.heap.size ≤ w.heap.size + 1; omega) _, by rw [← Z1]; simp [World.setCell]⟩
  have HX : Hid _ := X1
  clear X1 Y1 B1 Z1
  have HZ2 : Hid _ := Z2
  clear Z2
  go_enter Tryd.func6, Tryd.ntmps6
  go_wp2
  go_loopw [7] (fun i wr => ∃ (k : Nat) (v : Value), k ≤ n ∧ i = .int .i64 k ∧ Blk wr w.heap.size (rlA 0 (.slice none 0 0)) 29 ∧ Blk wr (w.heap.size + 1) (rlA gg v) 29 ∧ Rm wr (w.heap.size + 2) v (List.replicate k Kt.zero) ∧ Below w.heap.size w wr ∧ w.heap.size + 2 ≤ wr.heap.size) (fun i _ => n - (intOf i).toNat)
  case atStart => exact ⟨0, _, Nat.zero_le _, rfl, X2, Y2, World.ownsRow_nil _ _ _ _, B2, by have := HZ2.out; omega⟩
  case round =>
    obtain ⟨k, v, hk, rfl, Xr, Yr, hR, br, hwz⟩ := hrel
    by_cases hlt : k < n
    · have hd : decide ((k : Int) < n) = true := by simp only [decide_eq_true_eq]; omega
      have g1 : wr.cell? ⟨w.heap.size + 1, 1, none⟩ = some v := Yr.cell rfl
      have hRl : wr.ownsRow (w.heap.size + 2) 50 12 v k (kL (List.replicate k Kt.zero)) := by
        have := hR; unfold Rm at this; rw [List.length_replicate] at this; exact this
      have hsn : kL (List.replicate (k + 1) Kt.zero) = kL (List.replicate k Kt.zero) ++ Kt.zero.cells := by rw [List.replicate_succ', kL_snoc]
      have HSN : Hid _ := hsn
      have HR : Hid _ := hRl
      have hob := fun j hj => World.ownsRow.lt hRl j hj
      have HOB : Hid _ := hob
      clear hsn hRl hR hob
      go_wp2_with (at_builtin; refine wpList_append_own _ rfl (.tmp 31) (.tmp 33) 27 rfl (w.heap.size + 2) 50 i0 (.agg Kt.zero.cells.toArray) 12 104 Tryd.underlying27 hi hz0 hz1 hz2 rfl (by decide) v k (kL (List.replicate k Kt.zero)) rfl (World.ownsRow.alloc HR.out _) ⟨wr.heap.size, 0, none⟩ 1 1 Kt.zero.cells rfl rfl ?c1 ?c2 ?c3 ?c4 ?c5 ?_)
      case c1 =>
        intro j u hu
        have X := blk_new wr wr.heap.size Kt.zero.cells.toArray 50 rfl
        rw [Addr.add_lit, Nat.zero_add]
        exact X.cell (by rw [List.getElem?_toArray]; exact hu)
      case c2 => exact kt_one _
      case c3 => unfold maxLen; omega
      case c4 => omega
      case c5 => simp; omega
      intro v' w3 hown' hgrow _
      have hz3 := hgrow.size
      obtain ⟨p3, q3, rfl⟩ := own_slice hown'
      have kb : ∀ j, j < wr.heap.size → j < w.heap.size + 2 → w3.heap[j]? = wr.heap[j]? := fun j hj hj2 => by
        rw [hgrow.block j (by simp; omega) (fun e => by have := HOB.out j e.symm; omega)]
        exact Lib.alloc_old wr _ j hj
      have Y3 : Blk w3 (w.heap.size + 1) (rlA gg v) 29 := (kb _ (by omega) (by omega)).trans Yr
      have X3 : Blk w3 w.heap.size (rlA 0 (.slice none 0 0)) 29 := (kb _ (by omega) (by omega)).trans Xr
      have d1 : w3.cell? ⟨w.heap.size + 1, 1, none⟩ = some v := Y3.cell rfl
      have fz : w3.frozen? ⟨w.heap.size + 1, 1, none⟩ = false := Y3.frozen
      have B3 : Below w.heap.size w w3 := (br.alloc (by omega) _).grown hgrow (by simp; omega) (fun j hj => by have := (HOB.out j hj).1; omega)
      go_wp2
      refine ⟨⟨k + 1, _, by omega, by norm_cast, X3.setOther (p := ⟨w.heap.size + 1, 1, none⟩) (by show w.heap.size ≠ w.heap.size + 1; omega) _, Y3.set 1 _, ?_, B3.setCell (p := ⟨w.heap.size + 1, 1, none⟩) (by show w.heap.size ≤ w.heap.size + 1; omega) _, ?_⟩, ?_⟩
      · unfold Rm
        rw [List.length_replicate, HSN.out]
        exact ownsRow_setCell_below hown' (a := ⟨w.heap.size + 1, 1, none⟩) (by show w.heap.size + 1 < w.heap.size + 2; omega) _
      · simp [World.setCell]; simp at hz3; omega
      · simp [intOf]; omega
    · have hd : decide ((k : Int) < n) = false := by simp only [decide_eq_false_iff_not]; omega
      have hkn : k = n := by omega
      subst hkn
      obtain ⟨q, cap, rfl, hbq, hq, hcap, _⟩ := hR.at (by simp; omega)
      rw [List.length_replicate] at *
      have c0 : wr.cell? ⟨w.heap.size + 1, 0, none⟩ = some (.int .i64 gg) := Yr.cell rfl
      have c1 : wr.cell? ⟨w.heap.size + 1, 1, none⟩ = some (.slice (some ⟨q, 0, none⟩) k cap) := Yr.cell rfl
      obtain ⟨W9, hW9, Y9, R9, B9⟩ : ∃ W9, wr.setRow w.heap.size (rlA gg (.slice (some ⟨q, 0, none⟩) k cap)) = W9 ∧ Blk W9 w.heap.size (rlA gg (.slice (some ⟨q, 0, none⟩) k cap)) 29 ∧ Rm W9 w.heap.size (.slice (some ⟨q, 0, none⟩) k cap) (List.replicate k Kt.zero) ∧ Below w.heap.size w W9 := ⟨_, rfl, Blk.setRow Xr _, Rm.row (hR.weak (by omega)) Xr _, below_setRow br _ _ (Nat.le_refl _)⟩
      have s0 : W9.cell? ⟨w.heap.size, 0, none⟩ = some (.int .i64 gg) := Y9.cell rfl
      have s1 : W9.cell? ⟨w.heap.size, 1, none⟩ = some (.slice (some ⟨q, 0, none⟩) k cap) := Y9.cell rfl
      go_wp2_with ((with_reducible refine st_row (ty := 29) (cs' := rlA gg (.slice (some ⟨q, 0, none⟩) k cap)) Xr (rlA_info _ _) (rlA_same _ _ _ _) (rlA_one _ _ _ _) hW9 ?_ ?_ ?_); rfl; rfl)
      try simp only [Exit.inBlock, Exit.then]
      refine bodyPost_ret (by simp [results, Tryd.results6, go_sem, s0, s1]; rfl) rfl ?_
      exact ⟨q, cap, rfl, R9, B9⟩

end Go.Proofs.YtmcafgmjfgfaeaaDoor

namespace Go.Proofs.YtmcafgmjfgfaeaaDoor
open Go.RowKit
set_option linter.unusedSimpArgs false
set_option linter.unusedVariables false

set_option maxRecDepth 100000 in
set_option maxHeartbeats 1000000 in
theorem newref_bad (c gg : Int) (w : World) (h : ¬ (1 ≤ c ∧ c ≤ 16 ∧ 1 ≤ gg ∧ gg ≤ 4)) : Calls Tryd.prog 6 #[.int .i64 c, .int .i64 gg] w fun e w' => (∃ z sp n cap, e = .returned (.tuple #[.agg #[.int .i64 z, .slice sp n cap], .bool false])) ∧ Below w.heap.size w w' := by
  have HH : Hid _ := h
  clear h
  obtain ⟨W1, hW1, X1, Y1, B1⟩ : ∃ W1, ((w.alloc (.cells #[.int .i64 0, .slice none 0 0] 29)).alloc (.cells #[.int .i64 0, .slice none 0 0] 29)) = W1 ∧ Blk W1 w.heap.size (rlA 0 (.slice none 0 0)) 29 ∧ Blk W1 (w.heap.size + 1) (rlA 0 (.slice none 0 0)) 29 ∧ Below w.heap.size w W1 :=
    ⟨_, rfl, (blk_new _ _ _ _ rfl).alloc _, blk_new _ _ _ _ (by simp), by go_grown⟩
  obtain ⟨W9, hW9, Y9, B9⟩ : ∃ W9, W1.setRow w.heap.size (rlA 0 (.slice none 0 0)) = W9 ∧ Blk W9 w.heap.size (rlA 0 (.slice none 0 0)) 29 ∧ Below w.heap.size w W9 := ⟨_, rfl, Blk.setRow X1 _, below_setRow B1 _ _ (Nat.le_refl _)⟩
  have c0 : W1.cell? ⟨w.heap.size + 1, 0, none⟩ = some (.int .i64 0) := Y1.cell rfl
  have c1 : W1.cell? ⟨w.heap.size + 1, 1, none⟩ = some (.slice none 0 0) := Y1.cell rfl
  have s0 : W9.cell? ⟨w.heap.size, 0, none⟩ = some (.int .i64 0) := Y9.cell rfl
  have s1 : W9.cell? ⟨w.heap.size, 1, none⟩ = some (.slice none 0 0) := Y9.cell rfl
  cases d1 : decide (c < 1)
  · cases d2 : decide (16 < c)
    · cases d3 : decide (gg < 1)
      · cases d4 : decide (4 < gg)
        · simp at d1 d2 d3 d4
          exact absurd ⟨by omega, by omega, by omega, by omega⟩ HH.out
        · go_enter Tryd.func6, Tryd.ntmps6
          go_wp2_with ((with_reducible refine st_row (ty := 29) (cs' := rlA 0 (.slice none 0 0)) X1 (rlA_info _ _) (rlA_same _ _ _ _) (rlA_one _ _ _ _) hW9 ?_ ?_ ?_); rfl; rfl)
          try simp only [Exit.inBlock, Exit.then]
          refine bodyPost_ret (by simp [results, Tryd.results6, go_sem, s0, s1]; rfl) rfl ?_
          exact ⟨⟨_, _, _, _, rfl⟩, B9⟩
      · go_enter Tryd.func6, Tryd.ntmps6
        go_wp2_with ((with_reducible refine st_row (ty := 29) (cs' := rlA 0 (.slice none 0 0)) X1 (rlA_info _ _) (rlA_same _ _ _ _) (rlA_one _ _ _ _) hW9 ?_ ?_ ?_); rfl; rfl)
        try simp only [Exit.inBlock, Exit.then]
        refine bodyPost_ret (by simp [results, Tryd.results6, go_sem, s0, s1]; rfl) rfl ?_
        exact ⟨⟨_, _, _, _, rfl⟩, B9⟩
    · go_enter Tryd.func6, Tryd.ntmps6
      go_wp2_with ((with_reducible refine st_row (ty := 29) (cs' := rlA 0 (.slice none 0 0)) X1 (rlA_info _ _) (rlA_same _ _ _ _) (rlA_one _ _ _ _) hW9 ?_ ?_ ?_); rfl; rfl)
      try simp only [Exit.inBlock, Exit.then]
      refine bodyPost_ret (by simp [results, Tryd.results6, go_sem, s0, s1]; rfl) rfl ?_
      exact ⟨⟨_, _, _, _, rfl⟩, B9⟩
  · go_enter Tryd.func6, Tryd.ntmps6
    go_wp2_with ((with_reducible refine st_row (ty := 29) (cs' := rlA 0 (.slice none 0 0)) X1 (rlA_info _ _) (rlA_same _ _ _ _) (rlA_one _ _ _ _) hW9 ?_ ?_ ?_); rfl; rfl)
    try simp only [Exit.inBlock, Exit.then]
    refine bodyPost_ret (by simp [results, Tryd.results6, go_sem, s0, s1]; rfl) rfl ?_
    exact ⟨⟨_, _, _, _, rfl⟩, B9⟩
end Go.Proofs.YtmcafgmjfgfaeaaDoor
