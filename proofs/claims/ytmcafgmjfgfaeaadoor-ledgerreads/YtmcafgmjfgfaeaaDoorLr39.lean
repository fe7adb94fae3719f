/- An account as the document shows it. -/
import Derived.Test.YtmcafgmjfgfaeaaDoorLr34
import Derived.Test.YtmcafgmjfgfaeaaDoorLr20
namespace Go.Proofs.YtmcafgmjfgfaeaaDoor
open Go.RowKit
set_option linter.unusedSimpArgs false
set_option linter.unusedVariables false

theorem accA_set (k : Kt) (q : Nat) (h : q < 10) (v : Int) : (accA k).setIfInBounds q (.int .i64 v) = accA (k.put q v) := by
  have : q = 0 ∨ q = 1 ∨ q = 2 ∨ q = 3 ∨ q = 4 ∨ q = 5 ∨ q = 6 ∨ q = 7 ∨ q = 8 ∨ q = 9 := by omega
  rcases this with rfl | rfl | rfl | rfl | rfl | rfl | rfl | rfl | rfl | rfl <;> rfl
theorem accA_get' (k : Kt) (q : Nat) (h : q < 10) : (accA k)[q]? = some (.int .i64 (k.n q)) := by
  have : q = 0 ∨ q = 1 ∨ q = 2 ∨ q = 3 ∨ q = 4 ∨ q = 5 ∨ q = 6 ∨ q = 7 ∨ q = 8 ∨ q = 9 := by omega
  rcases this with rfl | rfl | rfl | rfl | rfl | rfl | rfl | rfl | rfl | rfl <;> rfl
theorem accA_congr {k k' : Kt} (h : ∀ x, x < 10 → k.n x = k'.n x) : accA k = accA k' := by
  unfold accA
  rw [h 0 (by omega), h 1 (by omega), h 2 (by omega), h 3 (by omega), h 4 (by omega), h 5 (by omega), h 6 (by omega), h 7 (by omega), h 8 (by omega), h 9 (by omega)]
/-- What has been told behind j goods. -/
def upTo (k : Kt) (j : Nat) : Kt := ⟨fun x => if x ≤ 1 ∨ (2 ≤ x ∧ x < 2 + j) ∨ (6 ≤ x ∧ x < 6 + j) then k.n x else 0, ⟨#[]⟩⟩
theorem upTo_zero (k : Kt) : accA (((Kt.zero).put 0 (k.n 0)).put 1 (k.n 1)) = accA (upTo k 0) := by
  refine accA_congr fun x hx => ?_
  simp only [Kt.put, Kt.zero, upTo]
  by_cases h0 : x = 0
  · simp [h0]
  · by_cases h1 : x = 1
    · simp [h1]
    · rw [if_neg h1, if_neg h0, if_neg (by omega)]
theorem upTo_succ (k : Kt) (j : Nat) (hj : j < 4) : accA (((upTo k j).put (2 + j) (k.n (2 + j))).put (6 + j) (k.n (6 + j))) = accA (upTo k (j + 1)) := by
  refine accA_congr fun x hx => ?_
  simp only [Kt.put, upTo]
  by_cases h0 : x = 6 + j
  · rw [if_pos h0, if_pos (by omega), h0]
  · by_cases h1 : x = 2 + j
    · rw [if_neg h0, if_pos h1, if_pos (by omega), h1]
    · rw [if_neg h0, if_neg h1]
      by_cases h2 : x ≤ 1 ∨ (2 ≤ x ∧ x < 2 + j) ∨ (6 ≤ x ∧ x < 6 + j)
      · rw [if_pos h2, if_pos (by omega)]
      · rw [if_neg h2, if_neg (by omega)]
theorem upTo_four (k : Kt) : accA (upTo k 4) = accA k := by
  refine accA_congr fun x hx => ?_
  simp only [upTo]
  rw [if_pos (by omega)]

set_option maxRecDepth 100000 in
set_option maxHeartbeats 4000000 in
theorem shown_ref (ka km : Kt) (w : World) (hs : ∀ p, p ≤ 4 → km.n p + km.n (5 + p) = ka.n (apf p) ∧ km.n (5 + p) = ka.n (hpf p) ∧ 0 ≤ km.n p ∧ 0 ≤ km.n (5 + p) ∧ ka.n (apf p) ≤ 1099511627776) :
    Calls Tryd.prog 49 #[.agg km.cells.toArray] w fun e w' => e = .returned (accV ka) ∧ Below w.heap.size w w' := by
  have hv : (Value.agg km.cells.toArray) = .agg #[.int .i64 (km.n 0), .int .i64 (km.n 1), .int .i64 (km.n 2), .int .i64 (km.n 3), .int .i64 (km.n 4), .int .i64 (km.n 5), .int .i64 (km.n 6), .int .i64 (km.n 7), .int .i64 (km.n 8), .int .i64 (km.n 9), .int .i64 (km.n 10), .string km.reply] := rfl
  rw [hv]
  obtain ⟨W1, hW1, X1, Y1, D1, B1, Z1⟩ : ∃ W1, (((w.alloc (.cells #[.int .i64 (km.n 0), .int .i64 (km.n 1), .int .i64 (km.n 2), .int .i64 (km.n 3), .int .i64 (km.n 4), .int .i64 (km.n 5), .int .i64 (km.n 6), .int .i64 (km.n 7), .int .i64 (km.n 8), .int .i64 (km.n 9), .int .i64 (km.n 10), .string km.reply] 50)).alloc (.cells #[.int .i64 0, .int .i64 0, .int .i64 0, .int .i64 0, .int .i64 0, .int .i64 0, .int .i64 0, .int .i64 0, .int .i64 0, .int .i64 0] 65)).alloc (.cells #[.int .i64 0, .int .i64 0, .int .i64 0, .int .i64 0, .int .i64 0, .int .i64 0, .int .i64 0, .int .i64 0, .int .i64 0, .int .i64 0] 65)) = W1 ∧ Blk W1 w.heap.size km.cells.toArray 50 ∧ Blk W1 (w.heap.size + 1) (accA Kt.zero) 65 ∧ Blk W1 (w.heap.size + 2) (accA Kt.zero) 65 ∧ Below w.heap.size w W1 ∧ W1.heap.size = w.heap.size + 3 :=
    ⟨_, rfl, ((blk_new _ _ _ _ rfl).alloc _).alloc _, (blk_new _ _ _ _ (by simp)).alloc _, blk_new _ _ _ _ (by simp), by go_grown, by simp⟩
  have c0 : W1.cell? ⟨w.heap.size, 0, none⟩ = some (.int .i64 (km.n 0)) := X1.cell rfl
  have c5 : W1.cell? ⟨w.heap.size, 5, none⟩ = some (.int .i64 (km.n 5)) := X1.cell rfl
  have d0 : W1.cell? ⟨w.heap.size + 2, 0, none⟩ = some (.int .i64 0) := D1.cell rfl
  have f0 : W1.frozen? ⟨w.heap.size + 2, 0, none⟩ = false := D1.frozen
  obtain ⟨s1, s2, s3, s4, s5⟩ := hs 0 (by omega)
  have s1' : km.n 0 + km.n 5 = ka.n 0 := s1
  have s2' : km.n 5 = ka.n 1 := s2
  have s4' : 0 ≤ km.n 5 := s4
  have s5' : ka.n 0 ≤ 1099511627776 := s5
  have bd : km.n 0 ≤ 1099511627776 ∧ km.n 5 ≤ 1099511627776 := by omega
  have H1 : Hid _ := s1'
  have H2 : Hid _ := s2'
  have HS : Hid _ := hs
  clear s1 s2 s4 s5 s1' s2' hs s5'
  obtain ⟨W2, hW2, X2, Y2, D2, B2, Z2⟩ : ∃ W2, W1.setCell ⟨w.heap.size + 2, 0, none⟩ (.int .i64 (km.n 0 + km.n 5)) = W2 ∧ Blk W2 w.heap.size km.cells.toArray 50 ∧ Blk W2 (w.heap.size + 1) (accA Kt.zero) 65 ∧ Blk W2 (w.heap.size + 2) (accA (Kt.zero.put 0 (km.n 0 + km.n 5))) 65 ∧ Below w.heap.size w W2 ∧ W2.heap.size = w.heap.size + 3 :=
    ⟨_, rfl, X1.setOther (p := ⟨w.heap.size + 2, 0, none⟩) (by show w.heap.size ≠ w.heap.size + 2; omega) _, Y1.setOther (p := ⟨w.heap.size + 2, 0, none⟩) (by show w.heap.size + 1 ≠ w.heap.size + 2; omega) _, by rw [← accA_set _ 0 (by omega)]; exact D1.set 0 _, B1.setCell (p := ⟨w.heap.size + 2, 0, none⟩) (by show w.heap.size ≤ w.heap.size + 2; omega) _, by rw [← Z1]; simp [World.setCell]⟩
  have e5 : W2.cell? ⟨w.heap.size, 5, none⟩ = some (.int .i64 (km.n 5)) := X2.cell rfl
  have g1 : W2.cell? ⟨w.heap.size + 2, 1, none⟩ = some (.int .i64 0) := D2.cell rfl
  have f1 : W2.frozen? ⟨w.heap.size + 2, 1, none⟩ = false := D2.frozen
  obtain ⟨W3, hW3, X3, Y3, D3, B3, Z3⟩ : ∃ W3, W2.setCell ⟨w.heap.size + 2, 1, none⟩ (.int .i64 (km.n 5)) = W3 ∧ Blk W3 w.heap.size km.cells.toArray 50 ∧ Blk W3 (w.heap.size + 1) (accA Kt.zero) 65 ∧ Blk W3 (w.heap.size + 2) (accA (upTo ka 0)) 65 ∧ Below w.heap.size w W3 ∧ W3.heap.size = w.heap.size + 3 :=
    ⟨_, rfl, X2.setOther (p := ⟨w.heap.size + 2, 1, none⟩) (by show w.heap.size ≠ w.heap.size + 2; omega) _, Y2.setOther (p := ⟨w.heap.size + 2, 1, none⟩) (by show w.heap.size + 1 ≠ w.heap.size + 2; omega) _, by rw [← upTo_zero, ← accA_set _ 1 (by omega), ← H1.out, ← H2.out]; exact D2.set 1 _, B2.setCell (p := ⟨w.heap.size + 2, 1, none⟩) (by show w.heap.size ≤ w.heap.size + 2; omega) _, by rw [← Z2]; simp [World.setCell]⟩
  clear Z1 Z2 Z3 X1 Y1 D1 B1 X2 Y2 D2 B2
  go_enter Tryd.func49, Tryd.ntmps49
  go_wp2
  go_loopw [4] (fun i wr => ∃ j : Nat, j ≤ 4 ∧ i = .int .i64 j ∧ Blk wr w.heap.size km.cells.toArray 50 ∧ Blk wr (w.heap.size + 1) (accA Kt.zero) 65 ∧ Blk wr (w.heap.size + 2) (accA (upTo ka j)) 65 ∧ Below w.heap.size w wr) (fun i _ => 4 - (intOf i).toNat)
  case atStart => exact ⟨0, by omega, rfl, X3, Y3, D3, B3⟩
  case round =>
    obtain ⟨j, hj, rfl, Xr, Yr, Dr, br⟩ := hrel
    by_cases hlt : j < 4
    · have hd : decide ((j : Int) < 4) = true := by simp only [decide_eq_true_eq]; omega
      obtain ⟨t1, t2, t3, t4, t5⟩ := HS.out (j + 1) (by omega)
      have a1 : apf (j + 1) = 2 + j := by unfold apf; rw [if_neg (by omega)]; omega
      have a2 : hpf (j + 1) = 6 + j := by unfold hpf; rw [if_neg (by omega)]; omega
      have a3 : 5 + (j + 1) = 6 + j := by omega
      rw [a1, a3] at t1
      rw [a2, a3] at t2
      rw [a3] at t4
      rw [a1] at t5
      have bd : km.n (j + 1) ≤ 1099511627776 ∧ km.n (6 + j) ≤ 1099511627776 := by omega
      have T1 : Hid _ := t1
      have T2 : Hid _ := t2
      have p1 : wr.cell? ⟨w.heap.size, j + 1, none⟩ = some (.int .i64 (km.n (j + 1))) := Xr.cell (by rw [List.getElem?_toArray]; exact Kt.num km (j + 1) (by omega))
      have p2 : wr.cell? ⟨w.heap.size, 5 + (j + 1), none⟩ = some (.int .i64 (km.n (6 + j))) := Xr.cell (by rw [List.getElem?_toArray, a3]; exact Kt.num km (6 + j) (by omega))
      have q1 : wr.cell? ⟨w.heap.size + 2, 2 + j, none⟩ = some (.int .i64 ((upTo ka j).n (2 + j))) := Dr.cell (accA_get' _ _ (by omega))
      have q2 : wr.frozen? ⟨w.heap.size + 2, 2 + j, none⟩ = false := Dr.frozen
      obtain ⟨W4, hW4, X4, Y4, D4, B4⟩ : ∃ W4, wr.setCell ⟨w.heap.size + 2, 2 + j, none⟩ (.int .i64 (km.n (j + 1) + km.n (6 + j))) = W4 ∧ Blk W4 w.heap.size km.cells.toArray 50 ∧ Blk W4 (w.heap.size + 1) (accA Kt.zero) 65 ∧ Blk W4 (w.heap.size + 2) (accA ((upTo ka j).put (2 + j) (km.n (j + 1) + km.n (6 + j)))) 65 ∧ Below w.heap.size w W4 :=
        ⟨_, rfl, Xr.setOther (p := ⟨w.heap.size + 2, 2 + j, none⟩) (by show w.heap.size ≠ w.heap.size + 2; omega) _, Yr.setOther (p := ⟨w.heap.size + 2, 2 + j, none⟩) (by show w.heap.size + 1 ≠ w.heap.size + 2; omega) _, by rw [← accA_set _ _ (by omega)]; exact Dr.set _ _, br.setCell (p := ⟨w.heap.size + 2, 2 + j, none⟩) (by show w.heap.size ≤ w.heap.size + 2; omega) _⟩
      have r2 : W4.cell? ⟨w.heap.size, 5 + (j + 1), none⟩ = some (.int .i64 (km.n (6 + j))) := X4.cell (by rw [List.getElem?_toArray, a3]; exact Kt.num km (6 + j) (by omega))
      have r3 : W4.cell? ⟨w.heap.size + 2, 6 + j, none⟩ = some (.int .i64 (((upTo ka j).put (2 + j) (km.n (j + 1) + km.n (6 + j))).n (6 + j))) := D4.cell (accA_get' _ _ (by omega))
      have r4 : W4.frozen? ⟨w.heap.size + 2, 6 + j, none⟩ = false := D4.frozen
      obtain ⟨W5, hW5, X5, Y5, D5, B5⟩ : ∃ W5, W4.setCell ⟨w.heap.size + 2, 6 + j, none⟩ (.int .i64 (km.n (6 + j))) = W5 ∧ Blk W5 w.heap.size km.cells.toArray 50 ∧ Blk W5 (w.heap.size + 1) (accA Kt.zero) 65 ∧ Blk W5 (w.heap.size + 2) (accA (upTo ka (j + 1))) 65 ∧ Below w.heap.size w W5 :=
        ⟨_, rfl, X4.setOther (p := ⟨w.heap.size + 2, 6 + j, none⟩) (by show w.heap.size ≠ w.heap.size + 2; omega) _, Y4.setOther (p := ⟨w.heap.size + 2, 6 + j, none⟩) (by show w.heap.size + 1 ≠ w.heap.size + 2; omega) _, by rw [← upTo_succ _ _ hlt, ← accA_set _ (6 + j) (by omega), ← T1.out, ← T2.out]; exact D4.set _ _, B4.setCell (p := ⟨w.heap.size + 2, 6 + j, none⟩) (by show w.heap.size ≤ w.heap.size + 2; omega) _⟩
      have HX5 : Hid _ := X5
      have HY5 : Hid _ := Y5
      have HD5 : Hid _ := D5
      clear X4 Y4 D4 X5 Y5 D5 t1 t2 a1 a2 a3 Xr Yr Dr
      generalize (upTo ka j).n (2 + j) = o1 at *
      generalize ((upTo ka j).put (2 + j) (km.n (j + 1) + km.n (6 + j))).n (6 + j) = o2 at *
      generalize km.n (j + 1) = x at *
      generalize km.n (6 + j) = y at *
      go_wp2
      go_region
      go_wp2
      refine ⟨⟨j + 1, by omega, by norm_cast, Blk.drew HX5.out, Blk.drew HY5.out, Blk.drew HD5.out, B5.drew⟩, ?_⟩
      simp [intOf]; omega
    · have hd : decide ((j : Int) < 4) = false := by simp only [decide_eq_false_iff_not]; omega
      have hj4 : j = 4 := by omega
      subst hj4
      rw [upTo_four] at Dr
      obtain ⟨W9, hW9, Y9, B9⟩ : ∃ W9, wr.setRow (w.heap.size + 1) (accA ka) = W9 ∧ Blk W9 (w.heap.size + 1) (accA ka) 65 ∧ Below w.heap.size w W9 := ⟨_, rfl, Yr.setRow _, below_setRow br _ _ (by omega)⟩
      have u0 : wr.cell? ⟨w.heap.size + 2, 0, none⟩ = some (.int .i64 (ka.n 0)) := Dr.cell rfl
      have u1 : wr.cell? ⟨w.heap.size + 2, 1, none⟩ = some (.int .i64 (ka.n 1)) := Dr.cell rfl
      have u2 : wr.cell? ⟨w.heap.size + 2, 2, none⟩ = some (.int .i64 (ka.n 2)) := Dr.cell rfl
      have u3 : wr.cell? ⟨w.heap.size + 2, 3, none⟩ = some (.int .i64 (ka.n 3)) := Dr.cell rfl
      have u4 : wr.cell? ⟨w.heap.size + 2, 4, none⟩ = some (.int .i64 (ka.n 4)) := Dr.cell rfl
      have u5 : wr.cell? ⟨w.heap.size + 2, 5, none⟩ = some (.int .i64 (ka.n 5)) := Dr.cell rfl
      have u6 : wr.cell? ⟨w.heap.size + 2, 6, none⟩ = some (.int .i64 (ka.n 6)) := Dr.cell rfl
      have u7 : wr.cell? ⟨w.heap.size + 2, 7, none⟩ = some (.int .i64 (ka.n 7)) := Dr.cell rfl
      have u8 : wr.cell? ⟨w.heap.size + 2, 8, none⟩ = some (.int .i64 (ka.n 8)) := Dr.cell rfl
      have u9 : wr.cell? ⟨w.heap.size + 2, 9, none⟩ = some (.int .i64 (ka.n 9)) := Dr.cell rfl
      have v0 : W9.cell? ⟨w.heap.size + 1, 0, none⟩ = some (.int .i64 (ka.n 0)) := Y9.cell rfl
      have v1 : W9.cell? ⟨w.heap.size + 1, 1, none⟩ = some (.int .i64 (ka.n 1)) := Y9.cell rfl
      have v2 : W9.cell? ⟨w.heap.size + 1, 2, none⟩ = some (.int .i64 (ka.n 2)) := Y9.cell rfl
      have v3 : W9.cell? ⟨w.heap.size + 1, 3, none⟩ = some (.int .i64 (ka.n 3)) := Y9.cell rfl
      have v4 : W9.cell? ⟨w.heap.size + 1, 4, none⟩ = some (.int .i64 (ka.n 4)) := Y9.cell rfl
      have v5 : W9.cell? ⟨w.heap.size + 1, 5, none⟩ = some (.int .i64 (ka.n 5)) := Y9.cell rfl
      have v6 : W9.cell? ⟨w.heap.size + 1, 6, none⟩ = some (.int .i64 (ka.n 6)) := Y9.cell rfl
      have v7 : W9.cell? ⟨w.heap.size + 1, 7, none⟩ = some (.int .i64 (ka.n 7)) := Y9.cell rfl
      have v8 : W9.cell? ⟨w.heap.size + 1, 8, none⟩ = some (.int .i64 (ka.n 8)) := Y9.cell rfl
      have v9 : W9.cell? ⟨w.heap.size + 1, 9, none⟩ = some (.int .i64 (ka.n 9)) := Y9.cell rfl
      go_wp2_with ((with_reducible refine st_row (ty := 65) (cs' := accA ka) Yr (accA_info _) (accA_same _ _) (accA_one _) hW9 ?_ ?_ ?_); rfl; rfl)
      try simp only [Exit.inBlock, Exit.then]
      refine bodyPost_ret (by simp [results, Tryd.results49, go_sem, v0, v1, v2, v3, v4, v5, v6, v7, v8, v9]; rfl) rfl ?_
      exact ⟨rfl, B9⟩
end Go.Proofs.YtmcafgmjfgfaeaaDoor
