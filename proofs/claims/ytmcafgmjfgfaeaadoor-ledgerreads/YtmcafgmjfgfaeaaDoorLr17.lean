/- New, Account, Last, Mark. -/
import Derived.Test.YtmcafgmjfgfaeaaDoorLr11
import Derived.Test.YtmcafgmjfgfaeaaDoorLr12
import Derived.Test.YtmcafgmjfgfaeaaDoorLr04
namespace Go.Proofs.YtmcafgmjfgfaeaaDoor
open Go.RowKit
set_option linter.unusedSimpArgs false
set_option linter.unusedVariables false
variable {p b g : Nat} {l : List Kt}

theorem infoKept : (Tryd.prog.info? 67).map (fun i => (i.zero, i.size, i.bytes)) = some (some (.agg Kt.zero.cells.toArray), 12, 104) := by kernel_rfl
theorem kAt_rep (k i : Nat) : kAt (List.replicate k Kt.zero) i = Kt.zero := by
  unfold kAt
  rw [List.getElem?_replicate]
  split <;> rfl
theorem made_kept (k : Nat) : madeCells (Value.agg Kt.zero.cells.toArray).cells (k * 12) = kC (List.replicate k Kt.zero) := by
  apply Array.ext_getElem?
  intro i
  by_cases hi : i < k * 12
  · have hr : i % 12 < 12 := Nat.mod_lt _ (by omega)
    have hk := kC_get (l := List.replicate k Kt.zero) (i := i / 12) (i % 12) (v := Kt.zero.cells.toArray[i % 12]!) (by simp; omega) (by
      rw [kAt_rep]
      have : i % 12 = 0 ∨ i % 12 = 1 ∨ i % 12 = 2 ∨ i % 12 = 3 ∨ i % 12 = 4 ∨ i % 12 = 5 ∨ i % 12 = 6 ∨ i % 12 = 7 ∨ i % 12 = 8 ∨ i % 12 = 9 ∨ i % 12 = 10 ∨ i % 12 = 11 := by omega
      rcases this with h | h | h | h | h | h | h | h | h | h | h | h <;> rw [h] <;> rfl)
    have e : i / 12 * 12 + i % 12 = i := by omega
    rw [e] at hk
    rw [hk]
    unfold madeCells
    rw [Array.getElem?_map, Array.getElem?_range, if_pos hi]
    rfl
  · rw [Array.getElem?_eq_none (by rw [size_madeCells]; omega), Array.getElem?_eq_none (by rw [kC_size]; simp; omega)]

set_option maxRecDepth 100000 in
theorem new_bad (c gg : Int) (w : World) (h : ¬ (1 ≤ c ∧ c ≤ 16 ∧ 1 ≤ gg ∧ gg ≤ 4)) : Calls Tryd.prog 16 #[.int .i64 c, .int .i64 gg] w fun e w' => e = .returned (.tuple #[.pointer none, .int .i64 1]) ∧ w' = w := by
  have HH : Hid _ := h
  clear h
  cases d1 : decide (c < 1)
  · cases d2 : decide (16 < c)
    · cases d3 : decide (gg < 1)
      · cases d4 : decide (4 < gg)
        · simp at d1 d2 d3 d4
          exact absurd ⟨by omega, by omega, by omega, by omega⟩ HH.out
        · go_enter Tryd.func16, Tryd.ntmps16
          go_wp2
          go_ret2
          exact ⟨rfl, rfl⟩
      · go_enter Tryd.func16, Tryd.ntmps16
        go_wp2
        go_ret2
        exact ⟨rfl, rfl⟩
    · go_enter Tryd.func16, Tryd.ntmps16
      go_wp2
      go_ret2
      exact ⟨rfl, rfl⟩
  · go_enter Tryd.func16, Tryd.ntmps16
    go_wp2
    go_ret2
    exact ⟨rfl, rfl⟩

set_option maxRecDepth 100000 in
theorem new_ok (c gg : Int) (w : World) (h1 : 1 ≤ c) (h2 : c ≤ 16) (h3 : 1 ≤ gg) (h4 : gg ≤ 4) : Calls Tryd.prog 16 #[.int .i64 c, .int .i64 gg] w fun e w' =>
    ∃ p b, e = .returned (.tuple #[.pointer (some ⟨p, 0, none⟩), .int .i64 0]) ∧ Lg w' p b gg.toNat (List.replicate c.toNat Kt.zero) ∧ Below w.heap.size w w' ∧ w.heap.size ≤ p ∧ w.heap.size ≤ b := by
  obtain ⟨k, rfl⟩ := Int.eq_ofNat_of_zero_le (show 0 ≤ c by omega)
  obtain ⟨q, rfl⟩ := Int.eq_ofNat_of_zero_le (show 0 ≤ gg by omega)
  obtain ⟨i0, hi, hz0, hz1, hz2⟩ := info_parts infoKept
  have hmk : ∀ W : World, (Instr.makeSlice 60 (.int .i64 (k : Int)) (.int .i64 (k : Int))).run Tryd.prog W = .ok (.slice (some ⟨W.heap.size, 0, none⟩) k k) (W.alloc (.cells (kC (List.replicate k Kt.zero)) 67)) := fun W => by
    have h := run_make (P := Tryd.prog) W 60 67 i0 _ Tryd.underlying60 hi hz0 .i64 .i64 (k : Int) (k : Int) (by omega) (by omega) (by rw [hz2]; omega) (by omega)
    rw [hz1, Int.toNat_natCast, made_kept] at h
    exact h
  have d1 : decide ((k : Int) < 1) = false := by simp; omega
  have d2 : decide (16 < (k : Int)) = false := by simp; omega
  have d3 : decide ((q : Int) < 1) = false := by simp; omega
  have d4 : decide (4 < (q : Int)) = false := by simp; omega
  have hv := inv_zero k q (by omega) (by omega) (by omega) (by omega)
  have HV : Hid _ := hv
  clear hv
  have HC : Hid (∀ W : World, Blk (W.alloc (.cells (kC (List.replicate k Kt.zero)) 67)) W.heap.size (kC (List.replicate k Kt.zero)) 67) := fun W => blk_new _ _ _ _ rfl
  have HN : Hid ((List.replicate k Kt.zero).length = k) := by show _ = _; simp
  simp only [Int.toNat_natCast]
  generalize List.replicate k Kt.zero = L at *
  go_enter Tryd.func16, Tryd.ntmps16
  go_wp2
  go_ret2
  refine ⟨w.heap.size + 1, w.heap.size, rfl, ⟨?_, (HC.out w).alloc _, by omega, HV.out⟩, by go_grown, by omega, by omega⟩
  rw [HN.out]
  exact blk_new _ _ _ _ (by simp)

/-- An account as a value. -/
def accA (k : Kt) : Array Value := #[.int .i64 (k.n 0), .int .i64 (k.n 1), .int .i64 (k.n 2), .int .i64 (k.n 3), .int .i64 (k.n 4), .int .i64 (k.n 5), .int .i64 (k.n 6), .int .i64 (k.n 7), .int .i64 (k.n 8), .int .i64 (k.n 9)]
def accV (k : Kt) : Value := .agg (accA k)
theorem accA_info (k : Kt) : (Tryd.prog.info? 65).map (·.size) = some (accA k).size := by kernel_rfl
theorem accA_same (k k' : Kt) : (accA k).size = (accA k').size := rfl
theorem accA_one (k : Kt) : (accA k).all (·.oneCell') = true := by kernel_rfl

set_option maxRecDepth 100000 in
set_option maxHeartbeats 1000000 in
theorem account_ok (w : World) (h : Lg w p b g l) (z : Int) (h0 : 0 ≤ z) (h1 : z < l.length) : Calls Tryd.prog 47 #[.pointer (some ⟨p, 0, none⟩), .int .i64 z] w fun e w' => e = .returned (.tuple #[accV (kAt l z.toNat), .bool true]) ∧ Below w.heap.size w w' := by
  obtain ⟨i, rfl⟩ := Int.eq_ofNat_of_zero_le h0
  have hi : i < l.length := by omega
  have hlen := h.inv.len
  rw [Int.toNat_natCast]
  obtain ⟨W0, hW0, X0, B0, Z0⟩ : ∃ W0, (w.alloc (.cells #[.int .i64 0, .int .i64 0, .int .i64 0, .int .i64 0, .int .i64 0, .int .i64 0, .int .i64 0, .int .i64 0, .int .i64 0, .int .i64 0] 65)) = W0 ∧ Blk W0 w.heap.size (accA Kt.zero) 65 ∧ Below w.heap.size w W0 ∧ W0.heap.size = w.heap.size + 1 := ⟨_, rfl, blk_new _ _ _ _ rfl, by go_grown, by simp⟩
  have hL := h.below B0
  have hma := made_calls W0 hL
  have hha := has_calls W0 hL i
  rw [show decide (0 ≤ (i : Int) ∧ (i : Int) < l.length) = true from decide_eq_true ⟨h0, h1⟩] at hha
  have c0 : W0.cell? ⟨p, 0, none⟩ = some (.slice (some ⟨b, 0, none⟩) l.length l.length) := hL.blk.cell rfl
  have n0 := hL.num0 hi
  have n1 := hL.num 1 hi (by omega)
  have n2 := hL.num 2 hi (by omega)
  have n3 := hL.num 3 hi (by omega)
  have n4 := hL.num 4 hi (by omega)
  have n5 := hL.num 5 hi (by omega)
  have n6 := hL.num 6 hi (by omega)
  have n7 := hL.num 7 hi (by omega)
  have n8 := hL.num 8 hi (by omega)
  have n9 := hL.num 9 hi (by omega)
  have hun := Tryd.underlying65
  obtain ⟨W1, hW1, X1, B1⟩ : ∃ W1, W0.setRow w.heap.size (accA (kAt l i)) = W1 ∧ Blk W1 w.heap.size (accA (kAt l i)) 65 ∧ Below w.heap.size w W1 := ⟨_, rfl, X0.setRow _, below_setRow B0 _ _ (Nat.le_refl _)⟩
  have HX : Hid _ := X0
  go_enter Tryd.func47, Tryd.ntmps47
  go_wp2_with fail
  refine hma.mono ?_
  rintro e w1 ⟨rfl, rfl⟩
  go_wp2_with fail
  refine hha.mono ?_
  rintro e w2 ⟨rfl, rfl⟩
  go_wp2_with ((with_reducible refine st_row (ty := 65) (cs' := accA (kAt l i)) X0 (accA_info _) (accA_same _ _) (accA_one _) hW1 ?_ ?_ ?_); rfl; rfl)
  try simp only [Exit.inBlock, Exit.then]
  have s0 : W1.cell? ⟨w.heap.size, 0, none⟩ = some (.int .i64 ((kAt l i).n 0)) := X1.cell rfl
  have s1 : W1.cell? ⟨w.heap.size, 1, none⟩ = some (.int .i64 ((kAt l i).n 1)) := X1.cell rfl
  have s2 : W1.cell? ⟨w.heap.size, 2, none⟩ = some (.int .i64 ((kAt l i).n 2)) := X1.cell rfl
  have s3 : W1.cell? ⟨w.heap.size, 3, none⟩ = some (.int .i64 ((kAt l i).n 3)) := X1.cell rfl
  have s4 : W1.cell? ⟨w.heap.size, 4, none⟩ = some (.int .i64 ((kAt l i).n 4)) := X1.cell rfl
  have s5 : W1.cell? ⟨w.heap.size, 5, none⟩ = some (.int .i64 ((kAt l i).n 5)) := X1.cell rfl
  have s6 : W1.cell? ⟨w.heap.size, 6, none⟩ = some (.int .i64 ((kAt l i).n 6)) := X1.cell rfl
  have s7 : W1.cell? ⟨w.heap.size, 7, none⟩ = some (.int .i64 ((kAt l i).n 7)) := X1.cell rfl
  have s8 : W1.cell? ⟨w.heap.size, 8, none⟩ = some (.int .i64 ((kAt l i).n 8)) := X1.cell rfl
  have s9 : W1.cell? ⟨w.heap.size, 9, none⟩ = some (.int .i64 ((kAt l i).n 9)) := X1.cell rfl
  refine bodyPost_ret (by simp [results, Tryd.results47, go_sem, s0, s1, s2, s3, s4, s5, s6, s7, s8, s9]; rfl) rfl ?_
  exact ⟨rfl, B1⟩

set_option maxRecDepth 100000 in
set_option maxHeartbeats 1000000 in
theorem account_bad (w : World) (h : Lg w p b g l) (z : Int) (h0 : ¬ (0 ≤ z ∧ z < l.length)) : Calls Tryd.prog 47 #[.pointer (some ⟨p, 0, none⟩), .int .i64 z] w fun e w' => e = .returned (.tuple #[accV Kt.zero, .bool false]) ∧ Below w.heap.size w w' := by
  obtain ⟨W0, hW0, X0, B0, Z0⟩ : ∃ W0, (w.alloc (.cells #[.int .i64 0, .int .i64 0, .int .i64 0, .int .i64 0, .int .i64 0, .int .i64 0, .int .i64 0, .int .i64 0, .int .i64 0, .int .i64 0] 65)) = W0 ∧ Blk W0 w.heap.size (accA Kt.zero) 65 ∧ Below w.heap.size w W0 ∧ W0.heap.size = w.heap.size + 1 := ⟨_, rfl, blk_new _ _ _ _ rfl, by go_grown, by simp⟩
  have hL := h.below B0
  have hma := made_calls W0 hL
  have hha := has_calls W0 hL z
  rw [show decide (0 ≤ z ∧ z < (l.length : Int)) = false from decide_eq_false h0] at hha
  obtain ⟨W1, hW1, X1, B1⟩ : ∃ W1, W0.setRow w.heap.size (accA Kt.zero) = W1 ∧ Blk W1 w.heap.size (accA Kt.zero) 65 ∧ Below w.heap.size w W1 := ⟨_, rfl, X0.setRow _, below_setRow B0 _ _ (Nat.le_refl _)⟩
  go_enter Tryd.func47, Tryd.ntmps47
  go_wp2_with fail
  refine hma.mono ?_
  rintro e w1 ⟨rfl, rfl⟩
  go_wp2_with fail
  refine hha.mono ?_
  rintro e w2 ⟨rfl, rfl⟩
  go_wp2_with ((with_reducible refine st_row (ty := 65) (cs' := accA Kt.zero) X0 (accA_info _) (accA_same _ _) (accA_one _) hW1 ?_ ?_ ?_); rfl; rfl)
  try simp only [Exit.inBlock, Exit.then]
  have s0 : W1.cell? ⟨w.heap.size, 0, none⟩ = some (.int .i64 0) := X1.cell rfl
  have s1 : W1.cell? ⟨w.heap.size, 1, none⟩ = some (.int .i64 0) := X1.cell rfl
  have s2 : W1.cell? ⟨w.heap.size, 2, none⟩ = some (.int .i64 0) := X1.cell rfl
  have s3 : W1.cell? ⟨w.heap.size, 3, none⟩ = some (.int .i64 0) := X1.cell rfl
  have s4 : W1.cell? ⟨w.heap.size, 4, none⟩ = some (.int .i64 0) := X1.cell rfl
  have s5 : W1.cell? ⟨w.heap.size, 5, none⟩ = some (.int .i64 0) := X1.cell rfl
  have s6 : W1.cell? ⟨w.heap.size, 6, none⟩ = some (.int .i64 0) := X1.cell rfl
  have s7 : W1.cell? ⟨w.heap.size, 7, none⟩ = some (.int .i64 0) := X1.cell rfl
  have s8 : W1.cell? ⟨w.heap.size, 8, none⟩ = some (.int .i64 0) := X1.cell rfl
  have s9 : W1.cell? ⟨w.heap.size, 9, none⟩ = some (.int .i64 0) := X1.cell rfl
  refine bodyPost_ret (by simp [results, Tryd.results47, go_sem, s0, s1, s2, s3, s4, s5, s6, s7, s8, s9]; rfl) rfl ?_
  exact ⟨rfl, B1⟩

set_option maxRecDepth 100000 in
set_option maxHeartbeats 1000000 in
theorem last_ok (w : World) (h : Lg w p b g l) (z : Int) (h0 : 0 ≤ z) (h1 : z < l.length) : Calls Tryd.prog 48 #[.pointer (some ⟨p, 0, none⟩), .int .i64 z] w fun e w' => e = .returned (.tuple #[.int .i64 ((kAt l z.toNat).n 10), .string (kAt l z.toNat).reply]) ∧ Below w.heap.size w w' := by
  obtain ⟨i, rfl⟩ := Int.eq_ofNat_of_zero_le h0
  have hi : i < l.length := by omega
  have hlen := h.inv.len
  rw [Int.toNat_natCast]
  have hma := made_calls w h
  have hha := has_calls w h i
  rw [show decide (0 ≤ (i : Int) ∧ (i : Int) < l.length) = true from decide_eq_true ⟨h0, h1⟩] at hha
  have c0 : w.cell? ⟨p, 0, none⟩ = some (.slice (some ⟨b, 0, none⟩) l.length l.length) := h.blk.cell rfl
  have n0 := h.num0 hi
  have n1 := h.num 1 hi (by omega)
  have n2 := h.num 2 hi (by omega)
  have n3 := h.num 3 hi (by omega)
  have n4 := h.num 4 hi (by omega)
  have n5 := h.num 5 hi (by omega)
  have n6 := h.num 6 hi (by omega)
  have n7 := h.num 7 hi (by omega)
  have n8 := h.num 8 hi (by omega)
  have n9 := h.num 9 hi (by omega)
  have n10 := h.num 10 hi (by omega)
  have n11 := h.rep hi
  generalize kAt l i = kk at *
  obtain ⟨W1, hW1, X1, B1⟩ : ∃ W1, (w.alloc (.cells #[.int .i64 (kk.n 0), .int .i64 (kk.n 1), .int .i64 (kk.n 2), .int .i64 (kk.n 3), .int .i64 (kk.n 4), .int .i64 (kk.n 5), .int .i64 (kk.n 6), .int .i64 (kk.n 7), .int .i64 (kk.n 8), .int .i64 (kk.n 9), .int .i64 (kk.n 10), .string kk.reply] 67)) = W1 ∧ Blk W1 w.heap.size kk.cells.toArray 67 ∧ Below w.heap.size w W1 := ⟨_, rfl, blk_new _ _ _ _ rfl, by go_grown⟩
  have d10 : W1.cell? ⟨w.heap.size, 10, none⟩ = some (.int .i64 (kk.n 10)) := X1.cell rfl
  have d11 : W1.cell? ⟨w.heap.size, 11, none⟩ = some (.string kk.reply) := X1.cell rfl
  go_enter Tryd.func48, Tryd.ntmps48
  go_wp2_with fail
  refine hma.mono ?_
  rintro e w1 ⟨rfl, rfl⟩
  go_wp2_with fail
  refine hha.mono ?_
  rintro e w2 ⟨rfl, rfl⟩
  go_wp2
  go_region
  go_wp2
  go_ret2
  exact ⟨rfl, B1.drew⟩
end Go.Proofs.YtmcafgmjfgfaeaaDoor
