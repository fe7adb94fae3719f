/- New, Last, atTop, Demand, Wants. -/
import Derived.Test.YteinfckkpkbnlaaCkM
import Derived.Test.YteinfckkpkbnlaaQtS
namespace Go.Proofs.Yteinfckkpkbnlaa
open Go.RowKit
set_option linter.unusedSimpArgs false
set_option linter.unusedVariables false
variable {p b : Nat} {a : Au}

theorem infoDm : (Try.prog.info? 68).map (fun i => (i.zero, i.size, i.bytes)) = some (some (.agg #[.int .i64 0, .int .i64 0]), 2, 16) := by kernel_rfl
theorem made_dm (k : Nat) : madeCells (Value.agg #[.int .i64 0, .int .i64 0]).cells (k * 2) = dC (List.replicate k ⟨0, 0⟩) := by
  apply Array.ext_getElem?
  intro i
  by_cases hi : i < k * 2
  · have hr : i % 2 < 2 := Nat.mod_lt _ (by omega)
    have hk := dC_get (l := List.replicate k ⟨0, 0⟩) (i := i / 2) (i % 2) (v := .int .i64 0) (by simp; omega) (by
      rw [dAt_rep]
      have : i % 2 = 0 ∨ i % 2 = 1 := by omega
      rcases this with h | h <;> rw [h] <;> rfl)
    have e : i / 2 * 2 + i % 2 = i := by omega
    rw [e] at hk
    rw [hk]
    unfold madeCells
    rw [Array.getElem?_map, Array.getElem?_range, if_pos hi]
    have : i % 2 = 0 ∨ i % 2 = 1 := by omega
    rcases this with h | h <;> simp [Value.cells, h]
  · rw [Array.getElem?_eq_none (by rw [size_madeCells]; omega), Array.getElem?_eq_none (by rw [dC_size]; simp; omega)]

set_option maxRecDepth 100000 in
theorem new_bad (s q d n : Int) (w : World) (h : ¬ Au.fits s q d n) : Calls Try.prog 4 #[.int .i64 s, .int .i64 q, .int .i64 d, .int .i64 n] w fun e w' => e = .returned (.tuple #[.pointer none, .int .i64 1]) ∧ w' = w := by
  have HH : Hid _ := h
  clear h
  have HW : Hid _ := inn_calls
  cases d1 : decide (0 ≤ q ∧ q ≤ 1099511627776)
  · go_enter Try.func4, Try.ntmps4
    go_wp2_with fail
    refine Calls.mono (HW.out _ _ _ _) ?_
    rintro e w1 ⟨rfl, rfl⟩
    rw [d1]
    go_wp2
    go_ret2
    exact ⟨rfl, rfl⟩
  · cases d2 : decide (1 ≤ d ∧ d ≤ 1099511627776)
    · go_enter Try.func4, Try.ntmps4
      go_wp2_with fail
      refine Calls.mono (HW.out _ _ _ _) ?_
      rintro e w1 ⟨rfl, rfl⟩
      rw [d1]
      go_wp2_with fail
      refine Calls.mono (HW.out _ _ _ _) ?_
      rintro e w1 ⟨rfl, rfl⟩
      rw [d2]
      go_wp2
      go_ret2
      exact ⟨rfl, rfl⟩
    · cases d3 : decide (1 ≤ s ∧ s ≤ 1048576)
      · go_enter Try.func4, Try.ntmps4
        go_wp2_with fail
        refine Calls.mono (HW.out _ _ _ _) ?_
        rintro e w1 ⟨rfl, rfl⟩
        rw [d1]
        go_wp2_with fail
        refine Calls.mono (HW.out _ _ _ _) ?_
        rintro e w1 ⟨rfl, rfl⟩
        rw [d2]
        go_wp2_with fail
        refine Calls.mono (HW.out _ _ _ _) ?_
        rintro e w1 ⟨rfl, rfl⟩
        rw [d3]
        go_wp2
        go_ret2
        exact ⟨rfl, rfl⟩
      · cases d4 : decide (1 ≤ n ∧ n ≤ 16)
        · go_enter Try.func4, Try.ntmps4
          go_wp2_with fail
          refine Calls.mono (HW.out _ _ _ _) ?_
          rintro e w1 ⟨rfl, rfl⟩
          rw [d1]
          go_wp2_with fail
          refine Calls.mono (HW.out _ _ _ _) ?_
          rintro e w1 ⟨rfl, rfl⟩
          rw [d2]
          go_wp2_with fail
          refine Calls.mono (HW.out _ _ _ _) ?_
          rintro e w1 ⟨rfl, rfl⟩
          rw [d3]
          go_wp2_with fail
          refine Calls.mono (HW.out _ _ _ _) ?_
          rintro e w1 ⟨rfl, rfl⟩
          rw [d4]
          go_wp2
          go_ret2
          exact ⟨rfl, rfl⟩
        · exact absurd ⟨of_decide_eq_true d3, of_decide_eq_true d1, of_decide_eq_true d2, of_decide_eq_true d4⟩ HH.out

set_option maxRecDepth 100000 in
theorem new_ok (s q d n : Int) (w : World) (h : Au.fits s q d n) : Calls Try.prog 4 #[.int .i64 s, .int .i64 q, .int .i64 d, .int .i64 n] w fun e w' =>
    ∃ p b, e = .returned (.tuple #[.pointer (some ⟨p, 0, none⟩), .int .i64 0]) ∧ Lc w' p b (Au.new s q d n.toNat) ∧ Below w.heap.size w w' ∧ w.heap.size ≤ p ∧ w.heap.size ≤ b := by
  have HV : Hid _ := Inv.new h
  obtain ⟨h3, h1, h2, h4⟩ := h
  have HW : Hid _ := inn_calls
  have d1 : decide (0 ≤ q ∧ q ≤ 1099511627776) = true := decide_eq_true h1
  have d2 : decide (1 ≤ d ∧ d ≤ 1099511627776) = true := decide_eq_true h2
  have d3 : decide (1 ≤ s ∧ s ≤ 1048576) = true := decide_eq_true h3
  have d4 : decide (1 ≤ n ∧ n ≤ 16) = true := decide_eq_true h4
  obtain ⟨k, rfl⟩ := Int.eq_ofNat_of_zero_le (show 0 ≤ n by omega)
  obtain ⟨i0, hi, hz0, hz1, hz2⟩ := info_parts infoDm
  have hmk : ∀ W : World, (Instr.makeSlice 40 (.int .i64 (k : Int)) (.int .i64 (k : Int))).run Try.prog W = .ok (.slice (some ⟨W.heap.size, 0, none⟩) k k) (W.alloc (.cells (dC (List.replicate k ⟨0, 0⟩)) 68)) := fun W => by
    have h := run_make (P := Try.prog) W 40 68 i0 _ Try.underlying40 hi hz0 .i64 .i64 (k : Int) (k : Int) (by omega) (by omega) (by rw [hz2]; omega) (by omega)
    rw [hz1, Int.toNat_natCast, made_dm] at h
    exact h
  have HC : Hid (∀ W : World, Blk (W.alloc (.cells (dC (List.replicate k ⟨0, 0⟩)) 68)) W.heap.size (dC (List.replicate k ⟨0, 0⟩)) 68) := fun W => blk_new _ _ _ _ rfl
  have HN : Hid ((List.replicate k (⟨0, 0⟩ : Dm)).length = k) := by show _ = _; simp
  simp only [Int.toNat_natCast, Au.new] at *
  generalize List.replicate k (⟨0, 0⟩ : Dm) = L at *
  clear h1 h2 h3 h4
  go_enter Try.func4, Try.ntmps4
  go_wp2_with fail
  refine Calls.mono (HW.out _ _ _ _) ?_
  rintro e w1 ⟨rfl, rfl⟩
  rw [d1]
  go_wp2_with fail
  refine Calls.mono (HW.out _ _ _ _) ?_
  rintro e w1 ⟨rfl, rfl⟩
  rw [d2]
  go_wp2_with fail
  refine Calls.mono (HW.out _ _ _ _) ?_
  rintro e w1 ⟨rfl, rfl⟩
  rw [d3]
  go_wp2_with fail
  refine Calls.mono (HW.out _ _ _ _) ?_
  rintro e w1 ⟨rfl, rfl⟩
  rw [d4]
  go_wp2
  go_ret2
  refine ⟨w1.heap.size + 1, w1.heap.size, rfl, ⟨?_, (HC.out w1).alloc _, by omega, HV.out⟩, by go_grown, by omega, by omega⟩
  show Blk _ _ #[_, _, _, _, _, .slice _ L.length L.length] _
  rw [HN.out]
  exact blk_new _ _ _ _ (by simp)

theorem Inv.price0 (H : Inv a) : 0 ≤ a.price ∧ a.price ≤ 1099511627776 := by
  have h1 := H.mul
  have h2 := H.st
  have h3 := H.pr
  unfold Au.price at *
  omega
set_option maxRecDepth 100000 in
theorem atTop_calls (w : World) (h : Lc w p b a) : Calls Try.prog 34 #[.pointer (some ⟨p, 0, none⟩)] w fun e w' => e = .returned (.bool (decide (1099511627776 < a.price + a.step))) ∧ Below w.heap.size w w' := by
  have HP : Hid (∀ y : BW w, _) := fun y : BW w => price_calls y.w (h.below y.h)
  have hne := bw_some w
  have y2 := fun y : BW w => y.cell (show w.cell? ⟨p, 2, none⟩ = some (.int .i64 a.step) from h.blk.cell rfl)
  have hp := h.inv.price0
  have hs := h.inv.sp
  generalize a.price = pr at *
  have hwr : IntKind.i64.wrap (pr + a.step) = pr + a.step := by rw [IntKind.wrap_i64]; omega
  go_enter Try.func34, Try.ntmps34
  go_wp2_with fail
  refine wp_region_below (by kernel_rfl) (by kernel_rfl) ?_
  repeat (quiet_step (first | (go_at_call 12; exact BW.call _ (HP.out _))))
  refine wpQuiet_nil ?_
  rintro w4 ⟨⟨_, b4⟩, rfl⟩
  go_wp2
  go_ret
  exact ⟨rfl, b4⟩
def Au.last (a : Au) : Int := if a.round = 1 then 0 else a.price - a.step
set_option maxRecDepth 100000 in
theorem last_calls (w : World) (h : Lc w p b a) : Calls Try.prog 22 #[.pointer (some ⟨p, 0, none⟩)] w fun e w' => e = .returned (.int .i64 a.last) ∧ Below w.heap.size w w' := by
  have hma := made_calls w h
  have HP : Hid (∀ y : BW w, _) := fun y : BW w => price_calls y.w (h.below y.h)
  have hne := bw_some w
  have c3 : w.cell? ⟨p, 3, none⟩ = some (.int .i64 a.round) := h.blk.cell rfl
  have y2 := fun y : BW w => y.cell (show w.cell? ⟨p, 2, none⟩ = some (.int .i64 a.step) from h.blk.cell rfl)
  have hp := h.inv.price0
  have hs := h.inv.sp
  unfold Au.last
  generalize a.price = pr at *
  have hwr : IntKind.i64.wrap (pr - a.step) = pr - a.step := by rw [IntKind.wrap_i64]; omega
  by_cases h1 : a.round = 1
  · rw [if_pos h1]
    rw [h1] at c3
    go_enter Try.func22, Try.ntmps22
    go_wp2_with fail
    refine hma.mono ?_
    rintro e w1 ⟨rfl, rfl⟩
    go_wp2
    go_ret
    exact ⟨rfl, Below.refl _ _⟩
  · have hd : (a.round == 1) = false := by simpa using h1
    rw [if_neg h1]
    go_enter Try.func22, Try.ntmps22
    go_wp2_with fail
    refine hma.mono ?_
    rintro e w1 ⟨rfl, rfl⟩
    go_wp2_with fail
    refine wp_region_below (by kernel_rfl) (by kernel_rfl) ?_
    repeat (quiet_step (first | (go_at_call 12; exact BW.call _ (HP.out _))))
    refine wpQuiet_nil ?_
    rintro w4 ⟨⟨_, b4⟩, rfl⟩
    go_wp2
    go_ret
    exact ⟨rfl, b4⟩
set_option maxRecDepth 100000 in
theorem demand_calls (w : World) (h : Lc w p b a) : Calls Try.prog 18 #[.pointer (some ⟨p, 0, none⟩)] w fun e w' => e = .returned (.int .i64 a.want) ∧ Below w.heap.size w w' := by
  have hma := made_calls w h
  have hlen := h.inv.len
  have c5 : w.cell? ⟨p, 5, none⟩ = some (.slice (some ⟨b, 0, none⟩) a.ds.length a.ds.length) := h.blk.cell rfl
  go_enter Try.func18, Try.ntmps18
  go_wp2_with fail
  refine hma.mono ?_
  rintro e w1 ⟨rfl, rfl⟩
  clear hma
  go_wp2
  go_loopw [3, 14] (fun c i wr => ∃ k : Nat, k ≤ a.ds.length ∧ i = .int .i64 k ∧ c = .int .i64 (sumTo (nowOf a.ds) k) ∧ Below w1.heap.size w1 wr) (fun _ i _ => a.ds.length - (intOf i).toNat)
  case atStart => exact ⟨0, Nat.zero_le _, rfl, rfl, Below.refl _ _⟩
  case round =>
    obtain ⟨k, hk, rfl, rfl, hb⟩ := hrel
    by_cases hlt : k < a.ds.length
    · have hd : decide ((k : Int) < a.ds.length) = true := by simp only [decide_eq_true_eq]; omega
      have hLr := h.below hb
      have n0 := hLr.was hlt
      have n1 := hLr.now hlt
      have t0 := h.inv.wants hk
      have t1 := h.inv.dm k hlt
      have HT : Hid (sumTo (nowOf a.ds) (k + 1) = sumTo (nowOf a.ds) k + nowOf a.ds k) := rfl
      generalize sumTo (nowOf a.ds) k = s at *
      generalize nowOf a.ds k = x at *
      generalize wasOf a.ds k = y at *
      obtain ⟨W1, hW1, X1, B1⟩ : ∃ W1, (wr.alloc (.cells #[.int .i64 y, .int .i64 x] 68)) = W1 ∧ Blk W1 wr.heap.size #[.int .i64 y, .int .i64 x] 68 ∧ Below wr.heap.size wr W1 := ⟨_, rfl, blk_new _ _ _ _ rfl, by go_grown⟩
      have e0 : W1.cell? ⟨wr.heap.size, 1, none⟩ = some (.int .i64 x) := X1.cell rfl
      go_wp2
      refine ⟨⟨k + 1, by omega, by norm_cast, by rw [HT.out], hb.trans (B1.mono hb.size)⟩, ?_⟩
      simp [intOf]; omega
    · have hd : decide ((k : Int) < a.ds.length) = false := by simp only [decide_eq_false_iff_not]; omega
      have hkk : k = a.ds.length := by omega
      have HK : Hid (sumTo (nowOf a.ds) k = a.want) := by show _ = _; rw [hkk]; rfl
      clear hkk
      generalize sumTo (nowOf a.ds) k = s at *
      go_wp2
      go_ret
      exact ⟨by rw [← HK.out]; rfl, hb⟩
set_option maxRecDepth 100000 in
theorem wants_ok (w : World) (h : Lc w p b a) (z : Int) (h0 : 0 ≤ z) (h1 : z < a.ds.length) : Calls Try.prog 28 #[.pointer (some ⟨p, 0, none⟩), .int .i64 z] w fun e w' => e = .returned (.tuple #[.int .i64 (wasOf a.ds z.toNat), .int .i64 (nowOf a.ds z.toNat)]) ∧ Below w.heap.size w w' := by
  obtain ⟨i, rfl⟩ := Int.eq_ofNat_of_zero_le h0
  have hi : i < a.ds.length := by omega
  have hlen := h.inv.len
  rw [Int.toNat_natCast]
  have hma := made_calls w h
  have hha := has_calls w h i
  rw [show decide (0 ≤ (i : Int) ∧ (i : Int) < a.ds.length) = true from decide_eq_true ⟨h0, h1⟩] at hha
  have c5 : w.cell? ⟨p, 5, none⟩ = some (.slice (some ⟨b, 0, none⟩) a.ds.length a.ds.length) := h.blk.cell rfl
  have n0 := h.was hi
  have n1 := h.now hi
  generalize nowOf a.ds i = x at *
  generalize wasOf a.ds i = y at *
  obtain ⟨W1, hW1, X1, B1⟩ : ∃ W1, (w.alloc (.cells #[.int .i64 y, .int .i64 x] 68)) = W1 ∧ Blk W1 w.heap.size #[.int .i64 y, .int .i64 x] 68 ∧ Below w.heap.size w W1 := ⟨_, rfl, blk_new _ _ _ _ rfl, by go_grown⟩
  have e0 : W1.cell? ⟨w.heap.size, 0, none⟩ = some (.int .i64 y) := X1.cell rfl
  have e1 : W1.cell? ⟨w.heap.size, 1, none⟩ = some (.int .i64 x) := X1.cell rfl
  go_enter Try.func28, Try.ntmps28
  go_wp2_with fail
  refine hma.mono ?_
  rintro e w1 ⟨rfl, rfl⟩
  go_wp2_with fail
  refine hha.mono ?_
  rintro e w2 ⟨rfl, rfl⟩
  go_wp2
  go_region
  go_wp2
  go_ret2
  exact ⟨rfl, B1.drew⟩
set_option maxRecDepth 100000 in
theorem wants_bad (w : World) (h : Lc w p b a) (z : Int) (h0 : ¬ (0 ≤ z ∧ z < a.ds.length)) : Calls Try.prog 28 #[.pointer (some ⟨p, 0, none⟩), .int .i64 z] w fun e w' => e = .returned (.tuple #[.int .i64 0, .int .i64 0]) ∧ Below w.heap.size w w' := by
  have hma := made_calls w h
  have hha := has_calls w h z
  rw [show decide (0 ≤ z ∧ z < (a.ds.length : Int)) = false from decide_eq_false h0] at hha
  go_enter Try.func28, Try.ntmps28
  go_wp2_with fail
  refine hma.mono ?_
  rintro e w1 ⟨rfl, rfl⟩
  go_wp2_with fail
  refine hha.mono ?_
  rintro e w2 ⟨rfl, rfl⟩
  go_wp2
  go_ret2
  exact ⟨rfl, Below.refl _ _⟩
end Go.Proofs.Yteinfckkpkbnlaa
