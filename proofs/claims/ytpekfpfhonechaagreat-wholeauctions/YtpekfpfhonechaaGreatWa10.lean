/- An auction in memory; what it tells. -/
import Derived.Test.YtpekfpfhonechaaGreatWa09
import Derived.Test.YtpekfpfhonechaaGreatWa01
import Derived.Test.YtpekfpfhonechaaGreatRows
import Derived.Deep.QuietTactic
import Derived.BigQuiet
namespace Go.Proofs.YtpekfpfhonechaaGreat.Clo
open Go.RowKit
set_option linter.unusedSimpArgs false
set_option linter.unusedVariables false

/-- All but two blocks is as it was. -/
structure Ofc (p b : Nat) (w w' : World) : Prop where
  os : w'.os = w.os
  tape : w'.tape = w.tape
  output : w'.output = w.output
  size : w.heap.size ≤ w'.heap.size
  block : ∀ k, k < w.heap.size → k ≠ p → k ≠ b → w'.heap[k]? = w.heap[k]?
theorem Ofc.refl (p b : Nat) (w : World) : Ofc p b w w := ⟨rfl, rfl, rfl, Nat.le_refl _, fun _ _ _ _ => rfl⟩
theorem Ofc.trans {p b : Nat} {x y z : World} (h : Ofc p b x y) (k : Ofc p b y z) : Ofc p b x z :=
  ⟨k.os.trans h.os, k.tape.trans h.tape, k.output.trans h.output, Nat.le_trans h.size k.size, fun i hi h1 h2 => (k.block i (Nat.lt_of_lt_of_le hi h.size) h1 h2).trans (h.block i hi h1 h2)⟩
theorem Ofc.of_below {p b : Nat} {w w' : World} (h : Below w.heap.size w w') : Ofc p b w w' := ⟨h.os, h.tape, h.output, h.size, fun k hk _ _ => h.block k hk⟩
theorem Ofc.drew {p b : Nat} {x w : World} (h : Ofc p b x w) : Ofc p b x w.drew := ⟨h.os, h.tape, h.output, h.size, h.block⟩
theorem Ofc.setCell {p b : Nat} {x w : World} (h : Ofc p b x w) {q : Addr} (hq : q.block = p ∨ q.block = b) (u : Value) : Ofc p b x (w.setCell q u) :=
  h.trans ⟨rfl, rfl, rfl, by simp [World.setCell], fun k _ h1 h2 => Below.heap_setCell _ _ _ _ (by omega)⟩
theorem Ofc.below {p b B : Nat} {w0 w w' : World} (h : Ofc p b w w') (hp : B ≤ p) (hb : B ≤ b) (k : Below B w0 w) (hB : B ≤ w.heap.size) : Below B w0 w' :=
  k.trans ⟨h.os, h.tape, h.output, h.size, fun i hi => h.block i (by omega) (by omega) (by omega)⟩
/-- An auction: its block, its demands' block. -/
structure Lc (w : World) (p b : Nat) (a : Au) : Prop where
  blk : Blk w p #[.int .i64 a.supply, .int .i64 a.start, .int .i64 a.step, .int .i64 a.round, .int .i64 a.state, .slice (some ⟨b, 0, none⟩) a.ds.length a.ds.length] 80
  row : Blk w b (dC a.ds) 83
  ne : p ≠ b
  inv : Inv a
variable {p b : Nat} {a : Au}
theorem Lc.below {w w' : World} (h : Lc w p b a) (hb : Below w.heap.size w w') : Lc w' p b a := ⟨h.blk.below hb, h.row.below hb, h.ne, h.inv⟩
theorem Lc.alloc {w : World} (h : Lc w p b a) (o : Obj) : Lc (w.alloc o) p b a := ⟨h.blk.alloc o, h.row.alloc o, h.ne, h.inv⟩
theorem Lc.drew {w : World} (h : Lc w p b a) : Lc w.drew p b a := ⟨h.blk.drew, h.row.drew, h.ne, h.inv⟩
theorem Lc.was {w : World} (h : Lc w p b a) {i : Nat} (hi : i < a.ds.length) : w.cell? ⟨b, i * 2, none⟩ = some (.int .i64 (wasOf a.ds i)) := h.row.cell (dC_get 0 hi rfl)
theorem Lc.now {w : World} (h : Lc w p b a) {i : Nat} (hi : i < a.ds.length) : w.cell? ⟨b, i * 2 + 1, none⟩ = some (.int .i64 (nowOf a.ds i)) := h.row.cell (dC_get 1 hi rfl)
theorem drewN_below (B : Nat) (w : World) (n : Nat) : Below B w (w.drewN n) := ⟨rfl, rfl, rfl, Nat.le_refl _, fun _ _ => rfl⟩

set_option maxRecDepth 100000 in
theorem made_calls (w : World) (h : Lc w p b a) : Calls Tryz.prog 25 #[.pointer (some ⟨p, 0, none⟩)] w fun e w' => e = .returned (.bool true) ∧ w' = w := by
  have c0 : w.cell? ⟨p, 5, none⟩ = some (.slice (some ⟨b, 0, none⟩) a.ds.length a.ds.length) := h.blk.cell rfl
  have hp := h.inv.len
  have hd : decide (0 < (a.ds.length : Int)) = true := decide_eq_true (by omega)
  go_enter Tryz.func25, Tryz.ntmps25
  go_wp2
  go_ret
  exact ⟨by simp; omega, rfl⟩
set_option maxRecDepth 100000 in
theorem inn_calls (n x y : Int) (w : World) : Calls Tryz.prog 101 #[.int .i64 n, .int .i64 x, .int .i64 y] w fun e w' => e = .returned (.bool (decide (x ≤ n ∧ n ≤ y))) ∧ w' = w := by
  by_cases h0 : x ≤ n
  · have h1 : decide (x ≤ n) = true := decide_eq_true h0
    go_enter Tryz.func101, Tryz.ntmps101
    go_wp2
    go_ret
    exact ⟨by simp [h0], rfl⟩
  · have h1 : decide (x ≤ n) = false := decide_eq_false h0
    go_enter Tryz.func101, Tryz.ntmps101
    go_wp2
    go_ret
    exact ⟨by simp [h0], rfl⟩
set_option maxRecDepth 100000 in
theorem has_calls (w : World) (h : Lc w p b a) (z : Int) : Calls Tryz.prog 106 #[.pointer (some ⟨p, 0, none⟩), .int .i64 z] w fun e w' => e = .returned (.bool (decide (0 ≤ z ∧ z < a.ds.length))) ∧ w' = w := by
  have c0 : w.cell? ⟨p, 5, none⟩ = some (.slice (some ⟨b, 0, none⟩) a.ds.length a.ds.length) := h.blk.cell rfl
  have hp := h.inv.len
  by_cases h0 : 0 ≤ z
  · go_enter Tryz.func106, Tryz.ntmps106
    go_wp2
    go_ret
    exact ⟨by simp [h0], rfl⟩
  · have h1 : decide (0 ≤ z) = false := by simpa using h0
    go_enter Tryz.func106, Tryz.ntmps106
    go_wp2
    go_ret
    exact ⟨by simp [h1], rfl⟩
set_option maxRecDepth 100000 in
theorem refuse_calls (w : World) (h : Lc w p b a) : Calls Tryz.prog 109 #[.pointer (some ⟨p, 0, none⟩)] w fun e w' => e = .returned (.int .i64 a.ref) ∧ w' = w := by
  have hma := made_calls w h
  have c0 : w.cell? ⟨p, 4, none⟩ = some (.int .i64 a.state) := h.blk.cell rfl
  unfold Au.ref
  by_cases h0 : a.state = 0
  · have hd : (a.state == 0) = true := by simpa using h0
    rw [if_pos h0]
    go_enter Tryz.func109, Tryz.ntmps109
    go_wp2_with fail
    refine hma.mono ?_
    rintro e w1 ⟨rfl, rfl⟩
    go_wp2
    go_ret
    exact ⟨rfl, rfl⟩
  · have hd : (a.state == 0) = false := by simpa using h0
    rw [if_neg h0]
    go_enter Tryz.func109, Tryz.ntmps109
    go_wp2_with fail
    refine hma.mono ?_
    rintro e w1 ⟨rfl, rfl⟩
    go_wp2
    go_ret
    exact ⟨rfl, rfl⟩
set_option maxRecDepth 100000 in
theorem supply_calls (w : World) (h : Lc w p b a) : Calls Tryz.prog 126 #[.pointer (some ⟨p, 0, none⟩)] w fun e w' => e = .returned (.int .i64 a.supply) ∧ w' = w := by
  have hma := made_calls w h
  have c0 : w.cell? ⟨p, 0, none⟩ = some (.int .i64 a.supply) := h.blk.cell rfl
  go_enter Tryz.func126, Tryz.ntmps126
  go_wp2_with fail
  refine hma.mono ?_
  rintro e w1 ⟨rfl, rfl⟩
  go_wp2
  go_ret
  exact ⟨rfl, rfl⟩
set_option maxRecDepth 100000 in
theorem price_calls (w : World) (h : Lc w p b a) : Calls Tryz.prog 108 #[.pointer (some ⟨p, 0, none⟩)] w fun e w' => e = .returned (.int .i64 a.price) ∧ Below w.heap.size w w' := by
  have hma := made_calls w h
  have c1 : w.cell? ⟨p, 1, none⟩ = some (.int .i64 a.start) := h.blk.cell rfl
  have c2 : w.cell? ⟨p, 2, none⟩ = some (.int .i64 a.step) := h.blk.cell rfl
  have c3 : w.cell? ⟨p, 3, none⟩ = some (.int .i64 a.round) := h.blk.cell rfl
  have hm := h.inv.mul
  have hs := h.inv.st
  have hr := h.inv.rd
  have hr2 := h.inv.rnd
  unfold Au.price
  go_enter Tryz.func108, Tryz.ntmps108
  go_wp2_with fail
  refine hma.mono ?_
  rintro e w1 ⟨rfl, rfl⟩
  go_wp2
  go_quiet (fail)
  go_wp2
  go_ret
  exact ⟨rfl, drewN_below _ _ _⟩
end Go.Proofs.YtpekfpfhonechaaGreat.Clo

namespace Go.Proofs.YtpekfpfhonechaaGreat.Clo
open Go.RowKit
set_option linter.unusedSimpArgs false
set_option linter.unusedVariables false
variable {p b : Nat} {a : Au}

theorem infoDm : (Tryz.prog.info? 83).map (fun i => (i.zero, i.size, i.bytes)) = some (some (.agg #[.int .i64 0, .int .i64 0]), 2, 16) := by kernel_rfl
theorem made_dm (k : Nat) : madeCells (Value.agg #[.int .i64 0, .int .i64 0]).cells (k * 2) = dC (List.replicate k ⟨0, 0⟩) := by
  apply Array.ext_getElem?
  intro i
  by_cases hi : i < k * 2
  · have hr : i % 2 < 2 := Nat.mod_lt _ (by omega)
    have hk := dC_get (l := List.replicate k ⟨0, 0⟩) (i := i / 2) (i % 2) (v := .int .i64 0) (by simp; omega) (by
      rw [dAt_rep]
      have : i % 2 = 0 ∨ i % 2 = 1 := by omega
      rcases this with h | h <;> rw [h] <;> rfl)
    have e : i / 2 * 2 + i % 2 = i := by omega
    rw [e] at hk
    rw [hk]
    unfold madeCells
    rw [Array.getElem?_map, Array.getElem?_range, if_pos hi]
    have : i % 2 = 0 ∨ i % 2 = 1 := by omega
    rcases this with h | h <;> simp [Value.cells, h]
  · rw [Array.getElem?_eq_none (by rw [size_madeCells]; omega), Array.getElem?_eq_none (by rw [dC_size]; simp; omega)]

set_option maxRecDepth 100000 in
theorem new_bad (s q d n : Int) (w : World) (h : ¬ Au.fits s q d n) : Calls Tryz.prog 75 #[.int .i64 s, .int .i64 q, .int .i64 d, .int .i64 n] w fun e w' => e = .returned (.tuple #[.pointer none, .int .i64 1]) ∧ w' = w := by
  have HH : Hid _ := h
  clear h
  have HW : Hid _ := inn_calls
  cases d1 : decide (0 ≤ q ∧ q ≤ 1099511627776)
  · go_enter Tryz.func75, Tryz.ntmps75
    go_wp2_with fail
    refine Calls.mono (HW.out _ _ _ _) ?_
    rintro e w1 ⟨rfl, rfl⟩
    rw [d1]
    go_wp2
    go_ret2
    exact ⟨rfl, rfl⟩
  · cases d2 : decide (1 ≤ d ∧ d ≤ 1099511627776)
    · go_enter Tryz.func75, Tryz.ntmps75
      go_wp2_with fail
      refine Calls.mono (HW.out _ _ _ _) ?_
      rintro e w1 ⟨rfl, rfl⟩
      rw [d1]
      go_wp2_with fail
      refine Calls.mono (HW.out _ _ _ _) ?_
      rintro e w1 ⟨rfl, rfl⟩
      rw [d2]
      go_wp2
      go_ret2
      exact ⟨rfl, rfl⟩
    · cases d3 : decide (1 ≤ s ∧ s ≤ 1048576)
      · go_enter Tryz.func75, Tryz.ntmps75
        go_wp2_with fail
        refine Calls.mono (HW.out _ _ _ _) ?_
        rintro e w1 ⟨rfl, rfl⟩
        rw [d1]
        go_wp2_with fail
        refine Calls.mono (HW.out _ _ _ _) ?_
        rintro e w1 ⟨rfl, rfl⟩
        rw [d2]
        go_wp2_with fail
        refine Calls.mono (HW.out _ _ _ _) ?_
        rintro e w1 ⟨rfl, rfl⟩
        rw [d3]
        go_wp2
        go_ret2
        exact ⟨rfl, rfl⟩
      · cases d4 : decide (1 ≤ n ∧ n ≤ 16)
        · go_enter Tryz.func75, Tryz.ntmps75
          go_wp2_with fail
          refine Calls.mono (HW.out _ _ _ _) ?_
          rintro e w1 ⟨rfl, rfl⟩
          rw [d1]
          go_wp2_with fail
          refine Calls.mono (HW.out _ _ _ _) ?_
          rintro e w1 ⟨rfl, rfl⟩
          rw [d2]
          go_wp2_with fail
          refine Calls.mono (HW.out _ _ _ _) ?_
          rintro e w1 ⟨rfl, rfl⟩
          rw [d3]
          go_wp2_with fail
          refine Calls.mono (HW.out _ _ _ _) ?_
          rintro e w1 ⟨rfl, rfl⟩
          rw [d4]
          go_wp2
          go_ret2
          exact ⟨rfl, rfl⟩
        · exact absurd ⟨of_decide_eq_true d3, of_decide_eq_true d1, of_decide_eq_true d2, of_decide_eq_true d4⟩ HH.out

set_option maxRecDepth 100000 in
theorem new_ok (s q d n : Int) (w : World) (h : Au.fits s q d n) : Calls Tryz.prog 75 #[.int .i64 s, .int .i64 q, .int .i64 d, .int .i64 n] w fun e w' =>
    ∃ p b, e = .returned (.tuple #[.pointer (some ⟨p, 0, none⟩), .int .i64 0]) ∧ Lc w' p b (Au.new s q d n.toNat) ∧ Below w.heap.size w w' ∧ w.heap.size ≤ p ∧ w.heap.size ≤ b := by
  have HV : Hid _ := Inv.new h
  obtain ⟨h3, h1, h2, h4⟩ := h
  have HW : Hid _ := inn_calls
  have d1 : decide (0 ≤ q ∧ q ≤ 1099511627776) = true := decide_eq_true h1
  have d2 : decide (1 ≤ d ∧ d ≤ 1099511627776) = true := decide_eq_true h2
  have d3 : decide (1 ≤ s ∧ s ≤ 1048576) = true := decide_eq_true h3
  have d4 : decide (1 ≤ n ∧ n ≤ 16) = true := decide_eq_true h4
  obtain ⟨k, rfl⟩ := Int.eq_ofNat_of_zero_le (show 0 ≤ n by omega)
  obtain ⟨i0, hi, hz0, hz1, hz2⟩ := info_parts infoDm
  have hmk : ∀ W : World, (Instr.makeSlice 78 (.int .i64 (k : Int)) (.int .i64 (k : Int))).run Tryz.prog W = .ok (.slice (some ⟨W.heap.size, 0, none⟩) k k) (W.alloc (.cells (dC (List.replicate k ⟨0, 0⟩)) 83)) := fun W => by
    have h := run_make (P := Tryz.prog) W 78 83 i0 _ Tryz.underlying78 hi hz0 .i64 .i64 (k : Int) (k : Int) (by omega) (by omega) (by rw [hz2]; omega) (by omega)
    rw [hz1, Int.toNat_natCast, made_dm] at h
    exact h
  have HC : Hid (∀ W : World, Blk (W.alloc (.cells (dC (List.replicate k ⟨0, 0⟩)) 83)) W.heap.size (dC (List.replicate k ⟨0, 0⟩)) 83) := fun W => blk_new _ _ _ _ rfl
  have HN : Hid ((List.replicate k (⟨0, 0⟩ : Dm)).length = k) := by show _ = _; simp
  simp only [Int.toNat_natCast, Au.new] at *
  generalize List.replicate k (⟨0, 0⟩ : Dm) = L at *
  clear h1 h2 h3 h4
  go_enter Tryz.func75, Tryz.ntmps75
  go_wp2_with fail
  refine Calls.mono (HW.out _ _ _ _) ?_
  rintro e w1 ⟨rfl, rfl⟩
  rw [d1]
  go_wp2_with fail
  refine Calls.mono (HW.out _ _ _ _) ?_
  rintro e w1 ⟨rfl, rfl⟩
  rw [d2]
  go_wp2_with fail
  refine Calls.mono (HW.out _ _ _ _) ?_
  rintro e w1 ⟨rfl, rfl⟩
  rw [d3]
  go_wp2_with fail
  refine Calls.mono (HW.out _ _ _ _) ?_
  rintro e w1 ⟨rfl, rfl⟩
  rw [d4]
  go_wp2
  go_ret2
  refine ⟨w1.heap.size + 1, w1.heap.size, rfl, ⟨?_, (HC.out w1).alloc _, by omega, HV.out⟩, by go_grown, by omega, by omega⟩
  show Blk _ _ #[_, _, _, _, _, .slice _ L.length L.length] _
  rw [HN.out]
  exact blk_new _ _ _ _ (by simp)

theorem Inv.price0 (H : Inv a) : 0 ≤ a.price ∧ a.price ≤ 1099511627776 := by
  have h1 := H.mul
  have h2 := H.st
  have h3 := H.pr
  unfold Au.price at *
  omega
set_option maxRecDepth 100000 in
theorem atTop_calls (w : World) (h : Lc w p b a) : Calls Tryz.prog 123 #[.pointer (some ⟨p, 0, none⟩)] w fun e w' => e = .returned (.bool (decide (1099511627776 < a.price + a.step))) ∧ Below w.heap.size w w' := by
  have HP : Hid (∀ y : BW w, _) := fun y : BW w => price_calls y.w (h.below y.h)
  have hne := bw_some w
  have y2 := fun y : BW w => y.cell (show w.cell? ⟨p, 2, none⟩ = some (.int .i64 a.step) from h.blk.cell rfl)
  have hp := h.inv.price0
  have hs := h.inv.sp
  generalize a.price = pr at *
  have hwr : IntKind.i64.wrap (pr + a.step) = pr + a.step := by rw [IntKind.wrap_i64]; omega
  go_enter Tryz.func123, Tryz.ntmps123
  go_wp2_with fail
  refine wp_region_below (by kernel_rfl) (by kernel_rfl) ?_
  repeat (quiet_step (first | (go_at_call 108; exact BW.call _ (HP.out _))))
  refine wpQuiet_nil ?_
  rintro w4 ⟨⟨_, b4⟩, rfl⟩
  go_wp2
  go_ret
  exact ⟨rfl, b4⟩
def Au.last (a : Au) : Int := if a.round = 1 then 0 else a.price - a.step
set_option maxRecDepth 100000 in
theorem last_calls (w : World) (h : Lc w p b a) : Calls Tryz.prog 107 #[.pointer (some ⟨p, 0, none⟩)] w fun e w' => e = .returned (.int .i64 a.last) ∧ Below w.heap.size w w' := by
  have hma := made_calls w h
  have HP : Hid (∀ y : BW w, _) := fun y : BW w => price_calls y.w (h.below y.h)
  have hne := bw_some w
  have c3 : w.cell? ⟨p, 3, none⟩ = some (.int .i64 a.round) := h.blk.cell rfl
  have y2 := fun y : BW w => y.cell (show w.cell? ⟨p, 2, none⟩ = some (.int .i64 a.step) from h.blk.cell rfl)
  have hp := h.inv.price0
  have hs := h.inv.sp
  unfold Au.last
  generalize a.price = pr at *
  have hwr : IntKind.i64.wrap (pr - a.step) = pr - a.step := by rw [IntKind.wrap_i64]; omega
  by_cases h1 : a.round = 1
  · rw [if_pos h1]
    rw [h1] at c3
    go_enter Tryz.func107, Tryz.ntmps107
    go_wp2_with fail
    refine hma.mono ?_
    rintro e w1 ⟨rfl, rfl⟩
    go_wp2
    go_ret
    exact ⟨rfl, Below.refl _ _⟩
  · have hd : (a.round == 1) = false := by simpa using h1
    rw [if_neg h1]
    go_enter Tryz.func107, Tryz.ntmps107
    go_wp2_with fail
    refine hma.mono ?_
    rintro e w1 ⟨rfl, rfl⟩
    go_wp2_with fail
    refine wp_region_below (by kernel_rfl) (by kernel_rfl) ?_
    repeat (quiet_step (first | (go_at_call 108; exact BW.call _ (HP.out _))))
    refine wpQuiet_nil ?_
    rintro w4 ⟨⟨_, b4⟩, rfl⟩
    go_wp2
    go_ret
    exact ⟨rfl, b4⟩
set_option maxRecDepth 100000 in
theorem demand_calls (w : World) (h : Lc w p b a) : Calls Tryz.prog 122 #[.pointer (some ⟨p, 0, none⟩)] w fun e w' => e = .returned (.int .i64 a.want) ∧ Below w.heap.size w w' := by
  have hma := made_calls w h
  have hlen := h.inv.len
  have c5 : w.cell? ⟨p, 5, none⟩ = some (.slice (some ⟨b, 0, none⟩) a.ds.length a.ds.length) := h.blk.cell rfl
  go_enter Tryz.func122, Tryz.ntmps122
  go_wp2_with fail
  refine hma.mono ?_
  rintro e w1 ⟨rfl, rfl⟩
  clear hma
  go_wp2
  go_loopw [3, 14] (fun c i wr => ∃ k : Nat, k ≤ a.ds.length ∧ i = .int .i64 k ∧ c = .int .i64 (sumTo (nowOf a.ds) k) ∧ Below w1.heap.size w1 wr) (fun _ i _ => a.ds.length - (intOf i).toNat)
  case atStart => exact ⟨0, Nat.zero_le _, rfl, rfl, Below.refl _ _⟩
  case round =>
    obtain ⟨k, hk, rfl, rfl, hb⟩ := hrel
    by_cases hlt : k < a.ds.length
    · have hd : decide ((k : Int) < a.ds.length) = true := by simp only [decide_eq_true_eq]; omega
      have hLr := h.below hb
      have n0 := hLr.was hlt
      have n1 := hLr.now hlt
      have t0 := h.inv.wants hk
      have t1 := h.inv.dm k hlt
      have HT : Hid (sumTo (nowOf a.ds) (k + 1) = sumTo (nowOf a.ds) k + nowOf a.ds k) := rfl
      generalize sumTo (nowOf a.ds) k = s at *
      generalize nowOf a.ds k = x at *
      generalize wasOf a.ds k = y at *
      obtain ⟨W1, hW1, X1, B1⟩ : ∃ W1, (wr.alloc (.cells #[.int .i64 y, .int .i64 x] 83)) = W1 ∧ Blk W1 wr.heap.size #[.int .i64 y, .int .i64 x] 83 ∧ Below wr.heap.size wr W1 := ⟨_, rfl, blk_new _ _ _ _ rfl, by go_grown⟩
      have e0 : W1.cell? ⟨wr.heap.size, 1, none⟩ = some (.int .i64 x) := X1.cell rfl
      go_wp2
      refine ⟨⟨k + 1, by omega, by norm_cast, by rw [HT.out], hb.trans (B1.mono hb.size)⟩, ?_⟩
      simp [intOf]; omega
    · have hd : decide ((k : Int) < a.ds.length) = false := by simp only [decide_eq_false_iff_not]; omega
      have hkk : k = a.ds.length := by omega
      have HK : Hid (sumTo (nowOf a.ds) k = a.want) := by show _ = _; rw [hkk]; rfl
      clear hkk
      generalize sumTo (nowOf a.ds) k = s at *
      go_wp2
      go_ret
      exact ⟨by rw [← HK.out]; rfl, hb⟩
set_option maxRecDepth 100000 in
theorem wants_ok (w : World) (h : Lc w p b a) (z : Int) (h0 : 0 ≤ z) (h1 : z < a.ds.length) : Calls Tryz.prog 78 #[.pointer (some ⟨p, 0, none⟩), .int .i64 z] w fun e w' => e = .returned (.tuple #[.int .i64 (wasOf a.ds z.toNat), .int .i64 (nowOf a.ds z.toNat)]) ∧ Below w.heap.size w w' := by
  obtain ⟨i, rfl⟩ := Int.eq_ofNat_of_zero_le h0
  have hi : i < a.ds.length := by omega
  have hlen := h.inv.len
  rw [Int.toNat_natCast]
  have hma := made_calls w h
  have hha := has_calls w h i
  rw [show decide (0 ≤ (i : Int) ∧ (i : Int) < a.ds.length) = true from decide_eq_true ⟨h0, h1⟩] at hha
  have c5 : w.cell? ⟨p, 5, none⟩ = some (.slice (some ⟨b, 0, none⟩) a.ds.length a.ds.length) := h.blk.cell rfl
  have n0 := h.was hi
  have n1 := h.now hi
  generalize nowOf a.ds i = x at *
  generalize wasOf a.ds i = y at *
  obtain ⟨W1, hW1, X1, B1⟩ : ∃ W1, (w.alloc (.cells #[.int .i64 y, .int .i64 x] 83)) = W1 ∧ Blk W1 w.heap.size #[.int .i64 y, .int .i64 x] 83 ∧ Below w.heap.size w W1 := ⟨_, rfl, blk_new _ _ _ _ rfl, by go_grown⟩
  have e0 : W1.cell? ⟨w.heap.size, 0, none⟩ = some (.int .i64 y) := X1.cell rfl
  have e1 : W1.cell? ⟨w.heap.size, 1, none⟩ = some (.int .i64 x) := X1.cell rfl
  go_enter Tryz.func78, Tryz.ntmps78
  go_wp2_with fail
  refine hma.mono ?_
  rintro e w1 ⟨rfl, rfl⟩
  go_wp2_with fail
  refine hha.mono ?_
  rintro e w2 ⟨rfl, rfl⟩
  go_wp2
  go_region
  go_wp2
  go_ret2
  exact ⟨rfl, B1.drew⟩
end Go.Proofs.YtpekfpfhonechaaGreat.Clo

namespace Go.Proofs.YtpekfpfhonechaaGreat.Clo
open Go.RowKit
set_option linter.unusedSimpArgs false
set_option linter.unusedVariables false

/-- What is rounded down; what is left then at each place; what each one gets. -/
def bas (n all : Int) (g : Nat → Int) (i : Nat) : Int := if 0 < g i then (n * g i).tdiv all else 0
def lf (l0 : Int) (b g : Nat → Int) : Nat → Int
  | 0 => l0
  | k + 1 => if 0 < lf l0 b g k ∧ b k < g k then lf l0 b g k - 1 else lf l0 b g k
def shr (l0 : Int) (b g : Nat → Int) (i : Nat) : Int := if 0 < lf l0 b g i ∧ b i < g i then b i + 1 else b i
def cnt (b g : Nat → Int) : Nat → Int
  | 0 => 0
  | k + 1 => if b k < g k then cnt b g k + 1 else cnt b g k
theorem cnt_nonneg (b g : Nat → Int) : ∀ k, 0 ≤ cnt b g k
  | 0 => Int.le_refl _
  | k + 1 => by
    have := cnt_nonneg b g k
    simp only [cnt]; split <;> omega
theorem lf_eq (l0 : Int) (b g : Nat → Int) (h0 : 0 ≤ l0) : ∀ k, lf l0 b g k = if cnt b g k ≤ l0 then l0 - cnt b g k else 0
  | 0 => by simp [lf, cnt, h0]
  | k + 1 => by
    have ih := lf_eq l0 b g h0 k
    have hc := cnt_nonneg b g k
    simp only [lf, cnt]
    rw [ih]
    by_cases h1 : b k < g k
    · simp only [h1, and_true, if_true]
      by_cases h2 : cnt b g k ≤ l0
      · simp only [h2, if_true]
        by_cases h3 : 0 < l0 - cnt b g k
        · rw [if_pos h3, if_pos (by omega)]; omega
        · rw [if_neg h3, if_neg (by omega)]; omega
      · simp only [h2, if_false]
        rw [if_neg (by omega), if_neg (by omega)]
    · simp [h1]
theorem lf_nonneg (l0 : Int) (b g : Nat → Int) (h0 : 0 ≤ l0) (k : Nat) : 0 ≤ lf l0 b g k := by
  rw [lf_eq l0 b g h0]; split <;> omega
theorem lf_fall (l0 : Int) (b g : Nat → Int) : ∀ {i k : Nat}, i ≤ k → lf l0 b g k ≤ lf l0 b g i := by
  intro i k
  induction k with
  | zero => intro h; have : i = 0 := by omega
            subst this; exact Int.le_refl _
  | succ k ih =>
    intro h
    by_cases e : i = k + 1
    · subst e; exact Int.le_refl _
    · have := ih (by omega)
      simp only [lf]; split <;> omega
theorem lf_le (l0 : Int) (b g : Nat → Int) (k : Nat) : lf l0 b g k ≤ l0 := lf_fall l0 b g (Nat.zero_le k)
theorem shr_sum (l0 : Int) (b g : Nat → Int) : ∀ k, sumTo (shr l0 b g) k = sumTo b k + (l0 - lf l0 b g k)
  | 0 => by simp [sumTo, lf]
  | k + 1 => by
    have ih := shr_sum l0 b g k
    simp only [sumTo, ih, lf, shr]
    split <;> omega

theorem one_le {g : Nat → Int} {m : Nat} (hg : ∀ i, i < m → 0 ≤ g i) {i : Nat} (hi : i < m) : g i ≤ sumTo g m := by
  have h2 : sumTo g (i + 1) ≤ sumTo g m := sumTo_part (fun j hj => hg j hj) (by omega)
  have h3 := sumTo_nonneg (f := g) (k := i) (fun j hj => hg j (by omega))
  simp only [sumTo] at h2
  omega
theorem bas_ok {n : Int} {g : Nat → Int} {m : Nat} (hg : ∀ i, i < m → 0 ≤ g i) (hn : 0 ≤ n) (ha : n ≤ sumTo g m) {i : Nat} (hi : i < m) : 0 ≤ bas n (sumTo g m) g i ∧ bas n (sumTo g m) g i ≤ g i ∧ sumTo g m * bas n (sumTo g m) g i ≤ n * g i ∧ (bas n (sumTo g m) g i < g i → n * g i < sumTo g m * bas n (sumTo g m) g i + sumTo g m) := by
  have h0 := hg i hi
  have h9 := one_le hg hi
  generalize sumTo g m = A at *
  unfold bas
  by_cases h1 : 0 < g i
  · simp only [h1, if_true]
    have hx : 0 ≤ n * g i := Int.mul_nonneg hn h0
    rw [Int.tdiv_eq_ediv_of_nonneg hx]
    by_cases hA : 0 < A
    · have q0 : 0 ≤ n * g i / A := Int.ediv_nonneg hx (by omega)
      have q1 : A * (n * g i / A) + n * g i % A = n * g i := Int.mul_ediv_add_emod _ _
      have q2 := Int.emod_nonneg (n * g i) (show A ≠ 0 by omega)
      have q3 := Int.emod_lt_of_pos (n * g i) hA
      have q4 : n * g i ≤ A * g i := Int.mul_le_mul_of_nonneg_right ha h0
      have q5 : n * g i / A ≤ g i := Int.le_of_mul_le_mul_left (show A * (n * g i / A) ≤ A * g i by omega) hA
      exact ⟨q0, q5, by omega, fun _ => by omega⟩
    · have hA0 : A ≤ 0 := by omega
      have : n = 0 := by omega
      subst this
      have hAz : A = 0 := by omega
      subst hAz
      simp
      omega
  · have hz : g i = 0 := by omega
    simp [h1, hz]
theorem bas_sums {n : Int} {g : Nat → Int} {m : Nat} (hg : ∀ i, i < m → 0 ≤ g i) (hn : 0 ≤ n) (ha : n ≤ sumTo g m) : ∀ k, k ≤ m → sumTo g m * sumTo (bas n (sumTo g m) g) k ≤ n * sumTo g k ∧ n * sumTo g k ≤ sumTo g m * (sumTo (bas n (sumTo g m) g) k + cnt (bas n (sumTo g m) g) g k)
  | 0, _ => by simp [sumTo, cnt]
  | k + 1, hk => by
    obtain ⟨ih1, ih2⟩ := bas_sums hg hn ha k (by omega)
    obtain ⟨q1, q2, q3, q4⟩ := bas_ok hg hn ha (show k < m by omega)
    have hA0 : 0 ≤ sumTo g m := by omega
    have h5 : n * g k ≤ sumTo g m * g k := Int.mul_le_mul_of_nonneg_right ha (hg k (by omega))
    generalize bas n (sumTo g m) g = B at *
    generalize sumTo g m = A at *
    simp only [sumTo, cnt]
    constructor
    · rw [Int.mul_add, Int.mul_add]; omega
    · by_cases h1 : B k < g k
      · have := q4 h1
        rw [if_pos h1, Int.mul_add, Int.mul_add, Int.mul_add, Int.mul_add, Int.mul_one]
        rw [Int.mul_add] at ih2
        omega
      · have e : B k = g k := by omega
        rw [if_neg h1, Int.mul_add, Int.mul_add, Int.mul_add, e]
        rw [Int.mul_add] at ih2
        omega
/-- What is left is handed out to the last piece. -/
theorem left_ok {n : Int} {g : Nat → Int} {m : Nat} (hg : ∀ i, i < m → 0 ≤ g i) (hn : 0 ≤ n) (ha : n ≤ sumTo g m) : 0 ≤ n - sumTo (bas n (sumTo g m) g) m ∧ n - sumTo (bas n (sumTo g m) g) m ≤ cnt (bas n (sumTo g m) g) g m := by
  obtain ⟨h1, h2⟩ := bas_sums hg hn ha m (Nat.le_refl _)
  have hb : ∀ i, i < m → 0 ≤ bas n (sumTo g m) g i ∧ bas n (sumTo g m) g i ≤ g i := fun i hi => ⟨(bas_ok hg hn ha hi).1, (bas_ok hg hn ha hi).2.1⟩
  have hc := cnt_nonneg (bas n (sumTo g m) g) g m
  by_cases hA : 0 < sumTo g m
  · generalize bas n (sumTo g m) g = B at *
    generalize sumTo g m = A at *
    have e : n * A = A * n := Int.mul_comm _ _
    rw [e] at h1 h2
    have := Int.le_of_mul_le_mul_left h1 hA
    have := Int.le_of_mul_le_mul_left h2 hA
    omega
  · have hA0 : sumTo g m = 0 := by omega
    have hz : sumTo (bas n (sumTo g m) g) m = 0 := by
      rw [sumTo_congr (g := fun _ => 0) fun i hi => ?_]
      · exact sumTo_zero m
      · have := hb i hi
        have := one_le hg hi
        show bas n (sumTo g m) g i = 0
        omega
    omega

/-- n among gaps. -/
def shares (n : Int) (l : List Int) : List Int :=
  tab l.length (shr (n - sumTo (bas n (sumL l) (gAt l)) l.length) (bas n (sumL l) (gAt l)) (gAt l))
def Sh (n : Int) (l : List Int) : Prop := l.length ≤ 16 ∧ (∀ i, i < l.length → 0 ≤ gAt l i ∧ gAt l i ≤ 1048576) ∧ 0 ≤ n ∧ n ≤ 1048576 ∧ n ≤ sumL l
theorem shares_len (n : Int) (l : List Int) : (shares n l).length = l.length := tab_len _ _
theorem Sh.sum {n : Int} {l : List Int} (h : Sh n l) : sumL (shares n l) = n := by
  obtain ⟨_, hg, hn, _, ha⟩ := h
  unfold shares
  rw [sumL_tab, shr_sum]
  obtain ⟨h1, h2⟩ := left_ok (m := l.length) (g := gAt l) (n := n) (fun i hi => (hg i hi).1) hn ha
  have e : sumTo (gAt l) l.length = sumL l := rfl
  rw [e] at h1 h2
  rw [lf_eq _ _ _ h1]
  generalize sumTo (bas n (sumL l) (gAt l)) l.length = S at *
  generalize cnt (bas n (sumL l) (gAt l)) (gAt l) l.length = c at *
  split <;> omega
theorem Sh.each {n : Int} {l : List Int} (h : Sh n l) {i : Nat} (hi : i < l.length) : 0 ≤ gAt (shares n l) i ∧ gAt (shares n l) i ≤ gAt l i := by
  obtain ⟨_, hg, hn, _, ha⟩ := h
  unfold shares
  rw [tab_at _ hi]
  have h1 := bas_ok (m := l.length) (g := gAt l) (n := n) (fun i hi => (hg i hi).1) hn ha hi
  have e : sumTo (gAt l) l.length = sumL l := rfl
  rw [e] at h1
  unfold shr
  split <;> omega
end Go.Proofs.YtpekfpfhonechaaGreat.Clo
