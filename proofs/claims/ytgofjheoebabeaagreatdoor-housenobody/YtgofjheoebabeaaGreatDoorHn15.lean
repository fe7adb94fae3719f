/- An auction in memory; what it tells. -/
import Derived.Test.YtgofjheoebabeaaGreatDoorHn14
import Derived.Test.YtgofjheoebabeaaGreatDoorHn01
import Derived.Test.YtgofjheoebabeaaGreatDoorRows
import Derived.Deep.QuietTactic
import Derived.BigQuiet
namespace Go.Proofs.YtgofjheoebabeaaGreatDoor.Clo
open Go.RowKit
set_option linter.unusedSimpArgs false
set_option linter.unusedVariables false

/-- All but two blocks is as it was. -/
structure Ofc (p b : Nat) (w w' : World) : Prop where
  os : w'.os = w.os
  tape : w'.tape = w.tape
  output : w'.output = w.output
  size : w.heap.size ≤ w'.heap.size
  block : ∀ k, k < w.heap.size → k ≠ p → k ≠ b → w'.heap[k]? = w.heap[k]?
theorem Ofc.refl (p b : Nat) (w : World) : Ofc p b w w := ⟨rfl, rfl, rfl, Nat.le_refl _, fun _ _ _ _ => rfl⟩
theorem Ofc.trans {p b : Nat} {x y z : World} (h : Ofc p b x y) (k : Ofc p b y z) : Ofc p b x z :=
  ⟨k.os.trans h.os, k.tape.trans h.tape, k.output.trans h.output, Nat.le_trans h.size k.size, fun i hi h1 h2 => (k.block i (Nat.lt_of_lt_of_le hi h.size) h1 h2).trans (h.block i hi h1 h2)⟩
theorem Ofc.of_below {p b : Nat} {w w' : World} (h : Below w.heap.size w w') : Ofc p b w w' := ⟨h.os, h.tape, h.output, h.size, fun k hk _ _ => h.block k hk⟩
theorem Ofc.drew {p b : Nat} {x w : World} (h : Ofc p b x w) : Ofc p b x w.drew := ⟨h.os, h.tape, h.output, h.size, h.block⟩
theorem Ofc.setCell {p b : Nat} {x w : World} (h : Ofc p b x w) {q : Addr} (hq : q.block = p ∨ q.block = b) (u : Value) : Ofc p b x (w.setCell q u) :=
  h.trans ⟨rfl, rfl, rfl, by simp [World.setCell], fun k _ h1 h2 => Below.heap_setCell _ _ _ _ (by omega)⟩
theorem Ofc.below {p b B : Nat} {w0 w w' : World} (h : Ofc p b w w') (hp : B ≤ p) (hb : B ≤ b) (k : Below B w0 w) (hB : B ≤ w.heap.size) : Below B w0 w' :=
  k.trans ⟨h.os, h.tape, h.output, h.size, fun i hi => h.block i (by omega) (by omega) (by omega)⟩
theorem Blk.ofc {w w' : World} {k p b : Nat} {cs : Array Value} {t : TypeId} (h : Blk w k cs t) (ho : Ofc p b w w') (h1 : k ≠ p) (h2 : k ≠ b) : Blk w' k cs t := (ho.block k h.lt h1 h2).trans h

/-- An auction: its block, its demands' block. -/
structure Lc (w : World) (p b : Nat) (a : Au) : Prop where
  blk : Blk w p #[.int .i64 a.supply, .int .i64 a.start, .int .i64 a.step, .int .i64 a.round, .int .i64 a.state, .slice (some ⟨b, 0, none⟩) a.ds.length a.ds.length] 91
  row : Blk w b (dC a.ds) 94
  ne : p ≠ b
  inv : Inv a
variable {p b : Nat} {a : Au}
theorem Lc.below {w w' : World} (h : Lc w p b a) (hb : Below w.heap.size w w') : Lc w' p b a := ⟨h.blk.below hb, h.row.below hb, h.ne, h.inv⟩
theorem Lc.alloc {w : World} (h : Lc w p b a) (o : Obj) : Lc (w.alloc o) p b a := ⟨h.blk.alloc o, h.row.alloc o, h.ne, h.inv⟩
theorem Lc.drew {w : World} (h : Lc w p b a) : Lc w.drew p b a := ⟨h.blk.drew, h.row.drew, h.ne, h.inv⟩
theorem Lc.ofc {w w' : World} {p' b' : Nat} (h : Lc w p b a) (ho : Ofc p' b' w w') (h1 : p ≠ p') (h2 : p ≠ b') (h3 : b ≠ p') (h4 : b ≠ b') : Lc w' p b a := ⟨Blk.ofc h.blk ho h1 h2, Blk.ofc h.row ho h3 h4, h.ne, h.inv⟩
theorem Lc.was {w : World} (h : Lc w p b a) {i : Nat} (hi : i < a.ds.length) : w.cell? ⟨b, i * 2, none⟩ = some (.int .i64 (wasOf a.ds i)) := h.row.cell (dC_get 0 hi rfl)
theorem Lc.now {w : World} (h : Lc w p b a) {i : Nat} (hi : i < a.ds.length) : w.cell? ⟨b, i * 2 + 1, none⟩ = some (.int .i64 (nowOf a.ds i)) := h.row.cell (dC_get 1 hi rfl)
theorem drewN_below (B : Nat) (w : World) (n : Nat) : Below B w (w.drewN n) := ⟨rfl, rfl, rfl, Nat.le_refl _, fun _ _ => rfl⟩

set_option maxRecDepth 100000 in
theorem made_calls (w : World) (h : Lc w p b a) : Calls Tryz.prog 37 #[.pointer (some ⟨p, 0, none⟩)] w fun e w' => e = .returned (.bool true) ∧ w' = w := by
  have c0 : w.cell? ⟨p, 5, none⟩ = some (.slice (some ⟨b, 0, none⟩) a.ds.length a.ds.length) := h.blk.cell rfl
  have hp := h.inv.len
  have hd : decide (0 < (a.ds.length : Int)) = true := decide_eq_true (by omega)
  go_enter Tryz.func37, Tryz.ntmps37
  go_wp2
  go_ret
  exact ⟨by simp; omega, rfl⟩
set_option maxRecDepth 100000 in
theorem made_nil (w : World) : Calls Tryz.prog 37 #[.pointer none] w fun e w' => e = .returned (.bool false) ∧ w' = w := by
  go_enter Tryz.func37, Tryz.ntmps37
  go_wp2
  go_ret
  exact ⟨rfl, rfl⟩
set_option maxRecDepth 100000 in
theorem inn_calls (n x y : Int) (w : World) : Calls Tryz.prog 112 #[.int .i64 n, .int .i64 x, .int .i64 y] w fun e w' => e = .returned (.bool (decide (x ≤ n ∧ n ≤ y))) ∧ w' = w := by
  by_cases h0 : x ≤ n
  · have h1 : decide (x ≤ n) = true := decide_eq_true h0
    go_enter Tryz.func112, Tryz.ntmps112
    go_wp2
    go_ret
    exact ⟨by simp [h0], rfl⟩
  · have h1 : decide (x ≤ n) = false := decide_eq_false h0
    go_enter Tryz.func112, Tryz.ntmps112
    go_wp2
    go_ret
    exact ⟨by simp [h0], rfl⟩
set_option maxRecDepth 100000 in
theorem has_calls (w : World) (h : Lc w p b a) (z : Int) : Calls Tryz.prog 117 #[.pointer (some ⟨p, 0, none⟩), .int .i64 z] w fun e w' => e = .returned (.bool (decide (0 ≤ z ∧ z < a.ds.length))) ∧ w' = w := by
  have c0 : w.cell? ⟨p, 5, none⟩ = some (.slice (some ⟨b, 0, none⟩) a.ds.length a.ds.length) := h.blk.cell rfl
  have hp := h.inv.len
  by_cases h0 : 0 ≤ z
  · go_enter Tryz.func117, Tryz.ntmps117
    go_wp2
    go_ret
    exact ⟨by simp [h0], rfl⟩
  · have h1 : decide (0 ≤ z) = false := by simpa using h0
    go_enter Tryz.func117, Tryz.ntmps117
    go_wp2
    go_ret
    exact ⟨by simp [h1], rfl⟩
set_option maxRecDepth 100000 in
theorem refuse_calls (w : World) (h : Lc w p b a) : Calls Tryz.prog 120 #[.pointer (some ⟨p, 0, none⟩)] w fun e w' => e = .returned (.int .i64 a.ref) ∧ w' = w := by
  have hma := made_calls w h
  have c0 : w.cell? ⟨p, 4, none⟩ = some (.int .i64 a.state) := h.blk.cell rfl
  unfold Au.ref
  by_cases h0 : a.state = 0
  · have hd : (a.state == 0) = true := by simpa using h0
    rw [if_pos h0]
    go_enter Tryz.func120, Tryz.ntmps120
    go_wp2_with fail
    refine hma.mono ?_
    rintro e w1 ⟨rfl, rfl⟩
    go_wp2
    go_ret
    exact ⟨rfl, rfl⟩
  · have hd : (a.state == 0) = false := by simpa using h0
    rw [if_neg h0]
    go_enter Tryz.func120, Tryz.ntmps120
    go_wp2_with fail
    refine hma.mono ?_
    rintro e w1 ⟨rfl, rfl⟩
    go_wp2
    go_ret
    exact ⟨rfl, rfl⟩
set_option maxRecDepth 100000 in
theorem supply_calls (w : World) (h : Lc w p b a) : Calls Tryz.prog 141 #[.pointer (some ⟨p, 0, none⟩)] w fun e w' => e = .returned (.int .i64 a.supply) ∧ w' = w := by
  have hma := made_calls w h
  have c0 : w.cell? ⟨p, 0, none⟩ = some (.int .i64 a.supply) := h.blk.cell rfl
  go_enter Tryz.func141, Tryz.ntmps141
  go_wp2_with fail
  refine hma.mono ?_
  rintro e w1 ⟨rfl, rfl⟩
  go_wp2
  go_ret
  exact ⟨rfl, rfl⟩
set_option maxRecDepth 100000 in
theorem price_calls (w : World) (h : Lc w p b a) : Calls Tryz.prog 119 #[.pointer (some ⟨p, 0, none⟩)] w fun e w' => e = .returned (.int .i64 a.price) ∧ Below w.heap.size w w' := by
  have hma := made_calls w h
  have c1 : w.cell? ⟨p, 1, none⟩ = some (.int .i64 a.start) := h.blk.cell rfl
  have c2 : w.cell? ⟨p, 2, none⟩ = some (.int .i64 a.step) := h.blk.cell rfl
  have c3 : w.cell? ⟨p, 3, none⟩ = some (.int .i64 a.round) := h.blk.cell rfl
  have hm := h.inv.mul
  have hs := h.inv.st
  have hr := h.inv.rd
  have hr2 := h.inv.rnd
  unfold Au.price
  go_enter Tryz.func119, Tryz.ntmps119
  go_wp2_with fail
  refine hma.mono ?_
  rintro e w1 ⟨rfl, rfl⟩
  go_wp2
  go_quiet (fail)
  go_wp2
  go_ret
  exact ⟨rfl, drewN_below _ _ _⟩
theorem Calls.belowOf {P : Program} {f : FuncId} {args : Array Value} {w : World} {v : Value} (h : Calls P f args w fun e w' => e = .returned v ∧ w' = w) : Calls P f args w fun e w' => e = .returned v ∧ Below w.heap.size w w' :=
  h.mono fun _ _ ⟨he, hw⟩ => ⟨he, hw ▸ Below.refl _ _⟩
end Go.Proofs.YtgofjheoebabeaaGreatDoor.Clo
