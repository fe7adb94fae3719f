/- The document's auction in memory: Now, Was, Price, Last. -/
import Derived.Test.YteinfckkpkbnlaaCkB
import Derived.Test.YteinfckkpkbnlaaCkG
namespace Go.Proofs.Yteinfckkpkbnlaa
open Go.RowKit
set_option linter.unusedSimpArgs false
set_option linter.unusedVariables false

/-- A slice's block is one of ints. -/
def Tyd (w : World) (v : Value) : Prop := ∀ g off n cp, v = .slice (some ⟨g, off, none⟩) n cp → ∃ cur, Blk w g cur 3
theorem Tyd.below {w w' : World} {v : Value} (h : Tyd w v) (hb : Below w.heap.size w w') : Tyd w' v := fun g off n cp e => by
  obtain ⟨cur, X⟩ := h g off n cp e
  exact ⟨cur, X.below hb⟩
/-- The document's auction: its rounds lie in a row of slices, of which the last two are told apart. -/
structure Rf (w : World) (a : Au) (R g cap : Nat) (rs : Nat → Value) : Prop where
  rd : a.round = (R : Int)
  lt : g < w.heap.size
  cell : ∀ i, i < R → w.cell? ⟨g, i, none⟩ = some (rs i)
  sl : ∀ i, i < R → ∃ c n cp, rs i = .slice c n cp
  now : Rd w (rs (R - 1)) (tab a.ds.length (nowOf a.ds))
  was : 2 ≤ R → Rd w (rs (R - 2)) (tab a.ds.length (wasOf a.ds))
  cp : R ≤ cap
  inv : Inv a
  nowT : Tyd w (rs (R - 1))
  wasT : 2 ≤ R → Tyd w (rs (R - 2))
variable {a : Au} {R g cap : Nat} {rs : Nat → Value}
def rfA (a : Au) (R g cap : Nat) : Array Value := #[.int .i64 a.supply, .int .i64 a.start, .int .i64 a.step, .int .i64 a.state, .slice (some ⟨g, 0, none⟩) R cap]
def rfV (a : Au) (R g cap : Nat) : Value := .agg (rfA a R g cap)
theorem Rf.below {w w' : World} (h : Rf w a R g cap rs) (hb : Below w.heap.size w w') : Rf w' a R g cap rs :=
  ⟨h.rd, Nat.lt_of_lt_of_le h.lt hb.size, fun i hi => (hb.cell (p := ⟨g, i, none⟩) h.lt).trans (h.cell i hi), h.sl, h.now.below hb, fun h2 => (h.was h2).below hb, h.cp, h.inv, h.nowT.below hb, fun h2 => (h.wasT h2).below hb⟩
theorem Rf.one {w : World} (h : Rf w a R g cap rs) : 1 ≤ R ∧ R ≤ 1099511627777 := by
  have h1 := h.inv.rd
  have h2 := h.inv.rnd
  have h3 := h.rd
  omega
/-- The boxed auction's cells. -/
theorem rf_box (w : World) (a : Au) (R g cap : Nat) : ∃ W, w.alloc (.cells #[.int .i64 a.supply, .int .i64 a.start, .int .i64 a.step, .int .i64 a.state, .slice (some ⟨g, 0, none⟩) R cap] 30) = W ∧ Blk W w.heap.size (rfA a R g cap) 30 ∧ Below w.heap.size w W :=
  ⟨_, rfl, blk_new _ _ _ _ rfl, by go_grown⟩

set_option maxRecDepth 100000 in
theorem now_ref (w : World) (h : Rf w a R g cap rs) : Calls Try.prog 20 #[rfV a R g cap] w fun e w' => e = .returned (rs (R - 1)) ∧ Below w.heap.size w w' := by
  have h1 := h.one
  obtain ⟨W, hW, X, B⟩ := rf_box w a R g cap
  have c4 : W.cell? ⟨w.heap.size, 4, none⟩ = some (.slice (some ⟨g, 0, none⟩) R cap) := X.cell rfl
  have hc := (h.below B).cell (R - 1) (by omega)
  obtain ⟨c, n, cp, hsl⟩ := h.sl (R - 1) (by omega)
  rw [hsl] at hc ⊢
  have k1 : (R : Int) - 1 = ((R - 1 : Nat) : Int) := by omega
  have k2 : ((R - 1 : Nat) : Int) < (R : Int) := by omega
  clear h hsl X
  unfold rfV rfA
  generalize R - 1 = r1 at *
  go_enter Try.func20, Try.ntmps20
  go_wp2
  go_ret
  exact ⟨rfl, B⟩
set_option maxRecDepth 100000 in
theorem was_ref (w : World) (h : Rf w a R g cap rs) (i : Nat) (hi : i < a.ds.length) : Calls Try.prog 29 #[rfV a R g cap, .int .i64 i] w fun e w' => e = .returned (.int .i64 (wasOf a.ds i)) ∧ Below w.heap.size w w' := by
  have h1 := h.one
  have hln := h.inv.len
  obtain ⟨W, hW, X, B⟩ := rf_box w a R g cap
  have c4 : W.cell? ⟨w.heap.size, 4, none⟩ = some (.slice (some ⟨g, 0, none⟩) R cap) := X.cell rfl
  by_cases h2 : R < 2
  · have d2 : decide ((R : Int) < 2) = true := decide_eq_true (by omega)
    have e : wasOf a.ds i = 0 := h.inv.first (by have := h.rd; omega) i hi
    rw [e]
    clear h X
    unfold rfV rfA
    go_enter Try.func29, Try.ntmps29
    go_wp2
    go_ret
    exact ⟨rfl, B⟩
  · have d2 : decide ((R : Int) < 2) = false := decide_eq_false (by omega)
    have hc := (h.below B).cell (R - 2) (by omega)
    obtain ⟨c, cp, hsl, hx⟩ := ((h.below B).was (by omega))
    rw [tab_len] at hsl
    rw [hsl] at hc
    obtain ⟨g2, off, rfl, _, hy⟩ := hx i (by rw [tab_len]; exact hi)
    rw [tab_at _ hi] at hy
    have k1 : (R : Int) - 2 = ((R - 2 : Nat) : Int) := by omega
    have k2 : ((R - 2 : Nat) : Int) < (R : Int) := by omega
    have k3 : (i : Int) < a.ds.length := by omega
    clear h hsl X hx
    unfold rfV rfA
    generalize R - 2 = r2 at *
    generalize wasOf a.ds i = x at *
    go_enter Try.func29, Try.ntmps29
    go_wp2
    go_ret
    exact ⟨rfl, B⟩
set_option maxRecDepth 100000 in
theorem price_ref (w : World) (h : Rf w a R g cap rs) : Calls Try.prog 21 #[rfV a R g cap] w fun e w' => e = .returned (.int .i64 a.price) ∧ Below w.heap.size w w' := by
  have h1 := h.one
  obtain ⟨W, hW, X, B⟩ := rf_box w a R g cap
  have c1 : W.cell? ⟨w.heap.size, 1, none⟩ = some (.int .i64 a.start) := X.cell rfl
  have c2 : W.cell? ⟨w.heap.size, 2, none⟩ = some (.int .i64 a.step) := X.cell rfl
  have c4 : W.cell? ⟨w.heap.size, 4, none⟩ = some (.slice (some ⟨g, 0, none⟩) R cap) := X.cell rfl
  have hm := h.inv.mul
  have hs := h.inv.st
  have e : a.price = a.start + ((R : Int) - 1) * a.step := by unfold Au.price; rw [h.rd]
  rw [h.rd] at hm
  rw [e]
  have hwm : IntKind.i64.wrap (((R : Int) - 1) * a.step) = ((R : Int) - 1) * a.step := by rw [IntKind.wrap_i64]; omega
  clear h X e
  unfold rfV rfA
  go_enter Try.func21, Try.ntmps21
  go_wp2
  go_ret
  exact ⟨rfl, B⟩
set_option maxRecDepth 100000 in
theorem last_ref (w : World) (h : Rf w a R g cap rs) : Calls Try.prog 23 #[rfV a R g cap] w fun e w' => e = .returned (.int .i64 a.last) ∧ Below w.heap.size w w' := by
  have h1 := h.one
  obtain ⟨W, hW, X, B⟩ := rf_box w a R g cap
  have hne := bw_some W
  have c4 : W.cell? ⟨w.heap.size, 4, none⟩ = some (.slice (some ⟨g, 0, none⟩) R cap) := X.cell rfl
  have y0 := fun y : BW W => y.cell (show W.cell? ⟨w.heap.size, 0, none⟩ = some (.int .i64 a.supply) from X.cell rfl)
  have y1 := fun y : BW W => y.cell (show W.cell? ⟨w.heap.size, 1, none⟩ = some (.int .i64 a.start) from X.cell rfl)
  have y2 := fun y : BW W => y.cell (show W.cell? ⟨w.heap.size, 2, none⟩ = some (.int .i64 a.step) from X.cell rfl)
  have y3 := fun y : BW W => y.cell (show W.cell? ⟨w.heap.size, 3, none⟩ = some (.int .i64 a.state) from X.cell rfl)
  have y4 := fun y : BW W => y.cell c4
  have HP : Hid (∀ y : BW W, _) := fun y : BW W => price_ref y.w ((h.below B).below y.h)
  have hp := h.inv.price0
  have hs := h.inv.sp
  have hr := h.rd
  unfold Au.last
  clear h X
  generalize a.price = pr at *
  have hwr : IntKind.i64.wrap (pr - a.step) = pr - a.step := by rw [IntKind.wrap_i64]; omega
  unfold rfV rfA at *
  by_cases h2 : R < 2
  · have d2 : decide ((R : Int) < 2) = true := decide_eq_true (by omega)
    rw [if_pos (by omega)]
    go_enter Try.func23, Try.ntmps23
    go_wp2
    go_ret
    exact ⟨rfl, B⟩
  · have d2 : decide ((R : Int) < 2) = false := decide_eq_false (by omega)
    rw [if_neg (by omega)]
    clear hr
    go_enter Try.func23, Try.ntmps23
    go_wp2_with fail
    refine wp_region_below (by kernel_rfl) (by kernel_rfl) ?_
    repeat (quiet_step (first | (go_at_call 21; exact BW.call _ (HP.out _))))
    refine wpQuiet_nil ?_
    rintro w4 ⟨⟨_, b4⟩, rfl⟩
    go_wp2
    go_ret
    exact ⟨rfl, B.trans (b4.mono B.size)⟩
end Go.Proofs.Yteinfckkpkbnlaa
