/- What a light client is shown, as an argument: opened. -/
import Derived.Test.YtocphdikppeijaaGreatLy33
namespace Go.Proofs.YtocphdikppeijaaGreat
open Go.ChangeShapes Go.WideShapes Go.ChangeAt Go.RowKit Go.Deep
set_option linter.unusedVariables false
set_option linter.unusedSimpArgs false

theorem cellsState : Tryz.prog.cellsOf 24 = 4 := by kernel_rfl
theorem cellsIntS : Tryz.prog.cellsOf 3 = 1 := by kernel_rfl
theorem cellsRcsS : Tryz.prog.cellsOf 22 = 1 := by kernel_rfl
theorem list4s {α : Type} {l : List α} (h : l.length = 4) : ∃ a b c d, l = [a, b, c, d] := by
  match l, h with
  | [a, b, c, d], _ => exact ⟨a, b, c, d, rfl⟩
section
variable {H : Type} {enc : TypeId × Value → H} {w : World} {base : Nat} {spare : Nat → Bool} {held : Bool}
theorem open_stateC {fuel : Nat} {cs : List Value} {x : DataW H × List MemPlace} (hx : DataW.trod enc Tryz.prog w base spare held fuel 24 cs = some x) : ∃ (l : List Rc) (v : Value) (i1 i2 i3 : Int), cs = [v, .int .i64 i1, .int .i64 i2, .int .i64 i3] ∧ RcsC w v l := by
  obtain ⟨xs, n, _, hxe, hl, hlen, hfl⟩ := DataW.trod_struct Tryz.underlying24 hx
  rw [cellsState] at hl
  obtain ⟨k0, k1, k2, k3, rfl⟩ := list4s hl
  obtain ⟨y0, y1, y2, y3, hxs⟩ := list4s (l := xs) (by simpa using hlen)
  subst hxs
  have g0 := hfl 0 _ rfl
  have g1 := hfl 1 _ rfl
  have g2 := hfl 2 _ rfl
  have g3 := hfl 3 _ rfl
  simp only [cellsIntS, cellsRcsS, List.drop_zero, List.drop_succ_cons, List.take_succ_cons, List.take_zero, List.getElem?_cons_zero, List.getElem?_cons_succ] at g0 g1 g2 g3
  have g0' : DataW.trod enc Tryz.prog w base spare held n 22 [k0] = some y0 := by simpa [cellsIntS, cellsRcsS] using g0
  obtain ⟨l, hl0⟩ := open_rcsF g0'
  obtain ⟨i1, e1, _, _⟩ := DataW.trod_int Tryz.underlying3 g1
  obtain ⟨i2, e2, _, _⟩ := DataW.trod_int Tryz.underlying3 g2
  obtain ⟨i3, e3, _, _⟩ := DataW.trod_int Tryz.underlying3 g3
  have q1 : k1 = .int .i64 i1 := by simpa [cellsIntS, cellsRcsS] using e1
  have q2 : k2 = .int .i64 i2 := by simpa [cellsIntS, cellsRcsS] using e2
  have q3 : k3 = .int .i64 i3 := by simpa [cellsIntS, cellsRcsS] using e3
  exact ⟨l, k0, i1, i2, i3, by rw [q1, q2, q3], hl0⟩
set_option maxRecDepth 100000 in
theorem open_state {r : Reach} {b0 : Nat} {v : Value} {d : DataW H} {p : List MemPlace} (hv : Value.okWide Tryz.prog w r b0 24 v) (h : DataW.Trod enc Tryz.prog w base spare held 24 v d p) :
    ∃ (l : List Rc) (a : Option Addr) (cap : Nat) (i1 i2 i3 : Int), v = .agg #[.slice a l.length cap, .int .i64 i1, .int .i64 i2, .int .i64 i3] ∧ RcsC w (.slice a l.length cap) l := by
  obtain ⟨cs, rfl, _⟩ := okWide_struct Tryz.underlying24 hv
  obtain ⟨fuel, hf⟩ := h
  obtain ⟨l, v0, i1, i2, i3, hcs, hl⟩ := open_stateC hf
  obtain ⟨_, a, cap, rfl, _⟩ := id hl
  refine ⟨l, a, cap, i1, i2, i3, ?_, hl⟩
  have e : cs = #[.slice a l.length cap, .int .i64 i1, .int .i64 i2, .int .i64 i3] := by
    have : cs.toList = [.slice a l.length cap, .int .i64 i1, .int .i64 i2, .int .i64 i3] := by simpa [Value.cells] using hcs
    cases cs; simp_all
  rw [e]
end
end Go.Proofs.YtocphdikppeijaaGreat
