/- Four numbers as an argument. -/
import Derived.Test.YteinfckkpkbnlaaCkX
namespace Go.Proofs.Yteinfckkpkbnlaa
open Go.ChangeShapes Go.WideShapes Go.ChangeAt Go.RowKit
set_option linter.unusedVariables false
def foC (f : Nat → Int) : List Value := [.int .i64 (f 0), .int .i64 (f 1), .int .i64 (f 2), .int .i64 (f 3)]
theorem foC_at (f : Nat → Int) (j : Nat) (h : j < 4) : (foC f)[j]? = some (.int .i64 (f j)) := by
  have : j = 0 ∨ j = 1 ∨ j = 2 ∨ j = 3 := by omega
  rcases this with rfl | rfl | rfl | rfl <;> rfl
theorem list4 {α : Type} {l : List α} (h : l.length = 4) : ∃ a b c d, l = [a, b, c, d] := by
  match l, h with
  | [a, b, c, d], _ => exact ⟨a, b, c, d, rfl⟩
section
variable {H : Type} {enc : TypeId × Value → H} {w : World} {base : Nat} {spare : Nat → Bool} {held : Bool}
theorem cellsFo : Try.prog.cellsOf 22 = 4 := by kernel_rfl
theorem open_fo {fuel : Nat} {cs : List Value} {x : DataW H × List MemPlace} (hx : DataW.trod enc Try.prog w base spare held fuel 22 cs = some x) : ∃ f : Nat → Int, cs = foC f := by
  obtain ⟨xs, n, _, hxe, hl, hlen, hfl⟩ := DataW.trod_array Try.underlying22 hx
  rw [cellsFo] at hl
  obtain ⟨k0, k1, k2, k3, rfl⟩ := list4 hl
  obtain ⟨y0, y1, y2, y3, hxs⟩ := list4 (l := xs) (by simpa using hlen)
  subst hxs
  have g0 := hfl 0 (by omega)
  have g1 := hfl 1 (by omega)
  have g2 := hfl 2 (by omega)
  have g3 := hfl 3 (by omega)
  simp only [cells_Int, Nat.mul_one, List.drop_zero, List.drop_succ_cons, List.take_succ_cons, List.take_zero, List.getElem?_cons_zero, List.getElem?_cons_succ] at g0 g1 g2 g3
  obtain ⟨i0, e0, _, _⟩ := DataW.trod_int Try.underlying3 g0
  obtain ⟨i1, e1, _, _⟩ := DataW.trod_int Try.underlying3 g1
  obtain ⟨i2, e2, _, _⟩ := DataW.trod_int Try.underlying3 g2
  obtain ⟨i3, e3, _, _⟩ := DataW.trod_int Try.underlying3 g3
  have q0 : k0 = .int .i64 i0 := by simpa [cells_Int] using e0
  have q1 : k1 = .int .i64 i1 := by simpa [cells_Int] using e1
  have q2 : k2 = .int .i64 i2 := by simpa [cells_Int] using e2
  have q3 : k3 = .int .i64 i3 := by simpa [cells_Int] using e3
  exact ⟨fun j => if j = 0 then i0 else if j = 1 then i1 else if j = 2 then i2 else i3, by rw [q0, q1, q2, q3]; rfl⟩
end
section
variable {H : Type} {enc : TypeId × Value → H} {w : World} {base : Nat} {spare : Nat → Bool} {held : Bool}
theorem okWide_array {P : Program} {t e : TypeId} {n : Nat} {r : Reach} {b0 : Nat} {v : Value} (ht : P.underlying t = some (.array n e)) (h : Value.okWide P w r b0 t v) : ∃ cs, v = .agg cs ∧ cs.size = P.cellsOf t := by
  simp only [Value.okWide, ht] at h
  obtain ⟨cs, h1, h2, _⟩ := h
  exact ⟨cs, h1, h2⟩
theorem open_fo1 {r : Reach} {b0 : Nat} {v : Value} {d : DataW H} {p : List MemPlace} (hv : Value.okWide Try.prog w r b0 22 v) (h : DataW.Trod enc Try.prog w base spare held 22 v d p) : ∃ f : Nat → Int, v = .agg (foC f).toArray := by
  obtain ⟨cs, rfl, _⟩ := okWide_array Try.underlying22 hv
  obtain ⟨fuel, hf⟩ := h
  obtain ⟨f, hcs⟩ := open_fo hf
  refine ⟨f, ?_⟩
  rw [← hcs]
  simp [Value.cells]
end
end Go.Proofs.Yteinfckkpkbnlaa
