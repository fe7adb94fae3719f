/- Texts and acts that come in as arguments. -/
import Derived.Test.YtjpmnmgnbpecjaaVlN
import Derived.Test.YtjpmnmgnbpecjaaOpS
import Derived.Lib.ConvBytes
namespace Go.Proofs.Ytjpmnmgnbpecjaa
open Go.ChangeShapes Go.WideShapes Go.ChangeAt Go.RowKit Go.Deep
set_option linter.unusedSimpArgs false
set_option linter.unusedVariables false

theorem cellsAct : Try.prog.cellsOf 48 = 6 := by kernel_rfl
theorem list6 {α : Type} {l : List α} (h : l.length = 6) : ∃ a b c d e f, l = [a, b, c, d, e, f] := by
  match l, h with
  | [a, b, c, d, e, f], _ => exact ⟨a, b, c, d, e, f, rfl⟩
section
variable {H : Type} {enc : TypeId × Value → H} {w : World} {base : Nat} {spare : Nat → Bool} {held : Bool}
theorem open_ac {fuel : Nat} {cs : List Value} {x : DataW H × List MemPlace} (hx : DataW.trod enc Try.prog w base spare held fuel 48 cs = some x) (hw : (x.1.weights Try.prog 48).all (· ≤ reachBytes) = true) : ∃ a : Ac, cs = a.cells ∧ a.fit := by
  obtain ⟨xs, n, _, hxe, hl, hlen, hfl⟩ := DataW.trod_struct Try.underlying48 hx
  rw [cellsAct] at hl
  obtain ⟨k0, k1, k2, k3, k4, k5, rfl⟩ := list6 hl
  obtain ⟨y0, y1, y2, y3, y4, y5, hxs⟩ := list6 (l := xs) (by simpa using hlen)
  subst hxs
  have g0 := hfl 0 _ rfl
  have g1 := hfl 1 _ rfl
  have g2 := hfl 2 _ rfl
  have g3 := hfl 3 _ rfl
  have g4 := hfl 4 _ rfl
  have g5 := hfl 5 _ rfl
  simp only [cells_Int, cells_Str, List.drop_zero, List.drop_succ_cons, List.take_succ_cons, List.take_zero, List.getElem?_cons_zero, List.getElem?_cons_succ] at g0 g1 g2 g3 g4 g5
  obtain ⟨i0, e0, _, _⟩ := DataW.trod_int Try.underlying3 g0
  obtain ⟨i1, e1, _, _⟩ := DataW.trod_int Try.underlying3 g1
  obtain ⟨i2, e2, _, _⟩ := DataW.trod_int Try.underlying3 g2
  obtain ⟨i3, e3, _, _⟩ := DataW.trod_int Try.underlying3 g3
  obtain ⟨s4, e4, d4, _⟩ := DataW.trod_string Try.underlying9 g4
  obtain ⟨s5, e5, d5, _⟩ := DataW.trod_string Try.underlying9 g5
  have q0 : k0 = .int .i64 i0 := by simpa [cells_Int] using e0
  have q1 : k1 = .int .i64 i1 := by simpa [cells_Int] using e1
  have q2 : k2 = .int .i64 i2 := by simpa [cells_Int] using e2
  have q3 : k3 = .int .i64 i3 := by simpa [cells_Int] using e3
  have q4 : k4 = .string s4 := by simpa [cells_Str] using e4
  have q5 : k5 = .string s5 := by simpa [cells_Str] using e5
  have hd : x.1 = .agg [y0.1, y1.1, y2.1, y3.1, y4.1, y5.1] := by simpa using congrArg Prod.fst hxe
  rw [hd] at hw
  have w4 := List.all_eq_true.1 hw s4.data.toList.length (by
    simp only [DataW.weights, Try.underlying48]
    refine DataW.weights_mem_each (j := 4) (t := 9) (d := y4.1) rfl rfl _ ?_
    rw [d4]; simp [DataW.weights])
  have w5 := List.all_eq_true.1 hw s5.data.toList.length (by
    simp only [DataW.weights, Try.underlying48]
    refine DataW.weights_mem_each (j := 5) (t := 9) (d := y5.1) rfl rfl _ ?_
    rw [d5]; simp [DataW.weights])
  have z4 := of_decide_eq_true w4
  have z5 := of_decide_eq_true w5
  rw [← Lib.size_eq] at z4 z5
  refine ⟨⟨i0, i1, i2, i3, s4, s5⟩, by rw [q0, q1, q2, q3, q4, q5]; rfl, Nat.le_trans z4 (by unfold reachBytes; decide), Nat.le_trans z5 (by unfold reachBytes; decide)⟩
set_option maxRecDepth 100000 in
theorem open_act {r : Reach} {b0 : Nat} {v : Value} {d : DataW H} {p : List MemPlace} (hv : Value.okWide Try.prog w r b0 48 v) (h : DataW.Trod enc Try.prog w base spare held 48 v d p) (hsz : (DataW.weights Try.prog 48 d).all (· ≤ reachBytes) = true) :
    ∃ a : Ac, v = .agg a.cells.toArray ∧ a.fit := by
  obtain ⟨cs, rfl, _⟩ := okWide_struct Try.underlying48 hv
  obtain ⟨fuel, hf⟩ := h
  obtain ⟨a, hcs, hfit⟩ := open_ac hf hsz
  refine ⟨a, ?_, hfit⟩
  rw [← hcs]
  simp [Value.cells]
theorem bytesAct : Try.prog.bytesOf 48 = 64 := by kernel_rfl
abbrev Acs (w : World) (v : Value) (l : List Ac) : Prop := Elems 6 Ac.cells Ac.fit w v l
theorem open_acs {v : Value} {d : DataW H} {p : List MemPlace} (hv : v.cells = #[v]) (h : DataW.Trod enc Try.prog w base spare held 22 v d p) (hsz : (d.weights Try.prog 22).all (· ≤ reachBytes) = true) (hlt : ∀ x ∈ p, x.block < w.heap.size) :
    ∃ l : List Ac, Acs w v l ∧ l.length * 64 ≤ 140737488351232 := by
  haveI : Nonempty Ac := ⟨⟨0, 0, 0, 0, .empty, .empty⟩⟩
  refine open_elems Ac.cells Ac.fit Try.underlying22 cellsAct (fun _ => rfl) (by decide) bytesAct ?_ hv h hsz hlt
  intro fuel cs x hx hw
  exact open_ac hx hw
end
end Go.Proofs.Ytjpmnmgnbpecjaa
