/- Calls of a tree that come in as a slice of structs. -/
import Derived.Test.YtpcafjbebhcilaaGreatTm12
import Derived.Test.YtpcafjbebhcilaaGreatTm37
namespace Go.Proofs.YtpcafjbebhcilaaGreat
open Go.ChangeShapes Go.WideShapes Go.ChangeAt Go.RowKit
set_option linter.unusedSimpArgs false
set_option linter.unusedVariables false

structure Tac where
  kind : Int
  key : ByteArray
  dat : ByteArray
def Tac.cells (a : Tac) : List Value := [.int .i64 a.kind, .string a.key, .string a.dat]
def Tac.fit (a : Tac) : Prop := a.key.size ≤ 140737488351232 ∧ a.dat.size ≤ 140737488351232
abbrev Tacs (w : World) (v : Value) (l : List Tac) : Prop := Elems 3 Tac.cells Tac.fit w v l

theorem cellsTac : Tryz.prog.cellsOf 31 = 3 := by kernel_rfl
theorem bytesTac : Tryz.prog.bytesOf 31 = 40 := by kernel_rfl
theorem cellsIntT : Tryz.prog.cellsOf 3 = 1 := by kernel_rfl
theorem list3T {α : Type} {l : List α} (h : l.length = 3) : ∃ a b c, l = [a, b, c] := by
  match l, h with
  | [a, b, c], _ => exact ⟨a, b, c, rfl⟩
section
variable {H : Type} {enc : TypeId × Value → H} {w : World} {base : Nat} {spare : Nat → Bool} {held : Bool}
theorem open_acs {v : Value} {d : DataW H} {p : List MemPlace} (hv : v.cells = #[v]) (h : DataW.Trod enc Tryz.prog w base spare held 22 v d p) (hsz : (d.weights Tryz.prog 22).all (· ≤ reachBytes) = true) (hlt : ∀ x ∈ p, x.block < w.heap.size) :
    ∃ l : List Tac, Tacs w v l ∧ l.length * 40 ≤ 140737488351232 := by
  haveI : Nonempty Tac := ⟨⟨0, .empty, .empty⟩⟩
  refine open_elems Tac.cells Tac.fit Tryz.underlying22 cellsTac (fun _ => rfl) (by decide) bytesTac ?_ hv h hsz hlt
  intro fuel cs x hx hw
  obtain ⟨xs, n, _, hxe, hl, hlen, hfl⟩ := DataW.trod_struct Tryz.underlying31 hx
  rw [cellsTac] at hl
  obtain ⟨k0, k2, k3, rfl⟩ := list3T hl
  obtain ⟨y0, y2, y3, hxs⟩ := list3T (l := xs) (by simpa using hlen)
  subst hxs
  have g0 := hfl 0 _ rfl
  have g2 := hfl 1 _ rfl
  have g3 := hfl 2 _ rfl
  simp only [cellsIntT, cellsStrO, List.drop_zero, List.drop_succ_cons, List.take_succ_cons, List.take_zero, List.getElem?_cons_zero, List.getElem?_cons_succ] at g0 g2 g3
  obtain ⟨i0, e0, _, _⟩ := DataW.trod_int Tryz.underlying3 g0
  obtain ⟨s2, e2, d2, _⟩ := DataW.trod_string Tryz.underlying9 g2
  obtain ⟨s3, e3, d3, _⟩ := DataW.trod_string Tryz.underlying9 g3
  have q0 : k0 = .int .i64 i0 := by simpa [cellsIntT] using e0
  have q2 : k2 = .string s2 := by simpa [cellsStrO] using e2
  have q3 : k3 = .string s3 := by simpa [cellsStrO] using e3
  have hd : x.1 = .agg [y0.1, y2.1, y3.1] := by simpa using congrArg Prod.fst hxe
  rw [hd] at hw
  have w2 := List.all_eq_true.1 hw s2.data.toList.length (by
    simp only [DataW.weights, Tryz.underlying31]
    refine DataW.weights_mem_each (j := 1) (t := 9) (d := y2.1) rfl rfl _ ?_
    rw [d2]; simp [DataW.weights])
  have w3 := List.all_eq_true.1 hw s3.data.toList.length (by
    simp only [DataW.weights, Tryz.underlying31]
    refine DataW.weights_mem_each (j := 2) (t := 9) (d := y3.1) rfl rfl _ ?_
    rw [d3]; simp [DataW.weights])
  have z2 := of_decide_eq_true w2
  have z3 := of_decide_eq_true w3
  rw [← Lib.size_eq] at z2 z3
  exact ⟨⟨i0, s2, s3⟩, by rw [q0, q2, q3]; rfl, z2, z3⟩
end
end Go.Proofs.YtpcafjbebhcilaaGreat
