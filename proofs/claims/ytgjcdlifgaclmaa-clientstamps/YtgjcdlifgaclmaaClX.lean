/- Texts and acts that come in as arguments. -/
import Derived.Test.YtgjcdlifgaclmaaClJ
import Derived.Lib.ConvBytes
namespace Go.Proofs.Ytgjcdlifgaclmaa
open Go.ChangeShapes Go.WideShapes Go.ChangeAt Go.RowKit Go.Deep
set_option linter.unusedSimpArgs false
set_option linter.unusedVariables false

/-- An act. -/
structure Ac where
  kind : Int
  frm : Int
  by_ : Int
  text : ByteArray
def Ac.cells (a : Ac) : List Value := [.int .i64 a.kind, .int .i64 a.frm, .int .i64 a.by_, .string a.text]
def Ac.fit (a : Ac) : Prop := a.text.size ≤ 140737488351232
section
variable {H : Type} {enc : TypeId × Value → H} {w : World} {base : Nat} {spare : Nat → Bool} {held : Bool}
theorem open_txs {v : Value} {d : DataW H} {p : List MemPlace} (hv : v.cells = #[v]) (h : DataW.Trod enc Try.prog w base spare held 46 v d p) (hsz : (d.weights Try.prog 46).all (· ≤ reachBytes) = true) (hlt : ∀ x ∈ p, x.block < w.heap.size) :
    ∃ l : List ByteArray, Elems 1 (fun s : ByteArray => [.string s]) (fun s => s.size ≤ 140737488351232) w v l ∧ l.length * 16 ≤ 140737488351232 := by
  haveI : Nonempty ByteArray := ⟨.empty⟩
  refine open_elems (fun s : ByteArray => [.string s]) (fun s => s.size ≤ 140737488351232) Try.underlying46 cells_Str (fun _ => rfl) (by decide) bytes_Str ?_ hv h hsz hlt
  intro fuel cs x hx hw
  obtain ⟨s, e, hd, _⟩ := DataW.trod_string Try.underlying9 hx
  refine ⟨s, e, ?_⟩
  rw [hd] at hw
  have := List.all_eq_true.1 hw s.data.toList.length (by simp [DataW.weights])
  have h2 := of_decide_eq_true this
  rw [← Lib.size_eq] at h2
  exact Nat.le_trans h2 (by unfold reachBytes; decide)
theorem cellsAct : Try.prog.cellsOf 37 = 4 := by kernel_rfl
theorem list4 {α : Type} {l : List α} (h : l.length = 4) : ∃ a b c d, l = [a, b, c, d] := by
  match l, h with
  | [a, b, c, d], _ => exact ⟨a, b, c, d, rfl⟩
theorem open_ac {fuel : Nat} {cs : List Value} {x : DataW H × List MemPlace} (hx : DataW.trod enc Try.prog w base spare held fuel 37 cs = some x) (hw : (x.1.weights Try.prog 37).all (· ≤ reachBytes) = true) : ∃ a : Ac, cs = a.cells ∧ a.fit := by
  obtain ⟨xs, n, _, hxe, hl, hlen, hfl⟩ := DataW.trod_struct Try.underlying37 hx
  rw [cellsAct] at hl
  obtain ⟨k0, k1, k2, k3, rfl⟩ := list4 hl
  obtain ⟨y0, y1, y2, y3, hxs⟩ := list4 (l := xs) (by simpa using hlen)
  subst hxs
  have g0 := hfl 0 _ rfl
  have g1 := hfl 1 _ rfl
  have g2 := hfl 2 _ rfl
  have g3 := hfl 3 _ rfl
  simp only [cells_Int, cells_Str, List.drop_zero, List.drop_succ_cons, List.take_succ_cons, List.take_zero, List.getElem?_cons_zero, List.getElem?_cons_succ] at g0 g1 g2 g3
  obtain ⟨i0, e0, _, _⟩ := DataW.trod_int Try.underlying3 g0
  obtain ⟨i1, e1, _, _⟩ := DataW.trod_int Try.underlying3 g1
  obtain ⟨i2, e2, _, _⟩ := DataW.trod_int Try.underlying3 g2
  obtain ⟨s3, e3, d3, _⟩ := DataW.trod_string Try.underlying9 g3
  have q0 : k0 = .int .i64 i0 := by simpa [cells_Int] using e0
  have q1 : k1 = .int .i64 i1 := by simpa [cells_Int] using e1
  have q2 : k2 = .int .i64 i2 := by simpa [cells_Int] using e2
  have q3 : k3 = .string s3 := by simpa [cells_Str] using e3
  have hd : x.1 = .agg [y0.1, y1.1, y2.1, y3.1] := by simpa using congrArg Prod.fst hxe
  rw [hd] at hw
  have w3 := List.all_eq_true.1 hw s3.data.toList.length (by
    simp only [DataW.weights, Try.underlying37]
    refine DataW.weights_mem_each (j := 3) (t := 9) (d := y3.1) rfl rfl _ ?_
    rw [d3]; simp [DataW.weights])
  have z3 := of_decide_eq_true w3
  rw [← Lib.size_eq] at z3
  refine ⟨⟨i0, i1, i2, s3⟩, by rw [q0, q1, q2, q3]; rfl, Nat.le_trans z3 (by unfold reachBytes; decide)⟩
theorem bytesAct : Try.prog.bytesOf 37 = 40 := by kernel_rfl
abbrev Acs (w : World) (v : Value) (l : List Ac) : Prop := Elems 4 Ac.cells Ac.fit w v l
theorem open_acs {v : Value} {d : DataW H} {p : List MemPlace} (hv : v.cells = #[v]) (h : DataW.Trod enc Try.prog w base spare held 22 v d p) (hsz : (d.weights Try.prog 22).all (· ≤ reachBytes) = true) (hlt : ∀ x ∈ p, x.block < w.heap.size) :
    ∃ l : List Ac, Acs w v l ∧ l.length * 40 ≤ 140737488351232 := by
  haveI : Nonempty Ac := ⟨⟨0, 0, 0, .empty⟩⟩
  refine open_elems Ac.cells Ac.fit Try.underlying22 cellsAct (fun _ => rfl) (by decide) bytesAct ?_ hv h hsz hlt
  intro fuel cs x hx hw
  exact open_ac hx hw
end
end Go.Proofs.Ytgjcdlifgaclmaa
