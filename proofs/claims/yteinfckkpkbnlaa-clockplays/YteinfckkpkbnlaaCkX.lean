/- Calls that come in; around. -/
import Derived.Test.YteinfckkpkbnlaaCkP
import Derived.Test.YteinfckkpkbnlaaOpS
import Derived.Test.YteinfckkpkbnlaaRows
import Derived.Lib.ConvBytes
import Derived.Handy
import Derived.WalkLawsBesides
namespace Go.Proofs.Yteinfckkpkbnlaa
open Go.ChangeShapes Go.WideShapes Go.ChangeAt Go.RowKit Go.Deep
set_option linter.unusedSimpArgs false
set_option linter.unusedVariables false

/-- A number brought below another one. -/
def arn (n m : Int) : Int := if n.tmod m < 0 then 0 - n.tmod m else n.tmod m
theorem arn_ok (n m : Int) (h : 1 ≤ m) : 0 ≤ arn n m ∧ arn n m < m := by
  have g1 := Int.tmod_lt_of_pos n (show 0 < m by omega)
  have g2 := Int.lt_tmod_of_pos n (show 0 < m by omega)
  unfold arn
  split <;> omega
set_option maxRecDepth 100000 in
theorem around_calls (n m : Int) (w : World) (h : 1 ≤ m) (hm : m ≤ 1000000) : Calls Try.prog 14 #[.int .i64 n, .int .i64 m] w fun e w' => e = .returned (.int .i64 (arn n m)) ∧ w' = w := by
  have g1 := Int.tmod_lt_of_pos n (show 0 < m by omega)
  have g2 := Int.lt_tmod_of_pos n (show 0 < m by omega)
  have hz : (m == 0) = false := by simp; omega
  unfold arn
  generalize hk : n.tmod m = k at *
  have hw : IntKind.i64.wrap k = k := by rw [IntKind.wrap_i64]; omega
  by_cases h0 : k < 0
  · have hd : decide (k < 0) = true := decide_eq_true h0
    rw [if_pos h0]
    go_enter Try.func14, Try.ntmps14
    go_wp2
    go_ret
    exact ⟨by simp, rfl⟩
  · have hd : decide (k < 0) = false := decide_eq_false h0
    rw [if_neg h0]
    go_enter Try.func14, Try.ntmps14
    go_wp2
    go_ret
    exact ⟨rfl, rfl⟩

structure Ac where
  kind : Int
  who : Int
  n : Int
def Ac.cells (a : Ac) : List Value := [.int .i64 a.kind, .int .i64 a.who, .int .i64 a.n]
abbrev Acs (w : World) (v : Value) (l : List Ac) : Prop := Elems 3 Ac.cells (fun _ => True) w v l
theorem cellsAct : Try.prog.cellsOf 36 = 3 := by kernel_rfl
theorem bytesAct : Try.prog.bytesOf 36 = 24 := by kernel_rfl
theorem list3 {α : Type} {l : List α} (h : l.length = 3) : ∃ a b c, l = [a, b, c] := by
  match l, h with
  | [a, b, c], _ => exact ⟨a, b, c, rfl⟩
section
variable {H : Type} {enc : TypeId × Value → H} {w : World} {base : Nat} {spare : Nat → Bool} {held : Bool}
theorem open_ac {fuel : Nat} {cs : List Value} {x : DataW H × List MemPlace} (hx : DataW.trod enc Try.prog w base spare held fuel 36 cs = some x) : ∃ a : Ac, cs = a.cells := by
  obtain ⟨xs, n, _, hxe, hl, hlen, hfl⟩ := DataW.trod_struct Try.underlying36 hx
  rw [cellsAct] at hl
  obtain ⟨k0, k1, k2, rfl⟩ := list3 hl
  obtain ⟨y0, y1, y2, hxs⟩ := list3 (l := xs) (by simpa using hlen)
  subst hxs
  have g0 := hfl 0 _ rfl
  have g1 := hfl 1 _ rfl
  have g2 := hfl 2 _ rfl
  simp only [cells_Int, List.drop_zero, List.drop_succ_cons, List.take_succ_cons, List.take_zero, List.getElem?_cons_zero, List.getElem?_cons_succ] at g0 g1 g2
  obtain ⟨i0, e0, _, _⟩ := DataW.trod_int Try.underlying3 g0
  obtain ⟨i1, e1, _, _⟩ := DataW.trod_int Try.underlying3 g1
  obtain ⟨i2, e2, _, _⟩ := DataW.trod_int Try.underlying3 g2
  have q0 : k0 = .int .i64 i0 := by simpa [cells_Int] using e0
  have q1 : k1 = .int .i64 i1 := by simpa [cells_Int] using e1
  have q2 : k2 = .int .i64 i2 := by simpa [cells_Int] using e2
  exact ⟨⟨i0, i1, i2⟩, by rw [q0, q1, q2]; rfl⟩
theorem open_acs {v : Value} {d : DataW H} {p : List MemPlace} (hv : v.cells = #[v]) (h : DataW.Trod enc Try.prog w base spare held 23 v d p) (hsz : (d.weights Try.prog 23).all (· ≤ reachBytes) = true) (hlt : ∀ x ∈ p, x.block < w.heap.size) :
    ∃ l : List Ac, Acs w v l ∧ l.length * 24 ≤ 140737488351232 := by
  haveI : Nonempty Ac := ⟨⟨0, 0, 0⟩⟩
  refine open_elems Ac.cells (fun _ => True) Try.underlying23 cellsAct (fun _ => rfl) (by decide) bytesAct ?_ hv h hsz hlt
  intro fuel cs x hx hw
  obtain ⟨a, ha⟩ := open_ac hx
  exact ⟨a, ha, trivial⟩
end
end Go.Proofs.Yteinfckkpkbnlaa
