/- Orders, and calls of a book, that come in as arguments. -/
import Derived.Test.YtglbfeccdibmiaaCaM
import Derived.Test.YtglbfeccdibmiaaOpS
namespace Go.Proofs.Ytglbfeccdibmiaa
open Go.ChangeShapes Go.WideShapes Go.ChangeAt Go.RowKit Go.Deep
set_option linter.unusedVariables false
set_option linter.unusedSimpArgs false

theorem cellsI : Try.prog.cellsOf 3 = 1 := by kernel_rfl
theorem cellsB : Try.prog.cellsOf 4 = 1 := by kernel_rfl
theorem cellsO : Try.prog.cellsOf 31 = 6 := by kernel_rfl
theorem bytesO : Try.prog.bytesOf 31 = 48 := by kernel_rfl
theorem list6 {α : Type} {l : List α} (h : l.length = 6) : ∃ a b c d e f, l = [a, b, c, d, e, f] := by
  match l, h with
  | [a, b, c, d, e, f], _ => exact ⟨a, b, c, d, e, f, rfl⟩
section
variable {H : Type} {enc : TypeId × Value → H} {w : World} {base : Nat} {spare : Nat → Bool} {held : Bool}
/-- A word of 64 bits with its sign. -/
def i64 (n : Int) : Prop := -9223372036854775808 ≤ n ∧ n ≤ 9223372036854775807
theorem open_od {fuel : Nat} {cs : List Value} {x : DataW H × List MemPlace} (hx : DataW.trod enc Try.prog w base spare held fuel 31 cs = some x) : ∃ o : Od, cs = oC o := by
  obtain ⟨xs, n, _, hxe, hl, hlen, hfl⟩ := DataW.trod_struct Try.underlying31 hx
  rw [cellsO] at hl
  obtain ⟨k0, k1, k2, k3, k4, k5, rfl⟩ := list6 hl
  obtain ⟨y0, y1, y2, y3, y4, y5, hxs⟩ := list6 (l := xs) (by simpa using hlen)
  subst hxs
  have g0 := hfl 0 _ rfl
  have g1 := hfl 1 _ rfl
  have g2 := hfl 2 _ rfl
  have g3 := hfl 3 _ rfl
  have g4 := hfl 4 _ rfl
  have g5 := hfl 5 _ rfl
  simp only [cellsI, cellsB, List.drop_zero, List.drop_succ_cons, List.take_succ_cons, List.take_zero, List.getElem?_cons_zero, List.getElem?_cons_succ] at g0 g1 g2 g3 g4 g5
  obtain ⟨i0, e0, _, _⟩ := DataW.trod_int Try.underlying3 g0
  obtain ⟨i1, e1, _, _⟩ := DataW.trod_int Try.underlying3 g1
  obtain ⟨i2, e2, _, _⟩ := DataW.trod_int Try.underlying3 g2
  obtain ⟨i3, e3, _, _⟩ := DataW.trod_int Try.underlying3 g3
  obtain ⟨i4, e4, _, _⟩ := DataW.trod_int Try.underlying3 g4
  obtain ⟨b5, e5, _⟩ := DataW.trod_bool Try.underlying4 g5
  have q0 : k0 = .int .i64 i0 := by simpa [cellsI] using e0
  have q1 : k1 = .int .i64 i1 := by simpa [cellsI] using e1
  have q2 : k2 = .int .i64 i2 := by simpa [cellsI] using e2
  have q3 : k3 = .int .i64 i3 := by simpa [cellsI] using e3
  have q4 : k4 = .int .i64 i4 := by simpa [cellsI] using e4
  have q5 : k5 = .bool b5 := by simpa [cellsB] using e5
  exact ⟨(i0, i1, i2, i3, i4, b5), by rw [q0, q1, q2, q3, q4, q5]; rfl⟩
theorem ods_elems {v : Value} {l : List Od} (h : Elems 6 oC (fun _ => True) w v l) : Ods w v l := by
  rcases h with ⟨⟨p, c, rfl⟩, rfl⟩ | ⟨b, off, cap, rfl, hl, hlc, hc⟩
  · exact ⟨p, c, rfl, Or.inl rfl⟩
  · refine ⟨_, cap, rfl, Or.inr ⟨b, off, rfl, fun i o j u hi hu => ?_⟩⟩
    obtain ⟨h1, h2⟩ := List.getElem?_eq_some_iff.1 hi
    have := (hc i h1).1 j u (by rw [h2]; exact hu)
    exact this
theorem open_ods {v : Value} {d : DataW H} {p : List MemPlace} (hv : v.cells = #[v]) (h : DataW.Trod enc Try.prog w base spare held 25 v d p) (hsz : (d.weights Try.prog 25).all (· ≤ reachBytes) = true) (hlt : ∀ x ∈ p, x.block < w.heap.size) :
    ∃ l : List Od, Ods w v l ∧ l.length * 48 ≤ 140737488351232 := by
  obtain ⟨l, h1, h2⟩ := open_elems oC (fun _ => True) Try.underlying25 cellsO (fun _ => rfl) (by decide) bytesO (fun fuel cs x hx hw => by
    obtain ⟨o, ho⟩ := open_od hx
    exact ⟨o, ho, trivial⟩) hv h hsz hlt
  exact ⟨l, ods_elems h1, h2⟩
/-- A call of a book: its kind, the order. -/
abbrev Ac : Type := Int × Od
def acC (a : Ac) : List Value := .int .i64 a.1 :: oC a.2
abbrev Acs (w : World) (v : Value) (l : List Ac) : Prop := Elems 7 acC (fun _ => True) w v l
theorem cellsAct : Try.prog.cellsOf 33 = 7 := by kernel_rfl
theorem bytesAct : Try.prog.bytesOf 33 = 56 := by kernel_rfl
theorem list2' {α : Type} {l : List α} (h : l.length = 2) : ∃ a b, l = [a, b] := by
  match l, h with
  | [a, b], _ => exact ⟨a, b, rfl⟩
theorem open_ac {fuel : Nat} {cs : List Value} {x : DataW H × List MemPlace} (hx : DataW.trod enc Try.prog w base spare held fuel 33 cs = some x) : ∃ a : Ac, cs = acC a := by
  obtain ⟨xs, n, _, hxe, hl, hlen, hfl⟩ := DataW.trod_struct Try.underlying33 hx
  rw [cellsAct] at hl
  obtain ⟨k0, cs', rfl⟩ : ∃ k0 cs', cs = k0 :: cs' := by
    cases cs with
    | nil => simp at hl
    | cons a t => exact ⟨a, t, rfl⟩
  obtain ⟨y0, y1, hxs⟩ := list2' (l := xs) (by simpa using hlen)
  subst hxs
  have hl6 : cs'.length = 6 := by simpa using hl
  have g0 := hfl 0 _ rfl
  have g1 : DataW.trod enc Try.prog w base spare held n 31 cs' = some y1 := by
    have q : DataW.trod enc Try.prog w base spare held n 31 (List.take (Try.prog.cellsOf 31) (List.drop 1 (k0 :: cs'))) = some y1 := hfl 1 _ rfl
    rw [cellsO] at q
    have e : List.take 6 (List.drop 1 (k0 :: cs')) = cs' := by rw [List.drop_succ_cons, List.drop_zero, List.take_of_length_le (by omega)]
    rw [← e]
    exact q
  simp only [cellsI, List.drop_zero, List.take_succ_cons, List.take_zero, List.getElem?_cons_zero] at g0
  obtain ⟨i0, e0, _, _⟩ := DataW.trod_int Try.underlying3 g0
  obtain ⟨o, e1⟩ := open_od g1
  have q0 : k0 = .int .i64 i0 := by simpa [cellsI] using e0
  exact ⟨(i0, o), by rw [q0, e1]; rfl⟩
theorem open_acs {v : Value} {d : DataW H} {p : List MemPlace} (hv : v.cells = #[v]) (h : DataW.Trod enc Try.prog w base spare held 22 v d p) (hsz : (d.weights Try.prog 22).all (· ≤ reachBytes) = true) (hlt : ∀ x ∈ p, x.block < w.heap.size) :
    ∃ l : List Ac, Acs w v l ∧ l.length * 56 ≤ 140737488351232 := by
  refine open_elems acC (fun _ => True) Try.underlying22 cellsAct (fun _ => rfl) (by decide) bytesAct ?_ hv h hsz hlt
  intro fuel cs x hx hw
  obtain ⟨a, ha⟩ := open_ac hx
  exact ⟨a, ha, trivial⟩
end
end Go.Proofs.Ytglbfeccdibmiaa
