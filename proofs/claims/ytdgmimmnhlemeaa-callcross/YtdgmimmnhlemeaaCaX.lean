/- Orders, and calls of a book, that come in as arguments. -/
import Derived.Test.YtdgmimmnhlemeaaCaM
import Derived.Test.YtdgmimmnhlemeaaOpS
namespace Go.Proofs.Ytdgmimmnhlemeaa
open Go.ChangeShapes Go.WideShapes Go.ChangeAt Go.RowKit Go.Deep
set_option linter.unusedVariables false
set_option linter.unusedSimpArgs false

theorem cellsI : Try.prog.cellsOf 3 = 1 := by kernel_rfl
theorem cellsB : Try.prog.cellsOf 4 = 1 := by kernel_rfl
theorem cellsO : Try.prog.cellsOf 33 = 6 := by kernel_rfl
theorem bytesO : Try.prog.bytesOf 33 = 48 := by kernel_rfl
theorem list6 {α : Type} {l : List α} (h : l.length = 6) : ∃ a b c d e f, l = [a, b, c, d, e, f] := by
  match l, h with
  | [a, b, c, d, e, f], _ => exact ⟨a, b, c, d, e, f, rfl⟩
section
variable {H : Type} {enc : TypeId × Value → H} {w : World} {base : Nat} {spare : Nat → Bool} {held : Bool}
/-- A word of 64 bits with its sign. -/
def i64 (n : Int) : Prop := -9223372036854775808 ≤ n ∧ n ≤ 9223372036854775807
theorem open_od {fuel : Nat} {cs : List Value} {x : DataW H × List MemPlace} (hx : DataW.trod enc Try.prog w base spare held fuel 33 cs = some x) : ∃ o : Od, cs = oC o := by
  obtain ⟨xs, n, _, hxe, hl, hlen, hfl⟩ := DataW.trod_struct Try.underlying33 hx
  rw [cellsO] at hl
  obtain ⟨k0, k1, k2, k3, k4, k5, rfl⟩ := list6 hl
  obtain ⟨y0, y1, y2, y3, y4, y5, hxs⟩ := list6 (l := xs) (by simpa using hlen)
  subst hxs
  have g0 := hfl 0 _ rfl
  have g1 := hfl 1 _ rfl
  have g2 := hfl 2 _ rfl
  have g3 := hfl 3 _ rfl
  have g4 := hfl 4 _ rfl
  have g5 := hfl 5 _ rfl
  simp only [cellsI, cellsB, List.drop_zero, List.drop_succ_cons, List.take_succ_cons, List.take_zero, List.getElem?_cons_zero, List.getElem?_cons_succ] at g0 g1 g2 g3 g4 g5
  obtain ⟨i0, e0, _, _⟩ := DataW.trod_int Try.underlying3 g0
  obtain ⟨i1, e1, _, _⟩ := DataW.trod_int Try.underlying3 g1
  obtain ⟨i2, e2, _, _⟩ := DataW.trod_int Try.underlying3 g2
  obtain ⟨i3, e3, _, _⟩ := DataW.trod_int Try.underlying3 g3
  obtain ⟨i4, e4, _, _⟩ := DataW.trod_int Try.underlying3 g4
  obtain ⟨b5, e5, _⟩ := DataW.trod_bool Try.underlying4 g5
  have q0 : k0 = .int .i64 i0 := by simpa [cellsI] using e0
  have q1 : k1 = .int .i64 i1 := by simpa [cellsI] using e1
  have q2 : k2 = .int .i64 i2 := by simpa [cellsI] using e2
  have q3 : k3 = .int .i64 i3 := by simpa [cellsI] using e3
  have q4 : k4 = .int .i64 i4 := by simpa [cellsI] using e4
  have q5 : k5 = .bool b5 := by simpa [cellsB] using e5
  exact ⟨(i0, i1, i2, i3, i4, b5), by rw [q0, q1, q2, q3, q4, q5]; rfl⟩
theorem ods_elems {v : Value} {l : List Od} (h : Elems 6 oC (fun _ => True) w v l) : Ods w v l := by
  rcases h with ⟨⟨p, c, rfl⟩, rfl⟩ | ⟨b, off, cap, rfl, hl, hlc, hc⟩
  · exact ⟨p, c, rfl, Or.inl rfl⟩
  · refine ⟨_, cap, rfl, Or.inr ⟨b, off, rfl, fun i o j u hi hu => ?_⟩⟩
    obtain ⟨h1, h2⟩ := List.getElem?_eq_some_iff.1 hi
    have := (hc i h1).1 j u (by rw [h2]; exact hu)
    exact this
theorem open_ods {v : Value} {d : DataW H} {p : List MemPlace} (hv : v.cells = #[v]) (h : DataW.Trod enc Try.prog w base spare held 22 v d p) (hsz : (d.weights Try.prog 22).all (· ≤ reachBytes) = true) (hlt : ∀ x ∈ p, x.block < w.heap.size) :
    ∃ l : List Od, Ods w v l ∧ l.length * 48 ≤ 140737488351232 := by
  obtain ⟨l, h1, h2⟩ := open_elems oC (fun _ => True) Try.underlying22 cellsO (fun _ => rfl) (by decide) bytesO (fun fuel cs x hx hw => by
    obtain ⟨o, ho⟩ := open_od hx
    exact ⟨o, ho, trivial⟩) hv h hsz hlt
  exact ⟨l, ods_elems h1, h2⟩
end
end Go.Proofs.Ytdgmimmnhlemeaa
