/- A body that comes in, opened: its numbers, its texts, its messages. -/
import Derived.Test.YtkgollfdbecncaaGreatRdB
import Derived.Test.YtkgollfdbecncaaGreatRows
import Derived.ProofKit
import Derived.OpenShut
import Derived.Deep.Slices
import Derived.Deep.Strs
import Derived.SizedLaws
namespace Go.Proofs.YtkgollfdbecncaaGreat
open Go.ChangeShapes Go.WideShapes Go.ChangeAt Go.RowKit Go.Deep
set_option linter.unusedVariables false
set_option linter.unusedSimpArgs false

theorem cellsInt : Tryz.prog.cellsOf 3 = 1 := by kernel_rfl
theorem cellsStr : Tryz.prog.cellsOf 9 = 1 := by kernel_rfl
theorem cellsSgs : Tryz.prog.cellsOf 22 = 1 := by kernel_rfl
theorem cellsSigned : Tryz.prog.cellsOf 36 = 3 := by kernel_rfl
theorem bytesSigned : Tryz.prog.bytesOf 36 = 40 := by kernel_rfl
theorem cellsBody : Tryz.prog.cellsOf 24 = 8 := by kernel_rfl

section
variable {H : Type} {enc : TypeId × Value → H} {w : World} {base : Nat} {spare : Nat → Bool} {held : Bool}

theorem list3 {α : Type} {l : List α} (h : l.length = 3) : ∃ a b c, l = [a, b, c] := by
  match l, h with
  | [a, b, c], _ => exact ⟨a, b, c, rfl⟩
theorem list8 {α : Type} {l : List α} (h : l.length = 8) : ∃ a b c d e f g i, l = [a, b, c, d, e, f, g, i] := by
  match l, h with
  | [a, b, c, d, e, f, g, i], _ => exact ⟨a, b, c, d, e, f, g, i, rfl⟩

theorem open_signed {fuel : Nat} {cs : List Value} {x : DataW H × List MemPlace} (h : DataW.trod enc Tryz.prog w base spare held fuel 36 cs = some x) :
    ∃ m : Sg, cs = [.int .i64 m.frm, .string m.body, .string m.sig] ∧ m.body.size ≤ maxLen ∧ m.sig.size ≤ maxLen := by
  obtain ⟨y0, y1, y2, n, hx, hl, h0, h1, h2⟩ := trod_struct3 Tryz.underlying36 h
  rw [cellsSigned] at hl
  obtain ⟨a, b, c, rfl⟩ := list3 hl
  simp only [cellsInt, cellsStr, List.drop_zero, List.drop_succ_cons, List.take_succ_cons, List.take_zero] at h0 h1 h2
  obtain ⟨i, e0, _, _⟩ := DataW.trod_int Tryz.underlying3 h0
  obtain ⟨s, e1, _, z1⟩ := DataW.trod_string Tryz.underlying9 h1
  obtain ⟨t, e2, _, z2⟩ := DataW.trod_string Tryz.underlying9 h2
  simp only [List.cons.injEq, and_true] at e0 e1 e2
  exact ⟨⟨i, s, t⟩, by rw [e0, e1, e2], z1, z2⟩

theorem open_sgs {fuel : Nat} {v : Value} {x : DataW H × List MemPlace} (h : DataW.trod enc Tryz.prog w base spare held fuel 22 [v] = some x) :
    ∃ l : List Sg, Sgs w v l ∧ l.length ≤ maxLen ∧ (l = [] ∨ ∃ elems spare, x.1 = .slice elems spare ∧ elems.length = l.length) := by
  rcases open_slice Tryz.underlying22 h with ⟨hv, _⟩ | ⟨a, len, cap, m, n, D, Pl, hv, _, hlc, hcm, hm, hxe, hx⟩
  · simp only [List.cons.injEq, and_true] at hv
    exact ⟨[], Or.inl ⟨⟨_, _, hv⟩, rfl⟩, by simp, Or.inl rfl⟩
  · simp only [List.cons.injEq, and_true] at hv
    subst hv
    have hlm : len ≤ m := by rw [hm]; split <;> omega
    rw [cellsSigned] at hx
    have hex : ∀ i, i < len → ∃ sg : Sg, w.cell? ((a.add (i * 3)).add 0) = some (.int .i64 sg.frm) ∧ w.cell? ((a.add (i * 3)).add 1) = some (.string sg.body) ∧ w.cell? ((a.add (i * 3)).add 2) = some (.string sg.sig) ∧ sg.body.size ≤ maxLen ∧ sg.sig.size ≤ maxLen := by
      intro i hi
      obtain ⟨cs', hc, ht⟩ := hx i (by omega)
      obtain ⟨_, _, hcc⟩ := World.cells?_some hc
      obtain ⟨sg, rfl, z1, z2⟩ := open_signed ht
      exact ⟨sg, by simpa using hcc 0 (by decide), by simpa using hcc 1 (by decide), by simpa using hcc 2 (by decide), z1, z2⟩
    rcases Nat.eq_zero_or_pos len with h0 | h0
    · subst h0
      exact ⟨[], Or.inl ⟨⟨_, _, rfl⟩, rfl⟩, by simp, Or.inl rfl⟩
    · obtain ⟨b, off, spot⟩ := a
      have hspot : spot = none := by
        obtain ⟨sg, h1, _⟩ := hex 0 h0
        simpa [Addr.add] using World.cell?_spot h1
      subst hspot
      have hch : ∃ f : Nat → Sg, ∀ i, i < len → w.cell? ⟨b, off + i * 3, none⟩ = some (.int .i64 (f i).frm) ∧ w.cell? ⟨b, off + i * 3 + 1, none⟩ = some (.string (f i).body) ∧ w.cell? ⟨b, off + i * 3 + 2, none⟩ = some (.string (f i).sig) ∧ (f i).body.size ≤ maxLen ∧ (f i).sig.size ≤ maxLen := by
        have hex' : ∀ i, i < len → ∃ sg : Sg, w.cell? ⟨b, off + i * 3, none⟩ = some (.int .i64 sg.frm) ∧ w.cell? ⟨b, off + i * 3 + 1, none⟩ = some (.string sg.body) ∧ w.cell? ⟨b, off + i * 3 + 2, none⟩ = some (.string sg.sig) ∧ sg.body.size ≤ maxLen ∧ sg.sig.size ≤ maxLen := by
          intro i hi
          obtain ⟨sg, q1, q2, q3, z⟩ := hex i hi
          rw [Addr.add_lit, Addr.add_lit] at q1 q2 q3
          exact ⟨sg, q1, q2, q3, z⟩
        refine ⟨fun i => if hi : i < len then Classical.choose (hex' i hi) else ⟨0, ⟨#[]⟩, ⟨#[]⟩⟩, fun i hi => ?_⟩
        have hc := Classical.choose_spec (hex' i hi)
        simp only [hi, dite_true]
        exact hc
      obtain ⟨f, hf⟩ := hch
      refine ⟨(List.range len).map f, Or.inr ⟨b, off, cap, by simp, fun i hi => ?_⟩, by simp; omega, Or.inr ⟨_, _, by rw [hxe], by simp⟩⟩
      simp only [List.length_map, List.length_range] at hi
      simp only [List.getElem_map, List.getElem_range]
      exact hf i hi

set_option maxRecDepth 100000 in
/-- A body's value and what it holds. -/
theorem open_body {r : Reach} {b0 : Nat} {v : Value} {d : DataW H} {p : List MemPlace} (hv : Value.okWide Tryz.prog w r b0 24 v) (h : DataW.Trod enc Tryz.prog w base spare held 24 v d p)
    (hsz0 : (DataW.weights Tryz.prog 24 d).all (· ≤ reachBytes) = true) :
    ∃ (b : Bd) (lv : Value), v = b.val lv ∧ Sgs w lv b.list ∧ b.digest.size ≤ maxLen ∧ b.text.size ≤ maxLen ∧ b.list.length * 40 ≤ 140737488351232 := by
  obtain ⟨cs, rfl, hsz⟩ := okWide_struct Tryz.underlying24 hv
  obtain ⟨fuel, hf⟩ := h
  obtain ⟨xs, n, _, hx, hl, hlen, hfl⟩ := DataW.trod_struct Tryz.underlying24 hf
  rw [cellsBody] at hsz
  obtain ⟨k0, k1, k2, k3, k4, k5, k6, k7, hcs⟩ := list8 (l := cs.toList) (by simpa using hsz)
  have hcs' : cs = #[k0, k1, k2, k3, k4, k5, k6, k7] := by rw [← hcs]
  subst hcs'
  obtain ⟨y0, y1, y2, y3, y4, y5, y6, y7, hxs⟩ := list8 (l := xs) (by simpa using hlen)
  subst hxs
  have g0 := hfl 0 _ rfl
  have g1 := hfl 1 _ rfl
  have g2 := hfl 2 _ rfl
  have g3 := hfl 3 _ rfl
  have g4 := hfl 4 _ rfl
  have g5 := hfl 5 _ rfl
  have g6 := hfl 6 _ rfl
  have g7 := hfl 7 _ rfl
  simp only [Value.cells, cellsInt, cellsStr, cellsSgs, List.drop_zero, List.drop_succ_cons, List.take_succ_cons, List.take_zero, List.getElem?_cons_zero, List.getElem?_cons_succ] at g0 g1 g2 g3 g4 g5 g6 g7
  obtain ⟨i0, e0, _, _⟩ := DataW.trod_int Tryz.underlying3 g0
  obtain ⟨i1, e1, _, _⟩ := DataW.trod_int Tryz.underlying3 g1
  obtain ⟨i2, e2, _, _⟩ := DataW.trod_int Tryz.underlying3 g2
  obtain ⟨i3, e3, _, _⟩ := DataW.trod_int Tryz.underlying3 g3
  obtain ⟨i4, e4, _, _⟩ := DataW.trod_int Tryz.underlying3 g4
  obtain ⟨s5, e5, _, z5⟩ := DataW.trod_string Tryz.underlying9 g5
  obtain ⟨s6, e6, _, z6⟩ := DataW.trod_string Tryz.underlying9 g6
  obtain ⟨l, hl7, hlm, hle⟩ := open_sgs g7
  have q0 : k0 = .int .i64 i0 := by simpa [cellsInt] using e0
  have q1 : k1 = .int .i64 i1 := by simpa [cellsInt] using e1
  have q2 : k2 = .int .i64 i2 := by simpa [cellsInt] using e2
  have q3 : k3 = .int .i64 i3 := by simpa [cellsInt] using e3
  have q4 : k4 = .int .i64 i4 := by simpa [cellsInt] using e4
  have q5 : k5 = .string s5 := by simpa [cellsStr] using e5
  have q6 : k6 = .string s6 := by simpa [cellsStr] using e6
  refine ⟨⟨i0, i1, i2, i3, i4, s5, s6, l⟩, k7, by rw [q0, q1, q2, q3, q4, q5, q6]; rfl, hl7, z5, z6, ?_⟩
  rcases hle with hle | ⟨elems, spare', hel, hlen'⟩
  · subst hle; simp
  · have hd : d = .agg [y0.1, y1.1, y2.1, y3.1, y4.1, y5.1, y6.1, y7.1] := by simpa using congrArg Prod.fst hx
    rw [hd] at hsz0
    have hm := List.all_eq_true.1 hsz0 ((elems.length + spare'.length) * Tryz.prog.bytesOf 36) (by
      simp only [DataW.weights, Tryz.underlying24]
      refine DataW.weights_mem_each (j := 7) (t := 22) (d := y7.1) rfl rfl _ ?_
      rw [hel]
      simp [DataW.weights, Tryz.underlying22])
    rw [bytesSigned] at hm
    have hm' : (elems.length + spare'.length) * 40 ≤ 140737488351232 := of_decide_eq_true hm
    show l.length * 40 ≤ 140737488351232
    rw [← hlen']
    omega
end
end Go.Proofs.YtkgollfdbecncaaGreat
