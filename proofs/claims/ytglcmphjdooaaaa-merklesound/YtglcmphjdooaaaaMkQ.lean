/- A proof that comes in as an argument: opened, its sides such that they can be cut. -/
import Derived.Test.YtglcmphjdooaaaaMkO
namespace Go.Proofs.Ytglcmphjdooaaaa
open Go.ChangeShapes Go.WideShapes Go.ChangeAt Go.RowKit Go.Deep
set_option linter.unusedVariables false
set_option linter.unusedSimpArgs false

section
variable {H : Type} {enc : TypeId × Value → H} {w : World} {base : Nat} {spare : Nat → Bool} {held : Bool}
theorem cellsIntP : Try.prog.cellsOf 3 = 1 := by kernel_rfl
theorem cellsStrP : Try.prog.cellsOf 9 = 1 := by kernel_rfl
theorem cellsStrsP : Try.prog.cellsOf 68 = 1 := by kernel_rfl
theorem cellsPtsP : Try.prog.cellsOf 33 = 1 := by kernel_rfl
theorem cellsPathP : Try.prog.cellsOf 70 = 4 := by kernel_rfl
theorem cellsProofP : Try.prog.cellsOf 35 = 2 := by kernel_rfl

theorem open_strs {fuel : Nat} {v : Value} {x : DataW H × List MemPlace} (h : DataW.trod enc Try.prog w base spare held fuel 68 [v] = some x) :
    ∃ l : List ByteArray, Strs w v l ∧ Lf w v l := by
  rcases open_slice Try.underlying68 h with ⟨hv, _⟩ | ⟨a, len, cap, m, n, D, Pl, hv, _, hlc, hcm, hm, hxe, hx⟩
  · simp only [List.cons.injEq, and_true] at hv
    exact ⟨[], Or.inl ⟨⟨_, _, hv⟩, rfl⟩, _, _, hv, by simp, by omega, fun i hi => by simp at hi⟩
  · simp only [List.cons.injEq, and_true] at hv
    subst hv
    have hcm' : cap ≤ 9223372036854775807 := by unfold maxLen at hcm; omega
    have hlm : len ≤ m := by rw [hm]; split <;> omega
    rw [cellsStrP] at hx
    have hex : ∀ i, i < len → ∃ sg : ByteArray, w.cell? ((a.add (i * 1)).add 0) = some (.string sg) ∧ sg.size ≤ maxLen := by
      intro i hi
      obtain ⟨cs', hc, ht⟩ := hx i (by omega)
      obtain ⟨hlen, _, hcc⟩ := World.cells?_some hc
      obtain ⟨s, e1, _, z1⟩ := DataW.trod_string Try.underlying9 ht
      subst e1
      exact ⟨s, by simpa using hcc 0 (by decide), z1⟩
    rcases Nat.eq_zero_or_pos len with h0 | h0
    · subst h0
      exact ⟨[], Or.inl ⟨⟨_, _, rfl⟩, rfl⟩, _, cap, rfl, by simp, hcm', fun i hi => by simp at hi⟩
    · obtain ⟨b, off, spot⟩ := a
      have hspot : spot = none := by
        obtain ⟨sg, h1, _⟩ := hex 0 h0
        simpa [Addr.add] using World.cell?_spot h1
      subst hspot
      have hex' : ∀ i, i < len → ∃ sg : ByteArray, w.cell? ⟨b, off + i, none⟩ = some (.string sg) ∧ sg.size ≤ maxLen := by
        intro i hi
        obtain ⟨sg, q1, z⟩ := hex i hi
        rw [Addr.add_lit, Addr.add_lit, Nat.mul_one] at q1
        exact ⟨sg, q1, z⟩
      have hch : ∃ f : Nat → ByteArray, ∀ i, i < len → w.cell? ⟨b, off + i, none⟩ = some (.string (f i)) ∧ (f i).size ≤ maxLen := by
        refine ⟨fun i => if hi : i < len then Classical.choose (hex' i hi) else ⟨#[]⟩, fun i hi => ?_⟩
        have hc := Classical.choose_spec (hex' i hi)
        simp only [hi, dite_true]
        exact hc
      obtain ⟨f, hf⟩ := hch
      refine ⟨(List.range len).map f, Or.inr ⟨b, off, cap, by simp, fun i hi => ?_⟩, some ⟨b, off, none⟩, cap, by simp, by simpa using hlc, hcm', fun i hi => ⟨b, off, rfl, ?_⟩⟩
      · simp only [List.length_map, List.length_range] at hi
        simp only [List.getElem_map, List.getElem_range]
        exact hf i hi
      · simp only [List.length_map, List.length_range] at hi
        simp only [List.getElem_map, List.getElem_range]
        exact (hf i hi).1

theorem list4 {α : Type} {l : List α} (h : l.length = 4) : ∃ a b c d, l = [a, b, c, d] := by
  match l, h with
  | [a, b, c, d], _ => exact ⟨a, b, c, d, rfl⟩

set_option maxRecDepth 100000 in
theorem open_path {fuel : Nat} {cs : List Value} {x : DataW H × List MemPlace} (h : DataW.trod enc Try.prog w base spare held fuel 70 cs = some x) :
    ∃ (m : Pt) (sv : Value), cs = [.int .i64 m.idx, .string m.key, .string m.dat, sv] ∧ (Strs w sv m.sides ∧ Lf w sv m.sides) ∧ m.key.size ≤ maxLen ∧ m.dat.size ≤ maxLen := by
  obtain ⟨xs, n, _, hx, hl, hlen, hfl⟩ := DataW.trod_struct Try.underlying70 h
  rw [cellsPathP] at hl
  obtain ⟨k0, k1, k2, k3, rfl⟩ := list4 hl
  obtain ⟨y0, y1, y2, y3, hxs⟩ := list4 (l := xs) (by simpa using hlen)
  subst hxs
  have g0 := hfl 0 _ rfl
  have g1 := hfl 1 _ rfl
  have g2 := hfl 2 _ rfl
  have g3 := hfl 3 _ rfl
  simp only [cellsIntP, cellsStrP, cellsStrsP, List.drop_zero, List.drop_succ_cons, List.take_succ_cons, List.take_zero, List.getElem?_cons_zero, List.getElem?_cons_succ] at g0 g1 g2 g3
  obtain ⟨i0, e0, _, _⟩ := DataW.trod_int Try.underlying3 g0
  obtain ⟨s1, e1, _, z1⟩ := DataW.trod_string Try.underlying9 g1
  obtain ⟨s2, e2, _, z2⟩ := DataW.trod_string Try.underlying9 g2
  obtain ⟨l, hl3⟩ := open_strs g3
  have q0 : k0 = .int .i64 i0 := by simpa [cellsIntP] using e0
  have q1 : k1 = .string s1 := by simpa [cellsStrP] using e1
  have q2 : k2 = .string s2 := by simpa [cellsStrP] using e2
  exact ⟨⟨i0, s1, s2, l⟩, k3, by rw [q0, q1, q2], hl3, z1, z2⟩

theorem open_pts {fuel : Nat} {v : Value} {x : DataW H × List MemPlace} (h : DataW.trod enc Try.prog w base spare held fuel 33 [v] = some x) :
    ∃ l : List Pt, PtsC w v l := by
  rcases open_slice Try.underlying33 h with ⟨hv, _⟩ | ⟨a, len, cap, m, n, D, Pl, hv, _, hlc, hcm, hm, hxe, hx⟩
  · simp only [List.cons.injEq, and_true] at hv
    exact ⟨[], Or.inl ⟨⟨_, _, hv⟩, rfl⟩, fun k hk => by simp at hk⟩
  · simp only [List.cons.injEq, and_true] at hv
    subst hv
    have hlm : len ≤ m := by rw [hm]; split <;> omega
    rw [cellsPathP] at hx
    have hex : ∀ i, i < len → ∃ (g : Pt) (sv : Value), w.cell? ((a.add (i * 4)).add 0) = some (.int .i64 g.idx) ∧ w.cell? ((a.add (i * 4)).add 1) = some (.string g.key) ∧ w.cell? ((a.add (i * 4)).add 2) = some (.string g.dat) ∧ w.cell? ((a.add (i * 4)).add 3) = some sv ∧ (Strs w sv g.sides ∧ Lf w sv g.sides) ∧ g.key.size ≤ maxLen ∧ g.dat.size ≤ maxLen := by
      intro i hi
      obtain ⟨cs', hc, ht⟩ := hx i (by omega)
      obtain ⟨_, _, hcc⟩ := World.cells?_some hc
      obtain ⟨g, sv, rfl, z1, z2⟩ := open_path ht
      exact ⟨g, sv, by simpa using hcc 0 (by decide), by simpa using hcc 1 (by decide), by simpa using hcc 2 (by decide), by simpa using hcc 3 (by decide), z1, z2⟩
    rcases Nat.eq_zero_or_pos len with h0 | h0
    · subst h0
      exact ⟨[], Or.inl ⟨⟨_, _, rfl⟩, rfl⟩, fun k hk => by simp at hk⟩
    · obtain ⟨b, off, spot⟩ := a
      have hspot : spot = none := by
        obtain ⟨g, sv, h1, _⟩ := hex 0 h0
        simpa [Addr.add] using World.cell?_spot h1
      subst hspot
      have hex' : ∀ i, i < len → ∃ g : Pt, ∃ sv : Value, w.cell? ⟨b, off + i * 4, none⟩ = some (.int .i64 g.idx) ∧ w.cell? ⟨b, off + i * 4 + 1, none⟩ = some (.string g.key) ∧ w.cell? ⟨b, off + i * 4 + 2, none⟩ = some (.string g.dat) ∧ w.cell? ⟨b, off + i * 4 + 3, none⟩ = some sv ∧ (Strs w sv g.sides ∧ Lf w sv g.sides) ∧ g.key.size ≤ maxLen ∧ g.dat.size ≤ maxLen := by
        intro i hi
        obtain ⟨g, sv, q1, q2, q3, q4, z⟩ := hex i hi
        rw [Addr.add_lit, Addr.add_lit] at q1 q2 q3 q4
        exact ⟨g, sv, q1, q2, q3, q4, z⟩
      have hch : ∃ f : Nat → Pt, ∀ i, i < len → ∃ sv : Value, w.cell? ⟨b, off + i * 4, none⟩ = some (.int .i64 (f i).idx) ∧ w.cell? ⟨b, off + i * 4 + 1, none⟩ = some (.string (f i).key) ∧ w.cell? ⟨b, off + i * 4 + 2, none⟩ = some (.string (f i).dat) ∧ w.cell? ⟨b, off + i * 4 + 3, none⟩ = some sv ∧ (Strs w sv (f i).sides ∧ Lf w sv (f i).sides) ∧ (f i).key.size ≤ maxLen ∧ (f i).dat.size ≤ maxLen := by
        refine ⟨fun i => if hi : i < len then Classical.choose (hex' i hi) else ⟨0, ⟨#[]⟩, ⟨#[]⟩, []⟩, fun i hi => ?_⟩
        have hc := Classical.choose_spec (hex' i hi)
        simp only [hi, dite_true]
        exact hc
      obtain ⟨f, hf⟩ := hch
      refine ⟨(List.range len).map f, Or.inr ⟨b, off, cap, by simp, fun i hi => ?_⟩, fun k hk g off' cap' e => ?_⟩
      · simp only [List.length_map, List.length_range] at hi
        simp only [List.getElem_map, List.getElem_range]
        obtain ⟨sv, a1, a2, a3, a4, a5, a6⟩ := hf i hi
        exact ⟨sv, a1, a2, a3, a4, a5.1, a6⟩
      · simp only [List.length_map, List.length_range] at hk
        simp only [Value.slice.injEq, Option.some.injEq, Addr.mk.injEq, and_true] at e
        obtain ⟨⟨rfl, rfl⟩, _⟩ := e
        simp only [List.getElem_map, List.getElem_range]
        obtain ⟨sv, a1, a2, a3, a4, a5, a6⟩ := hf k hk
        exact ⟨sv, a4, a5.2⟩

set_option maxRecDepth 100000 in
theorem open_proof {r : Reach} {b0 : Nat} {v : Value} {d : DataW H} {p : List MemPlace} (hv : Value.okWide Try.prog w r b0 35 v) (h : DataW.Trod enc Try.prog w base spare held 35 v d p) :
    ∃ (x : Pf) (lv : Value), v = x.val lv ∧ PtsC w lv x.paths := by
  obtain ⟨cs, rfl, hsz⟩ := okWide_struct Try.underlying35 hv
  obtain ⟨fuel, hf⟩ := h
  obtain ⟨y0, y1, n, hx, hl, h0, h1⟩ := trod_struct2 Try.underlying35 hf
  rw [cellsProofP] at hsz
  obtain ⟨k0, k1, hcs⟩ : ∃ a b, cs.toList = [a, b] := by
    match hcs : cs.toList, (show cs.toList.length = 2 by simpa using hsz) with
    | [a, b], _ => exact ⟨a, b, rfl⟩
  have hcs' : cs = #[k0, k1] := by rw [← hcs]
  subst hcs'
  simp only [Value.cells, cellsIntP, cellsPtsP, List.drop_zero, List.drop_succ_cons, List.take_succ_cons, List.take_zero] at h0 h1
  obtain ⟨i0, e0, _, _⟩ := DataW.trod_int Try.underlying3 h0
  obtain ⟨l, hl1⟩ := open_pts h1
  have q0 : k0 = .int .i64 i0 := by simpa using e0
  exact ⟨⟨i0, l⟩, k1, by rw [q0]; rfl, hl1⟩
end
end Go.Proofs.Ytglcmphjdooaaaa
