/- A slice of records that comes in as an argument: opened. -/
import Derived.Test.YtpcafjbebhcilaaGreatTm35
import Derived.Test.YtpcafjbebhcilaaGreatTm12
namespace Go.Proofs.YtpcafjbebhcilaaGreat
open Go.ChangeShapes Go.WideShapes Go.ChangeAt Go.RowKit Go.Deep
set_option linter.unusedVariables false
set_option linter.unusedSimpArgs false

section
variable {H : Type} {enc : TypeId × Value → H} {w : World} {base : Nat} {spare : Nat → Bool} {held : Bool}
theorem cellsStrO : Tryz.prog.cellsOf 9 = 1 := by kernel_rfl
theorem cellsRecord : Tryz.prog.cellsOf 47 = 2 := by kernel_rfl
set_option maxRecDepth 100000 in
theorem open_record {fuel : Nat} {cs : List Value} {x : DataW H × List MemPlace} (h : DataW.trod enc Tryz.prog w base spare held fuel 47 cs = some x) :
    ∃ m : Rc, cs = [.string m.key, .string m.dat] ∧ m.key.size ≤ maxLen ∧ m.dat.size ≤ maxLen := by
  obtain ⟨y0, y1, n, hx, hl, h0, h1⟩ := trod_struct2 Tryz.underlying47 h
  rw [cellsRecord] at hl
  obtain ⟨a, b, rfl⟩ : ∃ a b, cs = [a, b] := by
    match cs, hl with
    | [a, b], _ => exact ⟨a, b, rfl⟩
  simp only [cellsStrO, List.drop_zero, List.drop_succ_cons, List.take_succ_cons, List.take_zero] at h0 h1
  obtain ⟨s, e1, _, z1⟩ := DataW.trod_string Tryz.underlying9 h0
  obtain ⟨t, e2, _, z2⟩ := DataW.trod_string Tryz.underlying9 h1
  simp only [List.cons.injEq, and_true] at e1 e2
  exact ⟨⟨s, t⟩, by rw [e1, e2], z1, z2⟩
theorem open_rcsF {fuel : Nat} {v : Value} {x : DataW H × List MemPlace} (h : DataW.trod enc Tryz.prog w base spare held fuel 27 [v] = some x) :
    ∃ l : List Rc, RcsC w v l := by
  rcases open_slice Tryz.underlying27 h with ⟨hv, _⟩ | ⟨a, len, cap, m, n, D, Pl, hv, _, hlc, hcm, hm, hxe, hx⟩
  · simp only [List.cons.injEq, and_true] at hv
    exact ⟨[], Or.inl ⟨⟨_, _, hv⟩, rfl⟩, _, _, hv, by simp, by omega⟩
  · simp only [List.cons.injEq, and_true] at hv
    subst hv
    have hcm' : cap ≤ 9223372036854775807 := by unfold maxLen at hcm; omega
    have hlm : len ≤ m := by rw [hm]; split <;> omega
    rw [cellsRecord] at hx
    have hex : ∀ i, i < len → ∃ sg : Rc, w.cell? ((a.add (i * 2)).add 0) = some (.string sg.key) ∧ w.cell? ((a.add (i * 2)).add 1) = some (.string sg.dat) ∧ sg.key.size ≤ maxLen ∧ sg.dat.size ≤ maxLen := by
      intro i hi
      obtain ⟨cs', hc, ht⟩ := hx i (by omega)
      obtain ⟨_, _, hcc⟩ := World.cells?_some hc
      obtain ⟨sg, rfl, z1, z2⟩ := open_record ht
      exact ⟨sg, by simpa using hcc 0 (by decide), by simpa using hcc 1 (by decide), z1, z2⟩
    rcases Nat.eq_zero_or_pos len with h0 | h0
    · subst h0
      exact ⟨[], Or.inl ⟨⟨_, _, rfl⟩, rfl⟩, _, cap, rfl, by simp, hcm'⟩
    · obtain ⟨b, off, spot⟩ := a
      have hspot : spot = none := by
        obtain ⟨sg, h1, _⟩ := hex 0 h0
        simpa [Addr.add] using World.cell?_spot h1
      subst hspot
      have hch : ∃ f : Nat → Rc, ∀ i, i < len → w.cell? ⟨b, off + i * 2, none⟩ = some (.string (f i).key) ∧ w.cell? ⟨b, off + i * 2 + 1, none⟩ = some (.string (f i).dat) ∧ (f i).key.size ≤ maxLen ∧ (f i).dat.size ≤ maxLen := by
        have hex' : ∀ i, i < len → ∃ sg : Rc, w.cell? ⟨b, off + i * 2, none⟩ = some (.string sg.key) ∧ w.cell? ⟨b, off + i * 2 + 1, none⟩ = some (.string sg.dat) ∧ sg.key.size ≤ maxLen ∧ sg.dat.size ≤ maxLen := by
          intro i hi
          obtain ⟨sg, q1, q2, z⟩ := hex i hi
          rw [Addr.add_lit, Addr.add_lit] at q1 q2
          exact ⟨sg, q1, q2, z⟩
        refine ⟨fun i => if hi : i < len then Classical.choose (hex' i hi) else ⟨⟨#[]⟩, ⟨#[]⟩⟩, fun i hi => ?_⟩
        have hc := Classical.choose_spec (hex' i hi)
        simp only [hi, dite_true]
        exact hc
      obtain ⟨f, hf⟩ := hch
      refine ⟨(List.range len).map f, Or.inr ⟨b, off, cap, by simp, fun i hi => ?_⟩, some ⟨b, off, none⟩, cap, by simp, by simpa using hlc, hcm'⟩
      simp only [List.length_map, List.length_range] at hi
      simp only [List.getElem_map, List.getElem_range]
      exact hf i hi
theorem open_rcs {v : Value} {d : DataW H} {p : List MemPlace} (hv : v.cells = #[v]) (h : DataW.Trod enc Tryz.prog w base spare held 27 v d p) (hsz : (d.weights Tryz.prog 27).all (· ≤ reachBytes) = true) (hlt : ∀ x ∈ p, x.block < w.heap.size) :
    ∃ l : List Rc, RcsC w v l ∧ l.length ≤ 9223372036854775807 := by
  obtain ⟨fuel, hf⟩ := h
  rw [hv] at hf
  obtain ⟨l, hl⟩ := open_rcsF hf
  exact ⟨l, hl, hl.len⟩
end
end Go.Proofs.YtpcafjbebhcilaaGreat
