/- WireRecords returns true for every records and every text, and its arguments read afterwards as before; no condition. -/
import Derived.Test.YtdaonkgcdheplaaRec
import Derived.Test.YtdaonkgcdheplaaRows
import Derived.ProofKit
import Derived.OpenShut
import Derived.Deep.Slices
import Derived.Deep.Strs
import Derived.SizedLaws
namespace Go.Proofs.Ytdaonkgcdheplaa
open Go.ChangeShapes Go.WideShapes Go.ChangeAt Go.RowKit Go.Deep
open Go.ChangeMaps (open_string shut_string)
set_option linter.unusedVariables false

theorem wireRecords_own : ownKnob Try.prog.godebug = none := by kernel_rfl
theorem wireRecords_laid : laidOutB Try.prog = true := by kernel_rfl

section
variable {H : Type} {enc : TypeId × Value → H} {w : World} {base : Nat} {spare : Nat → Bool} {held : Bool}
theorem cellsRecord : Try.prog.cellsOf 51 = 2 := by kernel_rfl

set_option maxRecDepth 100000 in
theorem open_record {fuel : Nat} {cs : List Value} {x : DataW H × List MemPlace} (h : DataW.trod enc Try.prog w base spare held fuel 51 cs = some x) :
    ∃ m : Rc, cs = [.string m.key, .string m.dat] ∧ m.key.size ≤ maxLen ∧ m.dat.size ≤ maxLen := by
  obtain ⟨y0, y1, n, hx, hl, h0, h1⟩ := trod_struct2 Try.underlying51 h
  rw [cellsRecord] at hl
  obtain ⟨a, b, rfl⟩ : ∃ a b, cs = [a, b] := by
    match cs, hl with
    | [a, b], _ => exact ⟨a, b, rfl⟩
  simp only [cellsStrS, List.drop_zero, List.drop_succ_cons, List.take_succ_cons, List.take_zero] at h0 h1
  obtain ⟨s, e1, _, z1⟩ := DataW.trod_string Try.underlying9 h0
  obtain ⟨t, e2, _, z2⟩ := DataW.trod_string Try.underlying9 h1
  simp only [List.cons.injEq, and_true] at e1 e2
  exact ⟨⟨s, t⟩, by rw [e1, e2], z1, z2⟩

theorem open_rcs {fuel : Nat} {v : Value} {x : DataW H × List MemPlace} (h : DataW.trod enc Try.prog w base spare held fuel 22 [v] = some x) :
    ∃ l : List Rc, Rcs w v l ∧ l.length ≤ maxLen := by
  rcases open_slice Try.underlying22 h with ⟨hv, _⟩ | ⟨a, len, cap, m, n, D, Pl, hv, _, hlc, hcm, hm, hxe, hx⟩
  · simp only [List.cons.injEq, and_true] at hv
    exact ⟨[], Or.inl ⟨⟨_, _, hv⟩, rfl⟩, by simp⟩
  · simp only [List.cons.injEq, and_true] at hv
    subst hv
    have hlm : len ≤ m := by rw [hm]; split <;> omega
    rw [cellsRecord] at hx
    have hex : ∀ i, i < len → ∃ sg : Rc, w.cell? ((a.add (i * 2)).add 0) = some (.string sg.key) ∧ w.cell? ((a.add (i * 2)).add 1) = some (.string sg.dat) ∧ sg.key.size ≤ maxLen ∧ sg.dat.size ≤ maxLen := by
      intro i hi
      obtain ⟨cs', hc, ht⟩ := hx i (by omega)
      obtain ⟨_, _, hcc⟩ := World.cells?_some hc
      obtain ⟨sg, rfl, z1, z2⟩ := open_record ht
      exact ⟨sg, by simpa using hcc 0 (by decide), by simpa using hcc 1 (by decide), z1, z2⟩
    rcases Nat.eq_zero_or_pos len with h0 | h0
    · subst h0
      exact ⟨[], Or.inl ⟨⟨_, _, rfl⟩, rfl⟩, by simp⟩
    · obtain ⟨b, off, spot⟩ := a
      have hspot : spot = none := by
        obtain ⟨sg, h1, _⟩ := hex 0 h0
        simpa [Addr.add] using World.cell?_spot h1
      subst hspot
      have hch : ∃ f : Nat → Rc, ∀ i, i < len → w.cell? ⟨b, off + i * 2, none⟩ = some (.string (f i).key) ∧ w.cell? ⟨b, off + i * 2 + 1, none⟩ = some (.string (f i).dat) ∧ (f i).key.size ≤ maxLen ∧ (f i).dat.size ≤ maxLen := by
        have hex' : ∀ i, i < len → ∃ sg : Rc, w.cell? ⟨b, off + i * 2, none⟩ = some (.string sg.key) ∧ w.cell? ⟨b, off + i * 2 + 1, none⟩ = some (.string sg.dat) ∧ sg.key.size ≤ maxLen ∧ sg.dat.size ≤ maxLen := by
          intro i hi
          obtain ⟨sg, q1, q2, z⟩ := hex i hi
          rw [Addr.add_lit, Addr.add_lit] at q1 q2
          exact ⟨sg, q1, q2, z⟩
        refine ⟨fun i => if hi : i < len then Classical.choose (hex' i hi) else ⟨⟨#[]⟩, ⟨#[]⟩⟩, fun i hi => ?_⟩
        have hc := Classical.choose_spec (hex' i hi)
        simp only [hi, dite_true]
        exact hc
      obtain ⟨f, hf⟩ := hch
      refine ⟨(List.range len).map f, Or.inr ⟨b, off, cap, by simp, fun i hi => ?_⟩, by simp; omega⟩
      simp only [List.length_map, List.length_range] at hi
      simp only [List.getElem_map, List.getElem_range]
      exact hf i hi
end

set_option maxRecDepth 100000 in
theorem wireRecords_lifted (os : Os) (started : os.Started) (H : Type) (enc : TypeId × Value → H) :
    ReturnsInHanded {} Try.checked os 3 .any (Rows.wireRecordsSpec.pre6 enc Try.prog Try.f3 Rows.wireRecordsRow.domain false) (Rows.wireRecordsSpec.post enc Try.prog Try.f3 false true false false) := by
  refine returnsInHanded_of_change (C := Try.checked) wireRecords_own started (by kernel_rfl) Try.func3
    (ChangeSpec.witness6 (enc := enc) (C := Try.checked) false ⟨#[], #[.slice none 0 0, .string .empty], []⟩ 8 (by kernel_rfl) (by kernel_rfl) (by kernel_rfl) (by kernel_rfl)) ?_
  intro W base args ds gs before hval0 hW hcnd _
  have hval : ∀ (j : Nat) t v, Try.f3.params[j]? = some t → args[j]? = some v → Value.okWide Try.prog W .any base t v := hval0
  have hW' := hW
  obtain ⟨p, q, hA0, hV, rfl, hfz, hnd⟩ := hW
  have hA : DataW.TrodAll enc Try.prog W 0 (fun _ => true) true Try.f3.params.toList args.toList ds p := hA0
  rw [Try.params3] at hA hval
  obtain ⟨v0, vs0, d0, ds0, p0, q0, hargs, rfl, rfl, h0, r0⟩ := trodAll_cons hA
  obtain ⟨v1, vs1, d1, ds1, p1, q1, rfl, rfl, rfl, h1, r1⟩ := trodAll_cons r0
  obtain ⟨rfl, rfl, rfl⟩ := trodAll_nil r1
  obtain rfl : args = #[v0, v1] := by cases args; simp_all
  obtain ⟨rfl, rfl⟩ := trodVars_none hV
  clear hA0
  have hlt : ∀ x ∈ p0, x.block < W.heap.size := fun x hx => by simpa using hW'.lt x (by simp [hx])
  have hcell : v0.cells = #[v0] := by
    obtain ⟨p', n', c', rfl⟩ := okWide_slice Try.underlying22 (hval 0 22 v0 rfl rfl)
    rfl
  obtain ⟨l, hl, z1⟩ : ∃ l : List Rc, Rcs W v0 l ∧ l.length ≤ maxLen := by
    obtain ⟨fuel, hf⟩ := h0
    rw [hcell] at hf
    exact open_rcs hf
  obtain ⟨s, rfl, rfl, rfl, hmax⟩ := open_string Try.underlying9 (hval 1 9 v1 rfl rfl) h1
  simp only [List.append_nil] at hW'
  refine (recordsLaw_calls v0 l s W hl (by unfold maxLen at z1; omega) hmax).mono fun e W' ⟨he, hg⟩ => ?_
  subst he
  have harg := trodAll_cons_mk (Below.trod wireRecords_laid (by kernel_rfl) (of_decide_eq_true (by kernel_rfl)) h0 hg hlt) (trodAll_cons_mk (shut_string Try.underlying9 hmax) (trodAll_mk0 (enc := enc) (P := Try.prog) (w := W') (base := 0) (spare := fun b => decide (b < W.heap.size)) (held := true)))
  simp only [List.append_nil] at harg
  exact ⟨_, rfl, _, _, _, [], p0, [], hW', trodAll_cons_mk (shut_bool Try.underlying4 _) trodAll_mk0,
    harg, rfl,
    hg.frame _, fun h => by cases h⟩

theorem wireRecords_holds : Rows.WireRecordsSaid :=
  OpenClaim.holds_of_wide 3 Try.f3 rfl rfl rfl rfl rfl rfl rfl ⟨rfl, rfl, rfl, rfl, rfl⟩ rfl rfl rfl rfl rfl (by kernel_rfl) Try.func3 (by kernel_rfl)
    (of_decide_eq_true (by kernel_rfl)) (by unfold Func.isWrapper; first | (rw [if_pos (by decide +kernel)]; kernel_rfl) | (rw [if_neg (by decide +kernel)]; exact ⟨rfl, rfl⟩))
    (fun os started H enc _ => wireRecords_lifted os started H enc)
#print axioms wireRecords_holds
end Go.Proofs.Ytdaonkgcdheplaa
