/- WireProofs returns true for every proof and every text, and its arguments read afterwards as before; no condition. -/
import Derived.Test.YtdaonkgcdheplaaPrf
import Derived.Test.YtdaonkgcdheplaaRows
import Derived.ProofKit
import Derived.OpenShut
import Derived.Deep.Slices
import Derived.Deep.Strs
import Derived.SizedLaws
namespace Go.Proofs.Ytdaonkgcdheplaa
open Go.ChangeShapes Go.WideShapes Go.ChangeAt Go.RowKit Go.Deep
open Go.ChangeMaps (open_string shut_string)
set_option linter.unusedVariables false
set_option linter.unusedSimpArgs false

theorem wireProofs_own : ownKnob Try.prog.godebug = none := by kernel_rfl
theorem wireProofs_laid : laidOutB Try.prog = true := by kernel_rfl

section
variable {H : Type} {enc : TypeId × Value → H} {w : World} {base : Nat} {spare : Nat → Bool} {held : Bool}
theorem cellsIntP : Try.prog.cellsOf 3 = 1 := by kernel_rfl
theorem cellsStrP : Try.prog.cellsOf 9 = 1 := by kernel_rfl
theorem cellsStrsP : Try.prog.cellsOf 72 = 1 := by kernel_rfl
theorem cellsPtsP : Try.prog.cellsOf 31 = 1 := by kernel_rfl
theorem cellsPathP : Try.prog.cellsOf 74 = 4 := by kernel_rfl
theorem cellsProofP : Try.prog.cellsOf 33 = 2 := by kernel_rfl

theorem open_strs {fuel : Nat} {v : Value} {x : DataW H × List MemPlace} (h : DataW.trod enc Try.prog w base spare held fuel 72 [v] = some x) :
    ∃ l : List ByteArray, Strs w v l := by
  rcases open_slice Try.underlying72 h with ⟨hv, _⟩ | ⟨a, len, cap, m, n, D, Pl, hv, _, hlc, hcm, hm, hxe, hx⟩
  · simp only [List.cons.injEq, and_true] at hv
    exact ⟨[], Or.inl ⟨⟨_, _, hv⟩, rfl⟩⟩
  · simp only [List.cons.injEq, and_true] at hv
    subst hv
    have hlm : len ≤ m := by rw [hm]; split <;> omega
    rw [cellsStrP] at hx
    have hex : ∀ i, i < len → ∃ sg : ByteArray, w.cell? ((a.add (i * 1)).add 0) = some (.string sg) ∧ sg.size ≤ maxLen := by
      intro i hi
      obtain ⟨cs', hc, ht⟩ := hx i (by omega)
      obtain ⟨hlen, _, hcc⟩ := World.cells?_some hc
      obtain ⟨s, e1, _, z1⟩ := DataW.trod_string Try.underlying9 ht
      subst e1
      exact ⟨s, by simpa using hcc 0 (by decide), z1⟩
    rcases Nat.eq_zero_or_pos len with h0 | h0
    · subst h0
      exact ⟨[], Or.inl ⟨⟨_, _, rfl⟩, rfl⟩⟩
    · obtain ⟨b, off, spot⟩ := a
      have hspot : spot = none := by
        obtain ⟨sg, h1, _⟩ := hex 0 h0
        simpa [Addr.add] using World.cell?_spot h1
      subst hspot
      have hex' : ∀ i, i < len → ∃ sg : ByteArray, w.cell? ⟨b, off + i, none⟩ = some (.string sg) ∧ sg.size ≤ maxLen := by
        intro i hi
        obtain ⟨sg, q1, z⟩ := hex i hi
        rw [Addr.add_lit, Addr.add_lit, Nat.mul_one] at q1
        exact ⟨sg, q1, z⟩
      have hch : ∃ f : Nat → ByteArray, ∀ i, i < len → w.cell? ⟨b, off + i, none⟩ = some (.string (f i)) ∧ (f i).size ≤ maxLen := by
        refine ⟨fun i => if hi : i < len then Classical.choose (hex' i hi) else ⟨#[]⟩, fun i hi => ?_⟩
        have hc := Classical.choose_spec (hex' i hi)
        simp only [hi, dite_true]
        exact hc
      obtain ⟨f, hf⟩ := hch
      refine ⟨(List.range len).map f, Or.inr ⟨b, off, cap, by simp, fun i hi => ?_⟩⟩
      simp only [List.length_map, List.length_range] at hi
      simp only [List.getElem_map, List.getElem_range]
      exact hf i hi

theorem list4 {α : Type} {l : List α} (h : l.length = 4) : ∃ a b c d, l = [a, b, c, d] := by
  match l, h with
  | [a, b, c, d], _ => exact ⟨a, b, c, d, rfl⟩

set_option maxRecDepth 100000 in
theorem open_path {fuel : Nat} {cs : List Value} {x : DataW H × List MemPlace} (h : DataW.trod enc Try.prog w base spare held fuel 74 cs = some x) :
    ∃ (m : Pt) (sv : Value), cs = [.int .i64 m.idx, .string m.key, .string m.dat, sv] ∧ Strs w sv m.sides ∧ m.key.size ≤ maxLen ∧ m.dat.size ≤ maxLen := by
  obtain ⟨xs, n, _, hx, hl, hlen, hfl⟩ := DataW.trod_struct Try.underlying74 h
  rw [cellsPathP] at hl
  obtain ⟨k0, k1, k2, k3, rfl⟩ := list4 hl
  obtain ⟨y0, y1, y2, y3, hxs⟩ := list4 (l := xs) (by simpa using hlen)
  subst hxs
  have g0 := hfl 0 _ rfl
  have g1 := hfl 1 _ rfl
  have g2 := hfl 2 _ rfl
  have g3 := hfl 3 _ rfl
  simp only [cellsIntP, cellsStrP, cellsStrsP, List.drop_zero, List.drop_succ_cons, List.take_succ_cons, List.take_zero, List.getElem?_cons_zero, List.getElem?_cons_succ] at g0 g1 g2 g3
  obtain ⟨i0, e0, _, _⟩ := DataW.trod_int Try.underlying3 g0
  obtain ⟨s1, e1, _, z1⟩ := DataW.trod_string Try.underlying9 g1
  obtain ⟨s2, e2, _, z2⟩ := DataW.trod_string Try.underlying9 g2
  obtain ⟨l, hl3⟩ := open_strs g3
  have q0 : k0 = .int .i64 i0 := by simpa [cellsIntP] using e0
  have q1 : k1 = .string s1 := by simpa [cellsStrP] using e1
  have q2 : k2 = .string s2 := by simpa [cellsStrP] using e2
  exact ⟨⟨i0, s1, s2, l⟩, k3, by rw [q0, q1, q2], hl3, z1, z2⟩

theorem open_pts {fuel : Nat} {v : Value} {x : DataW H × List MemPlace} (h : DataW.trod enc Try.prog w base spare held fuel 31 [v] = some x) :
    ∃ l : List Pt, Pts w v l := by
  rcases open_slice Try.underlying31 h with ⟨hv, _⟩ | ⟨a, len, cap, m, n, D, Pl, hv, _, hlc, hcm, hm, hxe, hx⟩
  · simp only [List.cons.injEq, and_true] at hv
    exact ⟨[], Or.inl ⟨⟨_, _, hv⟩, rfl⟩⟩
  · simp only [List.cons.injEq, and_true] at hv
    subst hv
    have hlm : len ≤ m := by rw [hm]; split <;> omega
    rw [cellsPathP] at hx
    have hex : ∀ i, i < len → ∃ (g : Pt) (sv : Value), w.cell? ((a.add (i * 4)).add 0) = some (.int .i64 g.idx) ∧ w.cell? ((a.add (i * 4)).add 1) = some (.string g.key) ∧ w.cell? ((a.add (i * 4)).add 2) = some (.string g.dat) ∧ w.cell? ((a.add (i * 4)).add 3) = some sv ∧ Strs w sv g.sides ∧ g.key.size ≤ maxLen ∧ g.dat.size ≤ maxLen := by
      intro i hi
      obtain ⟨cs', hc, ht⟩ := hx i (by omega)
      obtain ⟨_, _, hcc⟩ := World.cells?_some hc
      obtain ⟨g, sv, rfl, z1, z2⟩ := open_path ht
      exact ⟨g, sv, by simpa using hcc 0 (by decide), by simpa using hcc 1 (by decide), by simpa using hcc 2 (by decide), by simpa using hcc 3 (by decide), z1, z2⟩
    rcases Nat.eq_zero_or_pos len with h0 | h0
    · subst h0
      exact ⟨[], Or.inl ⟨⟨_, _, rfl⟩, rfl⟩⟩
    · obtain ⟨b, off, spot⟩ := a
      have hspot : spot = none := by
        obtain ⟨g, sv, h1, _⟩ := hex 0 h0
        simpa [Addr.add] using World.cell?_spot h1
      subst hspot
      have hex' : ∀ i, i < len → ∃ g : Pt, ∃ sv : Value, w.cell? ⟨b, off + i * 4, none⟩ = some (.int .i64 g.idx) ∧ w.cell? ⟨b, off + i * 4 + 1, none⟩ = some (.string g.key) ∧ w.cell? ⟨b, off + i * 4 + 2, none⟩ = some (.string g.dat) ∧ w.cell? ⟨b, off + i * 4 + 3, none⟩ = some sv ∧ Strs w sv g.sides ∧ g.key.size ≤ maxLen ∧ g.dat.size ≤ maxLen := by
        intro i hi
        obtain ⟨g, sv, q1, q2, q3, q4, z⟩ := hex i hi
        rw [Addr.add_lit, Addr.add_lit] at q1 q2 q3 q4
        exact ⟨g, sv, q1, q2, q3, q4, z⟩
      have hch : ∃ f : Nat → Pt, ∀ i, i < len → ∃ sv : Value, w.cell? ⟨b, off + i * 4, none⟩ = some (.int .i64 (f i).idx) ∧ w.cell? ⟨b, off + i * 4 + 1, none⟩ = some (.string (f i).key) ∧ w.cell? ⟨b, off + i * 4 + 2, none⟩ = some (.string (f i).dat) ∧ w.cell? ⟨b, off + i * 4 + 3, none⟩ = some sv ∧ Strs w sv (f i).sides ∧ (f i).key.size ≤ maxLen ∧ (f i).dat.size ≤ maxLen := by
        refine ⟨fun i => if hi : i < len then Classical.choose (hex' i hi) else ⟨0, ⟨#[]⟩, ⟨#[]⟩, []⟩, fun i hi => ?_⟩
        have hc := Classical.choose_spec (hex' i hi)
        simp only [hi, dite_true]
        exact hc
      obtain ⟨f, hf⟩ := hch
      refine ⟨(List.range len).map f, Or.inr ⟨b, off, cap, by simp, fun i hi => ?_⟩⟩
      simp only [List.length_map, List.length_range] at hi
      simp only [List.getElem_map, List.getElem_range]
      exact hf i hi

set_option maxRecDepth 100000 in
theorem open_proof {r : Reach} {b0 : Nat} {v : Value} {d : DataW H} {p : List MemPlace} (hv : Value.okWide Try.prog w r b0 33 v) (h : DataW.Trod enc Try.prog w base spare held 33 v d p) :
    ∃ (x : Pf) (lv : Value), v = x.val lv ∧ Pts w lv x.paths := by
  obtain ⟨cs, rfl, hsz⟩ := okWide_struct Try.underlying33 hv
  obtain ⟨fuel, hf⟩ := h
  obtain ⟨y0, y1, n, hx, hl, h0, h1⟩ := trod_struct2 Try.underlying33 hf
  rw [cellsProofP] at hsz
  obtain ⟨k0, k1, hcs⟩ : ∃ a b, cs.toList = [a, b] := by
    match hcs : cs.toList, (show cs.toList.length = 2 by simpa using hsz) with
    | [a, b], _ => exact ⟨a, b, rfl⟩
  have hcs' : cs = #[k0, k1] := by rw [← hcs]
  subst hcs'
  simp only [Value.cells, cellsIntP, cellsPtsP, List.drop_zero, List.drop_succ_cons, List.take_succ_cons, List.take_zero] at h0 h1
  obtain ⟨i0, e0, _, _⟩ := DataW.trod_int Try.underlying3 h0
  obtain ⟨l, hl1⟩ := open_pts h1
  have q0 : k0 = .int .i64 i0 := by simpa using e0
  exact ⟨⟨i0, l⟩, k1, by rw [q0]; rfl, hl1⟩
end

set_option maxRecDepth 100000 in
theorem wireProofs_lifted (os : Os) (started : os.Started) (H : Type) (enc : TypeId × Value → H) :
    ReturnsInHanded {} Try.checked os 4 .any (Rows.wireProofsSpec.pre6 enc Try.prog Try.f4 Rows.wireProofsRow.domain false) (Rows.wireProofsSpec.post enc Try.prog Try.f4 false true false false) := by
  refine returnsInHanded_of_change (C := Try.checked) wireProofs_own started (by kernel_rfl) Try.func4
    (ChangeSpec.witness6 (enc := enc) (C := Try.checked) false ⟨#[], #[.agg #[.int .i64 0, .slice none 0 0], .string .empty], []⟩ 8 (by kernel_rfl) (by kernel_rfl) (by kernel_rfl) (by kernel_rfl)) ?_
  intro W base args ds gs before hval0 hW hcnd _
  have hval : ∀ (j : Nat) t v, Try.f4.params[j]? = some t → args[j]? = some v → Value.okWide Try.prog W .any base t v := hval0
  have hW' := hW
  obtain ⟨p, q, hA0, hV, rfl, hfz, hnd⟩ := hW
  have hA : DataW.TrodAll enc Try.prog W 0 (fun _ => true) true Try.f4.params.toList args.toList ds p := hA0
  rw [Try.params4] at hA hval
  obtain ⟨v0, vs0, d0, ds0, p0, q0, hargs, rfl, rfl, h0, r0⟩ := trodAll_cons hA
  obtain ⟨v1, vs1, d1, ds1, p1, q1, rfl, rfl, rfl, h1, r1⟩ := trodAll_cons r0
  obtain ⟨rfl, rfl, rfl⟩ := trodAll_nil r1
  obtain rfl : args = #[v0, v1] := by cases args; simp_all
  obtain ⟨rfl, rfl⟩ := trodVars_none hV
  clear hA0
  have hlt : ∀ x ∈ p0, x.block < W.heap.size := fun x hx => by simpa using hW'.lt x (by simp [hx])
  obtain ⟨x, lv, rfl, hl⟩ := open_proof (hval 0 33 v0 rfl rfl) h0
  obtain ⟨s, rfl, rfl, rfl, hmax⟩ := open_string Try.underlying9 (hval 1 9 v1 rfl rfl) h1
  simp only [List.append_nil] at hW'
  refine (proofsLaw_calls x lv s W hl hmax).mono fun e W' ⟨he, hg⟩ => ?_
  subst he
  have harg := trodAll_cons_mk (Below.trod wireProofs_laid (by kernel_rfl) (of_decide_eq_true (by kernel_rfl)) h0 hg hlt) (trodAll_cons_mk (shut_string Try.underlying9 hmax) (trodAll_mk0 (enc := enc) (P := Try.prog) (w := W') (base := 0) (spare := fun b => decide (b < W.heap.size)) (held := true)))
  simp only [List.append_nil] at harg
  exact ⟨_, rfl, _, _, _, [], p0, [], hW', trodAll_cons_mk (shut_bool Try.underlying4 _) trodAll_mk0,
    harg, rfl,
    hg.frame _, fun h => by cases h⟩

theorem wireProofs_holds : Rows.WireProofsSaid :=
  OpenClaim.holds_of_wide 4 Try.f4 rfl rfl rfl rfl rfl rfl rfl ⟨rfl, rfl, rfl, rfl, rfl⟩ rfl rfl rfl rfl rfl (by kernel_rfl) Try.func4 (by kernel_rfl)
    (of_decide_eq_true (by kernel_rfl)) (by unfold Func.isWrapper; first | (rw [if_pos (by decide +kernel)]; kernel_rfl) | (rw [if_neg (by decide +kernel)]; exact ⟨rfl, rfl⟩))
    (fun os started H enc _ => wireProofs_lifted os started H enc)
#print axioms wireProofs_holds
end Go.Proofs.Ytdaonkgcdheplaa
