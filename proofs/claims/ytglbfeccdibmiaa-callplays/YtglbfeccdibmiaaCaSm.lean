/- Fills and orders are the same as themselves, wherever they lie. -/
import Derived.Test.YtglbfeccdibmiaaCaG
import Derived.Test.YtglbfeccdibmiaaCaEq
import Derived.Laws.StructEq
namespace Go.Proofs.Ytglbfeccdibmiaa
open Go.Shelf Go.RowKit Go.Lib Go.Sort
set_option linter.unusedSimpArgs false
set_option linter.unusedVariables false

theorem keepS {w w' : World} (hb : Below w.heap.size w w') {a : Addr} {u : Value} (h : w.cell? a = some u) : w'.cell? a = some u := (hb.cell (World.block_lt_of_cell? w _ h)).trans h
theorem neqO (w : World) (a : Od) : (binOp .neq 31 (.agg #[.int .i64 a.id, .int .i64 a.own, .int .i64 a.pr, .int .i64 a.am, .int .i64 a.pl, .bool a.by]) (.agg #[.int .i64 a.id, .int .i64 a.own, .int .i64 a.pr, .int .i64 a.am, .int .i64 a.pl, .bool a.by])).run Try.prog w = .ok (.bool false) w := by
  simp only [binOp]
  simp [eqOI w a a, oEq_self]
theorem cellsIF : Try.prog.cellsOf 3 = 1 := by kernel_rfl
theorem neqF (w : World) (a b c : Int) : (binOp .neq 62 (.agg #[.int .i64 a, .int .i64 b, .int .i64 c]) (.agg #[.int .i64 a, .int .i64 b, .int .i64 c])).run Try.prog w = .ok (.bool false) w := by
  rw [run_neq_struct, run_equalIn_agg]
  · simp [Op.eqFields, go_sem, Program.fieldsOf, Try.underlying62, part, cellsIF]
  · kernel_rfl
  · kernel_rfl
set_option maxHeartbeats 4000000 in
set_option maxRecDepth 100000 in
theorem sameFills_same (va vb : Value) (fs : List Fi) (b1 b2 : Nat) (w : World) (oa : w.ownsRow b1 62 3 va fs.length (fiL fs)) (ob : w.ownsRow b2 62 3 vb fs.length (fiL fs)) (hn : fs.length ≤ 100000) :
    Calls Try.prog 15 #[va, vb] w fun e w' => e = .returned (.bool true) ∧ Below w.heap.size w w' := by
  obtain ⟨pa, ca, rfl⟩ := own_form oa
  obtain ⟨pb, cb, rfl⟩ := own_form ob
  have cell : ∀ {bs : Nat} {q : Option Addr} {c : Nat}, w.ownsRow bs 62 3 (.slice q fs.length c) fs.length (fiL fs) → ∀ (k : Nat) (x : Fi), fs[k]? = some x → ∃ r, q = some ⟨r, 0, none⟩ ∧ ∀ (j : Nat) (u : Value), (fC x)[j]? = some u → w.cell? ⟨r, k * 3 + j, none⟩ = some u := by
    intro bs q c ho k x hx
    rcases ho.2 with ⟨h1, h2⟩ | ⟨g, cap, cur, h1, _⟩
    · exfalso
      have := (List.getElem?_eq_some_iff.1 hx).1
      omega
    · injection h1 with h1 _ _
      refine ⟨g, h1, fun j u hu => ?_⟩
      have q := World.ownsRow.cells ho (g := g) (by rw [h1]; rfl) (k * 3 + j) u (fiL_get _ k j x u hx hu)
      rw [Addr.add_lit, Nat.zero_add] at q
      exact q
  have HA : Hid _ := cell oa
  have HB : Hid _ := cell ob
  have HNE : Hid _ := neqF
  clear cell oa ob
  go_enter Try.func15, Try.ntmps15
  go_wp2
  go_loopw [5] (fun iv wr => ∃ k : Nat, k ≤ fs.length ∧ iv = .int .i64 k ∧ Hid (Below w.heap.size w wr)) (fun iv _ => fs.length - (intOf iv).toNat)
  case atStart => exact ⟨0, Nat.zero_le _, rfl, Below.refl _ _⟩
  case round =>
    obtain ⟨k, hk, rfl, HBW⟩ := hrel
    by_cases hlt : k < fs.length
    · have hkl : (k : Int) < (fs.length : Int) := by omega
      obtain ⟨f, hf⟩ : ∃ f, fs[k]? = some f := ⟨fs[k], by simp [hlt]⟩
      obtain ⟨ra, rfl, ha⟩ := HA.out k f hf
      obtain ⟨rb, rfl, hb⟩ := HB.out k f hf
      have a0 : wr.cell? ⟨ra, k * 3, none⟩ = some (.int .i64 f.1) := keepS HBW.out (ha 0 _ rfl)
      have a1 : wr.cell? ⟨ra, k * 3 + 1, none⟩ = some (.int .i64 f.2.1) := keepS HBW.out (ha 1 _ rfl)
      have a2 : wr.cell? ⟨ra, k * 3 + 2, none⟩ = some (.int .i64 f.2.2) := keepS HBW.out (ha 2 _ rfl)
      have b0 : wr.cell? ⟨rb, k * 3, none⟩ = some (.int .i64 f.1) := keepS HBW.out (hb 0 _ rfl)
      have b1 : wr.cell? ⟨rb, k * 3 + 1, none⟩ = some (.int .i64 f.2.1) := keepS HBW.out (hb 1 _ rfl)
      have b2 : wr.cell? ⟨rb, k * 3 + 2, none⟩ = some (.int .i64 f.2.2) := keepS HBW.out (hb 2 _ rfl)
      have hne := fun wx => HNE.out wx f.1 f.2.1 f.2.2
      clear ha hb hf
      go_wp2
      go_region
      go_wp2
      exact ⟨⟨k + 1, by omega, by norm_cast, Below.drew HBW.out⟩, by simp [intOf]; omega⟩
    · have hkl : ¬ (k : Int) < (fs.length : Int) := by omega
      go_wp2
      go_ret
      exact ⟨rfl, HBW.out⟩
set_option maxHeartbeats 4000000 in
set_option maxRecDepth 100000 in
theorem same_same (va vb : Value) (l : List Od) (w : World) (ha : Ods w va l) (hb : Ods w vb l) (hn : l.length ≤ 9223372036854775806) :
    Calls Try.prog 20 #[va, vb] w fun e w' => e = .returned (.bool true) ∧ Below w.heap.size w w' := by
  obtain ⟨pa, ca, rfl, ha⟩ := ha
  obtain ⟨pb, cb, rfl, hb⟩ := hb
  have HA : Hid _ := ha
  have HB : Hid _ := hb
  have HNE : Hid _ := neqO
  clear ha hb
  go_enter Try.func20, Try.ntmps20
  go_wp2
  go_loopw [5] (fun iv wr => ∃ k : Nat, k ≤ l.length ∧ iv = .int .i64 k ∧ Hid (Below w.heap.size w wr)) (fun iv _ => l.length - (intOf iv).toNat)
  case atStart => exact ⟨0, Nat.zero_le _, rfl, Below.refl _ _⟩
  case round =>
    obtain ⟨k, hk, rfl, HBW⟩ := hrel
    by_cases hlt : k < l.length
    · have hkl : (k : Int) < (l.length : Int) := by omega
      obtain ⟨o, ho⟩ : ∃ o, l[k]? = some o := ⟨l[k], by simp [hlt]⟩
      rcases HA.out with hnil | ⟨ga, offa, rfl, hca⟩
      · exfalso; rw [hnil] at hlt; simp at hlt
      rcases HB.out with hnil | ⟨gb, offb, rfl, hcb⟩
      · exfalso; rw [hnil] at hlt; simp at hlt
      obtain ⟨a0, a1, a2, a3, a4, a5⟩ := Ods.six hca ho
      obtain ⟨b0, b1, b2, b3, b4, b5⟩ := Ods.six hcb ho
      have c0 := keepS HBW.out a0
      have c1 := keepS HBW.out a1
      have c2 := keepS HBW.out a2
      have c3 := keepS HBW.out a3
      have c4 := keepS HBW.out a4
      have c5 := keepS HBW.out a5
      have d0 := keepS HBW.out b0
      have d1 := keepS HBW.out b1
      have d2 := keepS HBW.out b2
      have d3 := keepS HBW.out b3
      have d4 := keepS HBW.out b4
      have d5 := keepS HBW.out b5
      have hne := fun wx => HNE.out wx o
      clear a0 a1 a2 a3 a4 a5 b0 b1 b2 b3 b4 b5 hca hcb ho
      go_wp2
      go_region
      go_wp2
      exact ⟨⟨k + 1, by omega, by norm_cast, Below.drew HBW.out⟩, by simp [intOf]; omega⟩
    · have hkl : ¬ (k : Int) < (l.length : Int) := by omega
      go_wp2
      go_ret
      exact ⟨rfl, HBW.out⟩
end Go.Proofs.Ytglbfeccdibmiaa
