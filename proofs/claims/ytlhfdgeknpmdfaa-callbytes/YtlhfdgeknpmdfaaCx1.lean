/- Orders held against each other. -/
import Derived.Test.YtlhfdgeknpmdfaaCaI
import Derived.ChangeKeysEq
import Derived.Test.YtlhfdgeknpmdfaaCaG
import Derived.Laws.StructEq
import Derived.Test.YtlhfdgeknpmdfaaCaRi
import Derived.Test.YtlhfdgeknpmdfaaCaQ
import Derived.Deep.RegionHeldLaw
import Derived.Deep.RegionHeld3
import Derived.Deep.RegionLaw
import Derived.Deep.DeepCutAuto
import Derived.Deep.CutBlock
import Derived.Test.YtlhfdgeknpmdfaaCaR
namespace Go.Proofs.Ytlhfdgeknpmdfaa
open Go.RowKit
set_option linter.unusedSimpArgs false
set_option linter.unusedVariables false

theorem fieldsO : (Try.prog.fieldsOf 28).toList.map (fun f => (f.name, f.type, f.offset)) = [("Id", 3, 0), ("Owner", 3, 1), ("Price", 3, 2), ("Amount", 3, 3), ("Place", 3, 4), ("Buys", 4, 5)] := by kernel_rfl
/-- The same, field by field. -/
def oEq (a b : Od) : Bool := a.id == b.id && (a.own == b.own && (a.pr == b.pr && (a.am == b.am && (a.pl == b.pl && a.by == b.by))))
theorem oEq_iff (a b : Od) : oEq a b = true ↔ a = b := by
  obtain ⟨a1, a2, a3, a4, a5, a6⟩ := a
  obtain ⟨b1, b2, b3, b4, b5, b6⟩ := b
  unfold oEq
  simp [Od.id, Od.own, Od.pr, Od.am, Od.pl, Od.by]
theorem oEq_self (a : Od) : oEq a a = true := (oEq_iff a a).2 rfl
theorem list6e {α : Type} {l : List α} (h : l.length = 6) : ∃ a b c d e f, l = [a, b, c, d, e, f] := by
  match l, h with
  | [a, b, c, d, e, f], _ => exact ⟨a, b, c, d, e, f, rfl⟩
theorem eqOI (w : World) (a b : Od) : (Op.equal 28 (.agg #[.int .i64 a.id, .int .i64 a.own, .int .i64 a.pr, .int .i64 a.am, .int .i64 a.pl, .bool a.by]) (.agg #[.int .i64 b.id, .int .i64 b.own, .int .i64 b.pr, .int .i64 b.am, .int .i64 b.pl, .bool b.by])).run Try.prog w = .ok (oEq a b) w := by
  have h1 : (Op.equal 28 (.agg #[.int .i64 a.id, .int .i64 a.own, .int .i64 a.pr, .int .i64 a.am, .int .i64 a.pl, .bool a.by]) (.agg #[.int .i64 b.id, .int .i64 b.own, .int .i64 b.pr, .int .i64 b.am, .int .i64 b.pl, .bool b.by])).run Try.prog w = (Op.eqFields 9999 #[.int .i64 a.id, .int .i64 a.own, .int .i64 a.pr, .int .i64 a.am, .int .i64 a.pl, .bool a.by] #[.int .i64 b.id, .int .i64 b.own, .int .i64 b.pr, .int .i64 b.am, .int .i64 b.pl, .bool b.by] (Try.prog.fieldsOf 28).toList).run Try.prog w :=
    run_equalIn_agg w 9999 28 _ _ (by kernel_rfl) (by kernel_rfl)
  rw [h1]
  have hf := fieldsO
  generalize (Try.prog.fieldsOf 28).toList = l at hf
  obtain ⟨f0, f1, f2, f3, f4, f5, rfl⟩ := list6e (l := l) (by have := congrArg List.length hf; simpa using this)
  simp only [List.map_cons, List.map_nil, List.cons.injEq, Prod.mk.injEq, and_true] at hf
  obtain ⟨⟨a1, a2, a3⟩, ⟨b1, b2, b3⟩, ⟨c1, c2, c3⟩, ⟨d1, d2, d3⟩, ⟨e1, e2, e3⟩, g1, g2, g3⟩ := hf
  have q : ∀ x y : Int, (Op.equalIn 9999 3 (.int .i64 x) (.int .i64 y)).run Try.prog w = .ok (x == y) w := fun x y => run_equalIn_int (P := Try.prog) w 9998 3 .i64 .i64 x y Try.underlying3
  have r : ∀ x y : Bool, (Op.equalIn 9999 4 (.bool x) (.bool y)).run Try.prog w = .ok (x == y) w := fun x y => by cases x <;> cases y <;> kernel_rfl
  have p0 : ∀ o : Od, (part 3 #[.int .i64 o.id, .int .i64 o.own, .int .i64 o.pr, .int .i64 o.am, .int .i64 o.pl, .bool o.by] 0).run Try.prog w = .ok (.int .i64 o.id) w := fun p => run_part_plain w (by kernel_rfl) rfl
  have p1 : ∀ o : Od, (part 3 #[.int .i64 o.id, .int .i64 o.own, .int .i64 o.pr, .int .i64 o.am, .int .i64 o.pl, .bool o.by] 1).run Try.prog w = .ok (.int .i64 o.own) w := fun p => run_part_plain w (by kernel_rfl) rfl
  have p2 : ∀ o : Od, (part 3 #[.int .i64 o.id, .int .i64 o.own, .int .i64 o.pr, .int .i64 o.am, .int .i64 o.pl, .bool o.by] 2).run Try.prog w = .ok (.int .i64 o.pr) w := fun p => run_part_plain w (by kernel_rfl) rfl
  have p3 : ∀ o : Od, (part 3 #[.int .i64 o.id, .int .i64 o.own, .int .i64 o.pr, .int .i64 o.am, .int .i64 o.pl, .bool o.by] 3).run Try.prog w = .ok (.int .i64 o.am) w := fun p => run_part_plain w (by kernel_rfl) rfl
  have p4 : ∀ o : Od, (part 3 #[.int .i64 o.id, .int .i64 o.own, .int .i64 o.pr, .int .i64 o.am, .int .i64 o.pl, .bool o.by] 4).run Try.prog w = .ok (.int .i64 o.pl) w := fun p => run_part_plain w (by kernel_rfl) rfl
  have p5 : ∀ o : Od, (part 4 #[.int .i64 o.id, .int .i64 o.own, .int .i64 o.pr, .int .i64 o.am, .int .i64 o.pl, .bool o.by] 5).run Try.prog w = .ok (.bool o.by) w := fun p => run_part_plain w (by kernel_rfl) rfl
  simp only [Op.eqFields, a1, a2, a3, b1, b2, b3, c1, c2, c3, d1, d2, d3, e1, e2, e3, g1, g2, g3, Sem.run_bind, Sem.run_ite, p0, p1, p2, p3, p4, p5, Result.andThen_ok, q, r, Sem.run_pure]
  unfold oEq
  cases a.id == b.id <;> cases a.own == b.own <;> cases a.pr == b.pr <;> cases a.am == b.am <;> cases a.pl == b.pl <;> cases a.by == b.by <;> simp
theorem eqO (w : World) (a b : Od) : (binOp .eql 28 (.agg #[.int .i64 a.id, .int .i64 a.own, .int .i64 a.pr, .int .i64 a.am, .int .i64 a.pl, .bool a.by]) (.agg #[.int .i64 b.id, .int .i64 b.own, .int .i64 b.pr, .int .i64 b.am, .int .i64 b.pl, .bool b.by])).run Try.prog w = .ok (.bool (oEq a b)) w := by
  simp only [binOp]
  simp [eqOI w a b]
/-- An order of a book is found by its Id. -/
theorem gtB_mem {B : Bo} (h : BInv B) {o : Od} (ho : o ∈ B.os) : gtB B.os o.id = (o, true) := by
  rcases fnd_cases B.os o.id with ⟨f1, f2⟩ | ⟨i, q, f1, f2, f3, f4⟩
  · exact absurd rfl (f2 o ho)
  · rw [gtB_some f1 f2 f3]
    have key : q = o := by
      have hq := List.mem_of_getElem? f2
      have : ∀ l : List Od, l.Pairwise (fun a b => a.id ≠ b.id) → q ∈ l → o ∈ l → q = o := by
        intro l
        induction l with
        | nil => intro _ h; cases h
        | cons x l ih =>
          intro hp h1 h2
          rw [List.pairwise_cons] at hp
          rcases List.mem_cons.1 h1 with e1 | e1 <;> rcases List.mem_cons.1 h2 with e2 | e2
          · rw [e1, e2]
          · exact absurd (by rw [← e1]; exact f3) (hp.1 o e2)
          · exact absurd (by rw [← e2]; exact f3.symm) (hp.1 q e1)
          · exact ih hp.2 e1 e2
      exact this B.os h.ids hq ho
    rw [key]
end Go.Proofs.Ytlhfdgeknpmdfaa

namespace Go.Proofs.Ytlhfdgeknpmdfaa
open Go.Shelf Go.RowKit Go.Lib Go.Sort
set_option linter.unusedSimpArgs false
set_option linter.unusedVariables false

theorem keepS {w w' : World} (hb : Below w.heap.size w w') {a : Addr} {u : Value} (h : w.cell? a = some u) : w'.cell? a = some u := (hb.cell (World.block_lt_of_cell? w _ h)).trans h
theorem neqO (w : World) (a : Od) : (binOp .neq 28 (.agg #[.int .i64 a.id, .int .i64 a.own, .int .i64 a.pr, .int .i64 a.am, .int .i64 a.pl, .bool a.by]) (.agg #[.int .i64 a.id, .int .i64 a.own, .int .i64 a.pr, .int .i64 a.am, .int .i64 a.pl, .bool a.by])).run Try.prog w = .ok (.bool false) w := by
  simp only [binOp]
  simp [eqOI w a a, oEq_self]
theorem cellsIF : Try.prog.cellsOf 3 = 1 := by kernel_rfl
theorem neqF (w : World) (a b c : Int) : (binOp .neq 84 (.agg #[.int .i64 a, .int .i64 b, .int .i64 c]) (.agg #[.int .i64 a, .int .i64 b, .int .i64 c])).run Try.prog w = .ok (.bool false) w := by
  rw [run_neq_struct, run_equalIn_agg]
  · simp [Op.eqFields, go_sem, Program.fieldsOf, Try.underlying84, part, cellsIF]
  · kernel_rfl
  · kernel_rfl
set_option maxHeartbeats 4000000 in
set_option maxRecDepth 100000 in
theorem sameFills_same (va vb : Value) (fs : List Fi) (b1 b2 : Nat) (w : World) (oa : w.ownsRow b1 84 3 va fs.length (fiL fs)) (ob : w.ownsRow b2 84 3 vb fs.length (fiL fs)) (hn : fs.length ≤ 100000) :
    Calls Try.prog 34 #[va, vb] w fun e w' => e = .returned (.bool true) ∧ Below w.heap.size w w' := by
  obtain ⟨pa, ca, rfl⟩ := own_form oa
  obtain ⟨pb, cb, rfl⟩ := own_form ob
  have cell : ∀ {bs : Nat} {q : Option Addr} {c : Nat}, w.ownsRow bs 84 3 (.slice q fs.length c) fs.length (fiL fs) → ∀ (k : Nat) (x : Fi), fs[k]? = some x → ∃ r, q = some ⟨r, 0, none⟩ ∧ ∀ (j : Nat) (u : Value), (fC x)[j]? = some u → w.cell? ⟨r, k * 3 + j, none⟩ = some u := by
    intro bs q c ho k x hx
    rcases ho.2 with ⟨h1, h2⟩ | ⟨g, cap, cur, h1, _⟩
    · exfalso
      have := (List.getElem?_eq_some_iff.1 hx).1
      omega
    · injection h1 with h1 _ _
      refine ⟨g, h1, fun j u hu => ?_⟩
      have q := World.ownsRow.cells ho (g := g) (by rw [h1]; rfl) (k * 3 + j) u (fiL_get _ k j x u hx hu)
      rw [Addr.add_lit, Nat.zero_add] at q
      exact q
  have HA : Hid _ := cell oa
  have HB : Hid _ := cell ob
  have HNE : Hid _ := neqF
  clear cell oa ob
  go_enter Try.func34, Try.ntmps34
  go_wp2
  go_loopw [5] (fun iv wr => ∃ k : Nat, k ≤ fs.length ∧ iv = .int .i64 k ∧ Hid (Below w.heap.size w wr)) (fun iv _ => fs.length - (intOf iv).toNat)
  case atStart => exact ⟨0, Nat.zero_le _, rfl, Below.refl _ _⟩
  case round =>
    obtain ⟨k, hk, rfl, HBW⟩ := hrel
    by_cases hlt : k < fs.length
    · have hkl : (k : Int) < (fs.length : Int) := by omega
      obtain ⟨f, hf⟩ : ∃ f, fs[k]? = some f := ⟨fs[k], by simp [hlt]⟩
      obtain ⟨ra, rfl, ha⟩ := HA.out k f hf
      obtain ⟨rb, rfl, hb⟩ := HB.out k f hf
      have a0 : wr.cell? ⟨ra, k * 3, none⟩ = some (.int .i64 f.1) := keepS HBW.out (ha 0 _ rfl)
      have a1 : wr.cell? ⟨ra, k * 3 + 1, none⟩ = some (.int .i64 f.2.1) := keepS HBW.out (ha 1 _ rfl)
      have a2 : wr.cell? ⟨ra, k * 3 + 2, none⟩ = some (.int .i64 f.2.2) := keepS HBW.out (ha 2 _ rfl)
      have b0 : wr.cell? ⟨rb, k * 3, none⟩ = some (.int .i64 f.1) := keepS HBW.out (hb 0 _ rfl)
      have b1 : wr.cell? ⟨rb, k * 3 + 1, none⟩ = some (.int .i64 f.2.1) := keepS HBW.out (hb 1 _ rfl)
      have b2 : wr.cell? ⟨rb, k * 3 + 2, none⟩ = some (.int .i64 f.2.2) := keepS HBW.out (hb 2 _ rfl)
      have hne := fun wx => HNE.out wx f.1 f.2.1 f.2.2
      clear ha hb hf
      go_wp2
      go_region
      go_wp2
      exact ⟨⟨k + 1, by omega, by norm_cast, Below.drew HBW.out⟩, by simp [intOf]; omega⟩
    · have hkl : ¬ (k : Int) < (fs.length : Int) := by omega
      go_wp2
      go_ret
      exact ⟨rfl, HBW.out⟩
set_option maxHeartbeats 4000000 in
set_option maxRecDepth 100000 in
theorem same_same (va vb : Value) (l : List Od) (w : World) (ha : Ods w va l) (hb : Ods w vb l) (hn : l.length ≤ 9223372036854775806) :
    Calls Try.prog 12 #[va, vb] w fun e w' => e = .returned (.bool true) ∧ Below w.heap.size w w' := by
  obtain ⟨pa, ca, rfl, ha⟩ := ha
  obtain ⟨pb, cb, rfl, hb⟩ := hb
  have HA : Hid _ := ha
  have HB : Hid _ := hb
  have HNE : Hid _ := neqO
  clear ha hb
  go_enter Try.func12, Try.ntmps12
  go_wp2
  go_loopw [5] (fun iv wr => ∃ k : Nat, k ≤ l.length ∧ iv = .int .i64 k ∧ Hid (Below w.heap.size w wr)) (fun iv _ => l.length - (intOf iv).toNat)
  case atStart => exact ⟨0, Nat.zero_le _, rfl, Below.refl _ _⟩
  case round =>
    obtain ⟨k, hk, rfl, HBW⟩ := hrel
    by_cases hlt : k < l.length
    · have hkl : (k : Int) < (l.length : Int) := by omega
      obtain ⟨o, ho⟩ : ∃ o, l[k]? = some o := ⟨l[k], by simp [hlt]⟩
      rcases HA.out with hnil | ⟨ga, offa, rfl, hca⟩
      · exfalso; rw [hnil] at hlt; simp at hlt
      rcases HB.out with hnil | ⟨gb, offb, rfl, hcb⟩
      · exfalso; rw [hnil] at hlt; simp at hlt
      obtain ⟨a0, a1, a2, a3, a4, a5⟩ := Ods.six hca ho
      obtain ⟨b0, b1, b2, b3, b4, b5⟩ := Ods.six hcb ho
      have c0 := keepS HBW.out a0
      have c1 := keepS HBW.out a1
      have c2 := keepS HBW.out a2
      have c3 := keepS HBW.out a3
      have c4 := keepS HBW.out a4
      have c5 := keepS HBW.out a5
      have d0 := keepS HBW.out b0
      have d1 := keepS HBW.out b1
      have d2 := keepS HBW.out b2
      have d3 := keepS HBW.out b3
      have d4 := keepS HBW.out b4
      have d5 := keepS HBW.out b5
      have hne := fun wx => HNE.out wx o
      clear a0 a1 a2 a3 a4 a5 b0 b1 b2 b3 b4 b5 hca hcb ho
      go_wp2
      go_region
      go_wp2
      exact ⟨⟨k + 1, by omega, by norm_cast, Below.drew HBW.out⟩, by simp [intOf]; omega⟩
    · have hkl : ¬ (k : Int) < (l.length : Int) := by omega
      go_wp2
      go_ret
      exact ⟨rfl, HBW.out⟩
end Go.Proofs.Ytlhfdgeknpmdfaa

namespace Go.Proofs.Ytlhfdgeknpmdfaa
open Go.Shelf Go.RowKit Go.Lib Go.Sort
set_option linter.unusedSimpArgs false
set_option linter.unusedVariables false

/-- What is kept behind k orders. -/
def cS (l : List Od) (k : Nat) : Int × Int := ((l.take k).filter mayB).foldl (crS (l.filter mayB)) (0, 0)
theorem cS_succ {l : List Od} {k : Nat} {o : Od} (h : l[k]? = some o) : cS l (k + 1) = if mayB o = true then crS (l.filter mayB) (cS l k) o else cS l k := by
  unfold cS
  rw [List.take_add_one, h]
  simp only [Option.toList_some, List.filter_append, List.foldl_append]
  cases hm : mayB o
  · rw [List.filter_cons_of_neg (by rw [hm]; simp)]; simp
  · rw [List.filter_cons_of_pos hm]; simp
theorem cS_ok (l : List Od) (hn : l.length ≤ 64) : ∀ k, k ≤ l.length → 0 ≤ (cS l k).2 ∧ ((cS l k).2 = 0 → (cS l k).1 = 0)
  | 0, _ => ⟨by simp [cS], fun _ => by simp [cS]⟩
  | k + 1, hk => by
    have ih := cS_ok l hn k (by omega)
    have ho : l[k]? = some l[k] := List.getElem?_eq_getElem (by omega)
    rw [cS_succ ho]
    split
    · rename_i hm
      have ht := trd_nn (J := l.filter mayB) (fun o ho => (List.mem_filter.1 ho).2) (l[k]).pr
      have hp := may_pr hm
      unfold crS
      split
      · rename_i hc
        refine ⟨ht, fun h0 => ?_⟩
        have h0' : trd (l.filter mayB) (l[k]).pr = 0 := h0
        rcases hc with hc | hc
        · omega
        · have := ih.2 (by omega)
          show (l[k]).pr = 0
          omega
      · exact ih
    · exact ih
theorem crs_cS (l : List Od) (hn : l.length ≤ 64) : crs l = cS l l.length := by
  unfold crs cS jdg
  rw [if_neg (by omega), List.take_length]
theorem crs_long (l : List Od) (hn : 64 < l.length) : crs l = (0, 0) := by
  unfold crs jdg
  rw [if_pos hn]
  rfl
set_option maxHeartbeats 8000000 in
set_option maxRecDepth 100000 in
theorem refCross_calls (v : Value) (l : List Od) (w : World) (hl : Ods w v l) : Calls Try.prog 53 #[v] w fun e w' => e = .returned (.tuple #[.int .i64 (crs l).1, .int .i64 (crs l).2]) ∧ Below w.heap.size w w' := by
  have HL : Hid _ := hl
  obtain ⟨pp, cap, rfl, hc⟩ := hl
  have HC : Hid _ := hc
  clear hc
  by_cases hn : 64 < l.length
  · have d0 : decide ((64 : Int) < (l.length : Int)) = true := decide_eq_true (by omega)
    rw [crs_long l hn]
    clear hn
    go_enter Try.func53, Try.ntmps53
    go_wp2
    go_ret2
    exact ⟨rfl, Below.refl _ _⟩
  have d0 : decide ((64 : Int) < (l.length : Int)) = false := decide_eq_false (by omega)
  have hn6 : l.length ≤ 64 := by omega
  have HOK : Hid _ := cS_ok l hn6
  have HCE : Hid _ := crs_cS l hn6
  clear hn
  go_enter Try.func53, Try.ntmps53
  go_wp2
  go_loopw [4, 5, 6] (fun pv mv iv wr => ∃ (k : Nat) (p m : Int), k ≤ l.length ∧ iv = .int .i64 k ∧ pv = .int .i64 p ∧ mv = .int .i64 m ∧ Hid (cS l k = (p, m)) ∧ Hid (Below w.heap.size w wr)) (fun _ _ iv _ => l.length - (intOf iv).toNat)
  case atStart => exact ⟨0, 0, 0, Nat.zero_le _, rfl, rfl, rfl, (by show cS l 0 = _; simp [cS]), Below.refl _ _⟩
  case round =>
    obtain ⟨k, p, m, hk, rfl, rfl, rfl, HS, HB⟩ := hrel
    by_cases hlt : k < l.length
    · have hkl : (k : Int) < (l.length : Int) := by omega
      obtain ⟨o, ho⟩ : ∃ o, l[k]? = some o := ⟨l[k], by simp [hlt]⟩
      rcases HC.out with hnil | ⟨gb, off, hp, hcs⟩
      · exfalso; rw [hnil] at hlt; simp at hlt
      subst hp
      obtain ⟨c0, c1, c2, c3, c4, c5⟩ := Ods.six hcs ho
      have hbl : gb < w.heap.size := World.block_lt_of_cell? w _ c0
      have hb := HB.out
      have hz := hb.size
      have d0_ := (hb.cell (p := ⟨gb, off + k * 6, none⟩) hbl).trans c0
      have d1_ := (hb.cell (p := ⟨gb, off + k * 6 + 1, none⟩) hbl).trans c1
      have d2_ := (hb.cell (p := ⟨gb, off + k * 6 + 2, none⟩) hbl).trans c2
      have d3_ := (hb.cell (p := ⟨gb, off + k * 6 + 3, none⟩) hbl).trans c3
      have d4_ := (hb.cell (p := ⟨gb, off + k * 6 + 4, none⟩) hbl).trans c4
      have d5_ := (hb.cell (p := ⟨gb, off + k * 6 + 5, none⟩) hbl).trans c5
      have hsu := cS_succ ho
      have hok := HOK.out k hk
      rw [HS.out] at hsu hok
      have HR : Hid (Calls Try.prog 29 #[.agg #[.int .i64 o.id, .int .i64 o.own, .int .i64 o.pr, .int .i64 o.am, .int .i64 o.pl, .bool o.by]] wr fun e w' => e = .returned (.bool (mayB o)) ∧ Gr wr w') := right_calls o wr
      clear c0 c1 c2 c3 c4 c5 hcs hb
      cases hmb : mayB o
      · rw [hmb] at HR
        rw [if_neg (by rw [hmb]; simp)] at hsu
        have HSU : Hid _ := hsu
        clear hmb hsu
        go_wp2_with fail
        refine Calls.mono HR.out ?_
        rintro e w2 ⟨rfl, g2⟩
        go_wp2
        exact ⟨⟨k + 1, p, m, by omega, by norm_cast, rfl, rfl, HSU, Below.trans HB.out (g2.below.mono hz)⟩, by simp [intOf]; omega⟩
      · rw [hmb] at HR
        have hpr := may_pr hmb
        have htn := trd_nn (J := l.filter mayB) (fun o ho => (List.mem_filter.1 ho).2) o.pr
        rw [if_pos hmb] at hsu
        unfold crS at hsu
        have HTR : Hid (∀ wx, Below w.heap.size w wx → Calls Try.prog 73 #[.slice (some ⟨gb, off, none⟩) l.length cap, .int .i64 o.pr] wx fun e w' => e = .returned (.int .i64 (trd (l.filter mayB) o.pr)) ∧ Below wx.heap.size wx w') := fun wx hb => refTraded_calls _ l o.pr wx (Ods.below HL.out hb) hn6
        generalize trd (l.filter mayB) o.pr = t at *
        have HSU : Hid _ := hsu
        clear hmb hsu
        go_wp2_with fail
        refine Calls.mono HR.out ?_
        rintro e w2 ⟨rfl, g2⟩
        have HB2 : Hid (Below w.heap.size w w2) := Below.trans HB.out (g2.below.mono hz)
        have e2 : w2.cell? ⟨gb, off + k * 6 + 2, none⟩ = some (.int .i64 o.pr) := (g2.below.cell (p := ⟨gb, off + k * 6 + 2, none⟩) (by show gb < wr.heap.size; omega)).trans d2_
        go_wp2_with fail
        refine Calls.mono (HTR.out _ HB2.out) ?_
        rintro e w3 ⟨rfl, b3⟩
        have HB3 : Hid (Below w.heap.size w w3) := Below.trans HB2.out (b3.mono (Below.size HB2.out))
        have e3 : w3.cell? ⟨gb, off + k * 6 + 2, none⟩ = some (.int .i64 o.pr) := (b3.cell (p := ⟨gb, off + k * 6 + 2, none⟩) (World.block_lt_of_cell? _ _ e2)).trans e2
        clear d0_ d1_ d2_ d3_ d4_ d5_ e2 HR HTR g2 b3
        by_cases q1 : m < t
        · have a1 : decide (m < t) = true := decide_eq_true q1
          have HN : Hid (cS l (k + 1) = (o.pr, t)) := by have := HSU.out; rw [if_pos (Or.inl q1)] at this; exact this
          go_wp2
          exact ⟨⟨k + 1, o.pr, t, by omega, by norm_cast, rfl, rfl, HN, HB3⟩, by simp [intOf]; omega⟩
        · have a1 : decide (m < t) = false := decide_eq_false q1
          by_cases q2 : t = m
          · have a2 : (t == m) = true := by simpa using q2
            have a2' : decide (t = m) = true := a2
            by_cases q3 : 0 < t
            · have a3 : decide (0 < t) = true := decide_eq_true q3
              by_cases q4 : o.pr < p
              · have a4 : decide (o.pr < p) = true := decide_eq_true q4
                have HN : Hid (cS l (k + 1) = (o.pr, t)) := by have := HSU.out; rw [if_pos (Or.inr ⟨q2, q4⟩)] at this; exact this
                clear q2
                go_wp2
                exact ⟨⟨k + 1, o.pr, t, by omega, by norm_cast, rfl, rfl, HN, HB3⟩, by simp [intOf]; omega⟩
              · have a4 : decide (o.pr < p) = false := decide_eq_false q4
                have HN : Hid (cS l (k + 1) = (p, m)) := by have := HSU.out; rw [if_neg (fun h => by rcases h with h | h; exact q1 h; exact q4 h.2)] at this; exact this
                clear q2
                go_wp2
                exact ⟨⟨k + 1, p, m, by omega, by norm_cast, rfl, rfl, HN, HB3⟩, by simp [intOf]; omega⟩
            · have a3 : decide (0 < t) = false := decide_eq_false q3
              have HN : Hid (cS l (k + 1) = (p, m)) := by have := HSU.out; rw [if_neg (fun h => by rcases h with h | h; exact q1 h; have := hok.2 (show m = 0 by omega); have h2 : o.pr < p := h.2; have h3 : p = 0 := this; omega)] at this; exact this
              clear q2
              go_wp2
              exact ⟨⟨k + 1, p, m, by omega, by norm_cast, rfl, rfl, HN, HB3⟩, by simp [intOf]; omega⟩
          · have a2 : (t == m) = false := by simpa using q2
            have a2' : decide (t = m) = false := a2
            have HN : Hid (cS l (k + 1) = (p, m)) := by have := HSU.out; rw [if_neg (fun h => by rcases h with h | h; exact q1 h; exact q2 h.1)] at this; exact this
            go_wp2
            exact ⟨⟨k + 1, p, m, by omega, by norm_cast, rfl, rfl, HN, HB3⟩, by simp [intOf]; omega⟩
    · have hkl : ¬ (k : Int) < (l.length : Int) := by omega
      have hf : crs l = (p, m) := by rw [HCE.out, show l.length = k by omega]; exact HS.out
      have HF : Hid _ := hf
      clear hf
      go_wp2
      go_ret2
      exact ⟨by rw [HF.out]; rfl, HB.out⟩
end Go.Proofs.Ytlhfdgeknpmdfaa

namespace Go.Proofs.Ytlhfdgeknpmdfaa
open Go.Shelf Go.RowKit Go.Lib Go.Sort
set_option linter.unusedSimpArgs false
set_option linter.unusedVariables false

theorem keepF {w w' : World} (hb : Below w.heap.size w w') {a : Addr} {u : Value} (h : w.cell? a = some u) : w'.cell? a = some u := (hb.cell (World.block_lt_of_cell? w _ h)).trans h
def befB (x y : Od) : Bool := if x.pr = y.pr then decide (x.pl < y.pl) else (decide (y.pr < x.pr) == x.by)
theorem bef_buy {x : Od} (h : x.by = true) (y : Od) : befB x y = decide (cfB x y < 0) := by
  rw [cfB_lt]
  unfold befB
  split
  · rename_i e
    rw [decide_eq_decide]
    constructor
    · intro hl; exact Or.inr ⟨e, hl⟩
    · intro hl; rcases hl with hl | hl; omega; exact hl.2
  · rename_i e
    rw [h, beq_true, decide_eq_decide]
    constructor
    · intro hl; exact Or.inl hl
    · intro hl; rcases hl with hl | hl; exact hl; exact absurd hl.1 e
theorem bef_sell {x : Od} (h : x.by = false) (y : Od) : befB x y = decide (cfS x y < 0) := by
  rw [cfS_lt]
  unfold befB
  split
  · rename_i e
    rw [decide_eq_decide]
    constructor
    · intro hl; exact Or.inr ⟨e, hl⟩
    · intro hl; rcases hl with hl | hl; omega; exact hl.2
  · rename_i e
    rw [h, beq_false, ← decide_not, decide_eq_decide]
    constructor
    · intro hl; exact Or.inl (by omega)
    · intro hl; rcases hl with hl | hl; omega; exact absurd hl.1 e
set_option maxHeartbeats 2000000 in
set_option maxRecDepth 100000 in
theorem before_calls (x y : Od) (w : World) : Calls Try.prog 74 #[.agg #[.int .i64 x.id, .int .i64 x.own, .int .i64 x.pr, .int .i64 x.am, .int .i64 x.pl, .bool x.by], .agg #[.int .i64 y.id, .int .i64 y.own, .int .i64 y.pr, .int .i64 y.am, .int .i64 y.pl, .bool y.by]] w fun e w' => e = .returned (.bool (befB x y)) ∧ Below w.heap.size w w' := by
  have HD : Hid (befB x y = if x.pr = y.pr then decide (x.pl < y.pl) else (decide (y.pr < x.pr) == x.by)) := rfl
  generalize befB x y = M at *
  obtain ⟨W1, hW1, X1, B1, Z1⟩ : ∃ W1, w.alloc (.cells #[.int .i64 x.id, .int .i64 x.own, .int .i64 x.pr, .int .i64 x.am, .int .i64 x.pl, .bool x.by] 28) = W1 ∧ Blk W1 w.heap.size #[.int .i64 x.id, .int .i64 x.own, .int .i64 x.pr, .int .i64 x.am, .int .i64 x.pl, .bool x.by] 28 ∧ Below w.heap.size w W1 ∧ W1.heap.size = w.heap.size + 1 := ⟨_, rfl, blk_new _ _ _ _ rfl, by go_grown, by simp⟩
  obtain ⟨W2, hW2, X2, Y2, B2⟩ : ∃ W2, W1.alloc (.cells #[.int .i64 y.id, .int .i64 y.own, .int .i64 y.pr, .int .i64 y.am, .int .i64 y.pl, .bool y.by] 28) = W2 ∧ Blk W2 w.heap.size #[.int .i64 x.id, .int .i64 x.own, .int .i64 x.pr, .int .i64 x.am, .int .i64 x.pl, .bool x.by] 28 ∧ Blk W2 (w.heap.size + 1) #[.int .i64 y.id, .int .i64 y.own, .int .i64 y.pr, .int .i64 y.am, .int .i64 y.pl, .bool y.by] 28 ∧ Below w.heap.size w W2 := ⟨_, rfl, X1.alloc _, blk_new _ _ _ _ (by rw [Z1]), B1.alloc (by omega) _⟩
  have c2 : W2.cell? ⟨w.heap.size, 2, none⟩ = some (.int .i64 x.pr) := X2.cell rfl
  have c4 : W2.cell? ⟨w.heap.size, 4, none⟩ = some (.int .i64 x.pl) := X2.cell rfl
  have c5 : W2.cell? ⟨w.heap.size, 5, none⟩ = some (.bool x.by) := X2.cell rfl
  have d2 : W2.cell? ⟨w.heap.size + 1, 2, none⟩ = some (.int .i64 y.pr) := Y2.cell rfl
  have d4 : W2.cell? ⟨w.heap.size + 1, 4, none⟩ = some (.int .i64 y.pl) := Y2.cell rfl
  clear X1 X2 Y2
  by_cases h : x.pr = y.pr
  · have g1 : (x.pr == y.pr) = true := by simpa using h
    have g2 : (x.pr != y.pr) = false := by rw [bne, g1]; rfl
    have HM : Hid (M = decide (x.pl < y.pl)) := by have := HD.out; rw [if_pos h] at this; exact this
    clear h
    go_enter Try.func74, Try.ntmps74
    go_wp2
    go_ret
    exact ⟨by rw [HM.out]; rfl, B2⟩
  · have g1 : (x.pr == y.pr) = false := by simpa using h
    have g2 : (x.pr != y.pr) = true := by rw [bne, g1]; rfl
    have HM : Hid (M = (decide (y.pr < x.pr) == x.by)) := by have := HD.out; rw [if_neg h] at this; exact this
    clear h
    go_enter Try.func74, Try.ntmps74
    go_wp2
    go_ret
    exact ⟨by rw [HM.out]; rfl, B2⟩
/-- Where an order is put in. -/
theorem ins_at {lt : Od → Od → Bool} (hO : SWO lt) {S : List Od} (hS : Srt lt S) {o : Od} {j : Nat} (hj : j ≤ S.length) (h1 : ∀ y ∈ S.drop j, lt o y = true) (h2 : ∀ y, S[j - 1]? = some y → j = 0 ∨ lt o y = false) : insS lt o S = S.take j ++ o :: S.drop j := by
  obtain ⟨s1, s2, e, hi, k1, k2⟩ := insS_split hO o S hS
  have hl : s1.length = j := by
    rcases Nat.lt_trichotomy s1.length j with hlt | he | hgt
    · exfalso
      have hj1 : j - 1 < S.length := by omega
      have hg : S[j - 1]? = some S[j - 1] := List.getElem?_eq_getElem hj1
      have hm : S[j - 1] ∈ s2 := by
        have : S[j - 1]? = s2[j - 1 - s1.length]? := by rw [e, List.getElem?_append_right (by omega)]
        rw [hg] at this
        exact List.mem_of_getElem? this.symm
      rcases h2 _ hg with h0 | h0
      · omega
      · rw [k2 _ hm] at h0; cases h0
    · exact he
    · exfalso
      have hj1 : j < S.length := by rw [e, List.length_append]; omega
      have hm1 : S[j] ∈ s1 := by
        have : S[j]? = s1[j]? := by rw [e, List.getElem?_append_left hgt]
        rw [List.getElem?_eq_getElem hj1] at this
        exact List.mem_of_getElem? this.symm
      have hm2 : S[j] ∈ S.drop j := by rw [List.drop_eq_getElem_cons hj1]; exact List.mem_cons_self ..
      have := h1 _ hm2
      rw [k1 _ hm1] at this
      cases this
  rw [hi, e, ← hl, List.take_left, List.drop_left]
theorem odL_take_cells {w : World} {g off : Nat} {S : List Od} (h : ∀ (k : Nat) (x : Od), S[k]? = some x → ∀ (j : Nat) (u : Value), (oC x)[j]? = some u → w.cell? ⟨g, off + k * 6 + j, none⟩ = some u) : ∀ j u, (odL S)[j]? = some u → w.cell? ⟨g, off + j, none⟩ = some u := by
  intro j u hj
  have hl := (List.getElem?_eq_some_iff.1 hj).1
  rw [odL_len] at hl
  have hk : j / 6 < S.length := by omega
  have hx : S[j / 6]? = some S[j / 6] := List.getElem?_eq_getElem hk
  have h6 : j % 6 < 6 := Nat.mod_lt _ (by omega)
  have hu : ∃ u', (oC S[j / 6])[j % 6]? = some u' := ⟨(oC S[j / 6])[j % 6]'(by rw [oC_len]; exact h6), List.getElem?_eq_getElem (by rw [oC_len]; exact h6)⟩
  obtain ⟨u', hu'⟩ := hu
  have e := odL_get S (j / 6) (j % 6) _ u' hx hu'
  have ej : j / 6 * 6 + j % 6 = j := by omega
  rw [ej, hj] at e
  injection e with e
  subst e
  have := h (j / 6) _ hx (j % 6) u hu'
  rw [show off + j / 6 * 6 + j % 6 = off + j by omega] at this
  exact this

def gT (p : Int) (z : Int) : Od → Bool := if z = 0 then bAt p else sAt p
def lT (z : Int) : Od → Od → Bool := if z = 0 then (fun a b => decide (cfB a b < 0)) else (fun a b => decide (cfS a b < 0))
def sT (l : List Od) (p z : Int) : List Od := stab (lT z) ((l.filter mayB).filter (gT p z))
def sK (l : List Od) (p z : Int) (k : Nat) : List Od := stab (lT z) (((l.take k).filter mayB).filter (gT p z))
def fT (l : List Od) (p n z : Int) : List Fi := if z = 0 then [] else if z = 1 then fll (sT l p 0) n else fll (sT l p 0) n ++ fll (sT l p 1) n
theorem lT_swo (z : Int) : SWO (lT z) := by
  unfold lT
  split
  · exact swoB
  · exact swoS
theorem sK_succ {l : List Od} {p z : Int} {k : Nat} {o : Od} (h : l[k]? = some o) : sK l p z (k + 1) = if mayB o = true ∧ gT p z o = true then insS (lT z) o (sK l p z k) else sK l p z k := by
  unfold sK
  rw [List.take_add_one, h]
  simp only [Option.toList_some, List.filter_append]
  cases hm : mayB o
  · rw [List.filter_cons_of_neg (by rw [hm]; simp)]
    simp
  · rw [List.filter_cons_of_pos hm]
    cases hg : gT p z o
    · rw [List.filter_nil, List.filter_cons_of_neg (by rw [hg]; simp)]
      simp
    · rw [List.filter_nil, List.filter_cons_of_pos hg, List.filter_nil, stab_snoc]
      simp
theorem sK_len (l : List Od) (p z : Int) (k : Nat) : (sK l p z k).length ≤ l.length := by
  unfold sK
  rw [stab_len]
  refine Nat.le_trans (List.length_filter_le _ _) (Nat.le_trans (List.length_filter_le _ _) ?_)
  rw [List.length_take]; omega
theorem sK_may {l : List Od} {p z : Int} {k : Nat} {o : Od} (h : o ∈ sK l p z k) : mayB o = true := by
  unfold sK at h
  have := (stab_perm (lt := lT z) _).mem_iff.1 h
  exact (List.mem_filter.1 (List.mem_filter.1 this).1).2
theorem bef_lT {o : Od} {p z : Int} (hz : z = 0 ∨ z = 1) (h : gT p z o = true) (y : Od) : befB o y = lT z o y := by
  unfold gT at h
  unfold lT
  rcases hz with rfl | rfl
  · simp only [if_true] at h ⊢
    unfold bAt at h
    simp only [Bool.and_eq_true] at h
    exact bef_buy h.1 y
  · simp only [show ((1 : Int) = 0) = False by simp, if_false] at h ⊢
    unfold sAt at h
    simp only [Bool.and_eq_true, Bool.not_eq_true'] at h
    exact bef_sell h.1 y
theorem fT_next {l : List Od} {p n z : Int} (hz : z = 0 ∨ z = 1) : fT l p n (z + 1) = fT l p n z ++ fll (sT l p z) n := by
  rcases hz with rfl | rfl
  · simp [fT]
  · simp [fT]
theorem fT_end (l : List Od) (p n : Int) (hn : l.length ≤ 64) : fT l p n 2 = fills l p n := by
  unfold fT fills sT lT gT jdg
  rw [if_neg (show ¬ 64 < l.length by omega)]
  simp
theorem fT_len (l : List Od) (p n z : Int) (hn : l.length ≤ 64) : (fT l p n z).length ≤ 128 := by
  have hs : ∀ z, (fll (sT l p z) n).length ≤ 64 := fun z => by
    have h1 := fll_len (sT l p z) n
    have h2 : (sT l p z).length ≤ l.length := by
      have := sK_len l p z l.length
      unfold sK at this
      rw [List.take_length] at this
      exact this
    omega
  have h0 := hs 0
  have h1 := hs 1
  unfold fT
  split
  · simp
  · split
    · omega
    · rw [List.length_append]; omega
theorem infoOr : (Try.prog.info? 28).map (fun i => (i.zero, i.size, i.bytes)) = some (some (.agg #[.int .i64 0, .int .i64 0, .int .i64 0, .int .i64 0, .int .i64 0, .bool false]), 6, 48) := by kernel_rfl
theorem fll_noneF {l : List Od} {n : Int} (h : n ≤ 0) : fll l n = [] := by
  cases l with
  | nil => rfl
  | cons o l => rw [fll, if_pos (by omega)]
theorem step_ifF {P : Program} {ops : Array Oper} {o : Oper} {a : Act} {w : World} {K : Act → World → Prop} {Q : Exit → Act → World → Prop} {E : Prop} (hg : o.guard = none) (h : Oper.wp P o a w K Q) :
    if Region.wanted o (yielded ops a.tmps) = true then Oper.wp P o a w K Q else E := by
  have hw : Region.wanted o (yielded ops a.tmps) = true := by simp [Region.wanted, hg]
  rw [if_pos hw]; exact h
theorem own_heapF {w : World} {base : Nat} {e : TypeId} {sz : Nat} {v : Value} {n : Nat} {xs : List Value} (h : w.ownsRow base e sz v n xs) {k : Nat} (hk : v.ownBlock = some k) : ∃ cur, w.heap[k]? = some (.cells cur e (0, 0)) := by
  rcases h.2 with ⟨h1, _⟩ | ⟨g, cap, cur, h1, _, h2, _⟩
  · rw [h1] at hk; simp [Value.ownBlock] at hk
  · rw [h1] at hk
    simp [Value.ownBlock] at hk
    subst hk
    exact ⟨cur, h2⟩
theorem append_emptyO (p : Option Addr) (c : Nat) (w : World) : (Builtin.append_ #[25, 25] 25 #[.slice none 0 0, .slice p 0 c]).run Try.prog w = .ok (.slice none 0 0) w := by
  cases p with
  | none => kernel_rfl
  | some a => kernel_rfl
theorem wpList_append_givenO (w : World) {ops : Array Oper} {rest : List Oper} {o : Oper} {a : Act} {Q : Exit → Act → World → Prop} (hgd : o.guard = none) (s x : Operand) (t : TypeId)
    (ho : o.op = .call { callee := .builtin .append, args := #[s, x], argTypes := #[t, t] }) (v u : Value) (hs : a.eval s = v) (hx : a.eval x = u) {v' : Value} {w' : World}
    (hr : (Builtin.append_ #[t, t] o.type #[v, u]).run Try.prog w = .ok v' w') (h : wpList Try.prog ops Q rest (a.put o.dst v') w') : wpList Try.prog ops Q (o :: rest) a w :=
  wpList_plain hgd fun K hK => by
    unfold Oper.wp execOp
    simp only [ho, resolve, invoke, builtin, Sem.run_bind, Sem.run_pure, Result.andThen_ok, List.map_toArray, List.map_cons, List.map_nil, hs, hx, hr]
    exact hK _ _ h
theorem wpList_append_givenV (w : World) {ops : Array Oper} {rest : List Oper} {o : Oper} {a : Act} {Q : Exit → Act → World → Prop} (hgd : o.guard = none) (s x : Operand) (t : TypeId)
    (ho : o.op = .call { callee := .builtin .append, args := #[s, x], argTypes := #[t, t] }) (v u : Value) (hs : a.eval s = v) (hx : a.eval x = u) {v' : Value} {w' : World}
    (hr : (Builtin.append_ #[t, t] o.type #[v, u]).run Try.prog w = .ok v' w') (h : ∀ u' w'', u' = v' → w'' = w' → wpList Try.prog ops Q rest (a.put o.dst u') w'') : wpList Try.prog ops Q (o :: rest) a w :=
  wpList_append_givenO w hgd s x t ho v u hs hx hr (h _ _ rfl rfl)
theorem append_noneO (a : Addr) (n c : Nat) (h : n ≤ c) (w : World) : (Builtin.append_ #[25, 25] 25 #[.slice (some a) n c, .slice none 0 0]).run Try.prog w = .ok (.slice (some a) n c) w := by
  obtain ⟨i0, hi, hz0, hz1, hz2⟩ := info_parts infoOr
  simp [Builtin.append_, run_underlying Try.underlying25, Go.sizeOf, typeInfo, hi, Builtin.lenOf, h, Addr.add_lit, Builtin.firstCells, storeCells]

set_option maxHeartbeats 32000000 in
set_option maxRecDepth 100000 in
theorem refFills_calls (v : Value) (l : List Od) (p n : Int) (w : World) (hl : Ods w v l) (hr : -9223372036854775808 ≤ n ∧ n ≤ 9223372036854775807) :
    Calls Try.prog 54 #[v, .int .i64 p, .int .i64 n] w fun e w' => ∃ v', e = .returned v' ∧ w'.ownsRow w.heap.size 84 3 v' (fills l p n).length (fiL (fills l p n)) ∧ Below w.heap.size w w' := by
  obtain ⟨i0, hi_, hi0, hi1, hi2⟩ := info_parts infoOr
  obtain ⟨iF, hf_, hf0, hf1, hf2⟩ := info_parts infoF
  obtain ⟨pp, cap, rfl, hc⟩ := hl
  have HC : Hid _ := hc
  clear hc
  by_cases hn : 64 < l.length
  · have d0 : decide ((64 : Int) < (l.length : Int)) = true := decide_eq_true (by omega)
    have hf : fills l p n = [] := by unfold fills jdg; rw [if_pos hn]; rfl
    rw [hf]
    clear hn hf
    go_enter Try.func54, Try.ntmps54
    go_wp2
    go_ret
    exact ⟨_, rfl, World.ownsRow_nil _ _ _ _, Below.refl _ _⟩
  have d0 : decide ((64 : Int) < (l.length : Int)) = false := decide_eq_false (by omega)
  have hn6 : l.length ≤ 64 := by omega
  clear hn
  go_enter Try.func54, Try.ntmps54
  go_wp2
  go_loopw [7, 8] (fun ov tv wr => ∃ z : Int, 0 ≤ z ∧ z ≤ 2 ∧ tv = .int .i64 z ∧ wr.ownsRow w.heap.size 84 3 ov (fT l p n z).length (fiL (fT l p n z)) ∧ Hid (Below w.heap.size w wr)) (fun _ tv _ => (2 - intOf tv).toNat)
  case atStart => exact ⟨0, by omega, by omega, rfl, (by simp only [fT, if_true]; exact World.ownsRow_nil _ _ _ _), Below.refl _ _⟩
  case round =>
    obtain ⟨wt, hwt⟩ : ∃ wt, wt = wr := ⟨_, rfl⟩
    subst hwt
    obtain ⟨z, hz0, hz2, rfl, hout, HBT⟩ := hrel
    obtain ⟨oa, ocap, rfl⟩ := own_form hout
    have HOUT : Hid _ := hout
    have hfl := fT_len l p n z hn6
    clear hout
    by_cases hz : z < 2
    case neg =>
      have dz : decide (z < 2) = false := decide_eq_false hz
      obtain rfl : z = 2 := by omega
      have HE : Hid _ := fT_end l p n hn6
      have HO2 : Hid _ := HOUT.out
      rw [HE.out] at HO2
      clear HOUT
      go_wp2
      go_ret
      exact ⟨_, by rw [HE.out]; rfl, HO2.out, HBT.out⟩
    have dz : decide (z < 2) = true := decide_eq_true hz
    have hz01 : z = 0 ∨ z = 1 := by omega
    have HO : Hid _ := lT_swo z
    have hbt := HBT.out.size
    go_wp2
    go_loopw [9, 10] (fun sv iv w4 => ∃ k : Nat, k ≤ l.length ∧ iv = .int .i64 k ∧ w4.ownsRow wt.heap.size 28 6 sv (sK l p z k).length (odL (sK l p z k)) ∧ Hid (Below wt.heap.size wt w4)) (fun _ iv _ => l.length - (intOf iv).toNat)
    case atStart => exact ⟨0, Nat.zero_le _, rfl, (by have e : sK l p z 0 = [] := rfl; rw [e]; exact World.ownsRow_nil _ _ _ _), Below.refl _ _⟩
    case round =>
      obtain ⟨w4, hw4⟩ : ∃ w4, w4 = wr := ⟨_, rfl⟩
      subst hw4
      obtain ⟨k, hk, rfl, hside, HB4⟩ := hrel
      have hb4 := HB4.out.size
      obtain ⟨sa, scap, rfl⟩ := own_form hside
      have HSIDE : Hid _ := hside
      have hsl := sK_len l p z k
      clear hside
      by_cases hlt : k < l.length
      · have hkl : (k : Int) < (l.length : Int) := by omega
        obtain ⟨o, ho⟩ : ∃ o, l[k]? = some o := ⟨l[k], by simp [hlt]⟩
        rcases HC.out with hnil | ⟨gb, off, hp, hcs⟩
        · exfalso; rw [hnil] at hlt; simp at hlt
        subst hp
        obtain ⟨c0, c1, c2, c3, c4, c5⟩ := Ods.six hcs ho
        have HBW4 : Hid (Below w.heap.size w w4) := Below.trans HBT.out (HB4.out.mono hbt)
        have d0_ := keepF HBW4.out c0
        have d1_ := keepF HBW4.out c1
        have d2_ := keepF HBW4.out c2
        have d3_ := keepF HBW4.out c3
        have d4_ := keepF HBW4.out c4
        have d5_ := keepF HBW4.out c5
        have hsu := sK_succ (p := p) (z := z) ho
        obtain ⟨W3, hW3, X3, B3, Z3⟩ : ∃ W3, (w4.alloc (.cells #[.int .i64 o.id, .int .i64 o.own, .int .i64 o.pr, .int .i64 o.am, .int .i64 o.pl, .bool o.by] 28)) = W3 ∧ Blk W3 w4.heap.size #[.int .i64 o.id, .int .i64 o.own, .int .i64 o.pr, .int .i64 o.am, .int .i64 o.pl, .bool o.by] 28 ∧ Below w4.heap.size w4 W3 ∧ W3.heap.size = w4.heap.size + 1 := ⟨_, rfl, blk_new _ _ _ _ rfl, by go_grown, by simp⟩
        have HB3 : Hid (Below wt.heap.size wt W3) := Below.trans HB4.out (B3.mono hb4)
        have x0 : W3.cell? ⟨w4.heap.size, 0, none⟩ = some (.int .i64 o.id) := X3.cell rfl
        have x1 : W3.cell? ⟨w4.heap.size, 1, none⟩ = some (.int .i64 o.own) := X3.cell rfl
        have x2 : W3.cell? ⟨w4.heap.size, 2, none⟩ = some (.int .i64 o.pr) := X3.cell rfl
        have x3 : W3.cell? ⟨w4.heap.size, 3, none⟩ = some (.int .i64 o.am) := X3.cell rfl
        have x4 : W3.cell? ⟨w4.heap.size, 4, none⟩ = some (.int .i64 o.pl) := X3.cell rfl
        have x5 : W3.cell? ⟨w4.heap.size, 5, none⟩ = some (.bool o.by) := X3.cell rfl
        have HX3 : Hid _ := X3
        have HSU : Hid _ := hsu
        clear c0 c1 c2 c3 c4 c5 hcs ho hsu X3
        go_upto_region 12 with fail
        go_cut [12] (fun gv wx => gv = .bool (gT p z o) ∧ wx = W3)
        case first =>
          have HG : Hid (gT p z o = if z = 0 then (o.by && decide (p ≤ o.pr)) else (!o.by && decide (o.pr ≤ p))) := by show _ = _; unfold gT; split <;> rfl
          generalize gT p z o = G at *
          obtain ⟨bb, hbb⟩ : ∃ bb, o.by = bb := ⟨_, rfl⟩
          rw [hbb] at x5 HG
          clear hbb
          rcases hz01 with rfl | rfl
          · rw [if_pos rfl] at HG
            cases bb
            · go_wp2
              go_meet
              exact ⟨by rw [HG.out]; rfl, rfl⟩
            · by_cases hpp : p ≤ o.pr
              · have hpd : decide (p ≤ o.pr) = true := decide_eq_true hpp
                go_wp2
                go_meet
                exact ⟨by rw [HG.out, hpd]; rfl, rfl⟩
              · have hpd : decide (p ≤ o.pr) = false := decide_eq_false hpp
                go_wp2
                go_meet
                exact ⟨by rw [HG.out, hpd]; rfl, rfl⟩
          · rw [if_neg (by omega)] at HG
            cases bb
            · by_cases hpp : o.pr ≤ p
              · have hpd : decide (o.pr ≤ p) = true := decide_eq_true hpp
                go_wp2
                go_meet
                exact ⟨by rw [HG.out, hpd]; rfl, rfl⟩
              · have hpd : decide (o.pr ≤ p) = false := decide_eq_false hpp
                go_wp2
                go_meet
                exact ⟨by rw [HG.out, hpd]; rfl, rfl⟩
            · go_wp2
              go_meet
              exact ⟨by rw [HG.out]; rfl, rfl⟩
        case rest =>
          obtain ⟨rfl, rfl⟩ := hcut
          rename World => W3
          have HR : Hid (Calls Try.prog 29 #[.agg #[.int .i64 o.id, .int .i64 o.own, .int .i64 o.pr, .int .i64 o.am, .int .i64 o.pl, .bool o.by]] W3 fun e w' => e = .returned (.bool (mayB o)) ∧ Gr W3 w') := right_calls o W3
          cases hmb : mayB o
          · rw [hmb] at HR
            have HSK : Hid (sK l p z (k + 1) = sK l p z k) := by have := HSU.out; rw [if_neg (fun h => by rw [hmb] at h; cases h.1)] at this; exact this
            clear hmb
            go_wp2_with fail
            refine Calls.mono HR.out ?_
            rintro e w5 ⟨rfl, g5⟩
            have b45 : Below w4.heap.size w4 w5 := B3.trans (g5.below.mono (by omega))
            go_wp2
            exact ⟨⟨k + 1, by omega, by norm_cast, by rw [HSK.out]; exact ownB HSIDE.out b45, Below.trans HB4.out (b45.mono hb4)⟩, by simp [intOf]; omega⟩
          · rw [hmb] at HR
            cases hgo : gT p z o
            · have HSK : Hid (sK l p z (k + 1) = sK l p z k) := by have := HSU.out; rw [if_neg (fun h => by rw [hgo] at h; cases h.2)] at this; exact this
              clear hmb
              go_wp2_with fail
              refine Calls.mono HR.out ?_
              rintro e w5 ⟨rfl, g5⟩
              have b45 : Below w4.heap.size w4 w5 := B3.trans (g5.below.mono (by omega))
              go_wp2
              exact ⟨⟨k + 1, by omega, by norm_cast, by rw [HSK.out]; exact ownB HSIDE.out b45, Below.trans HB4.out (b45.mono hb4)⟩, by simp [intOf]; omega⟩
            · have HSK : Hid (sK l p z (k + 1) = insS (lT z) o (sK l p z k)) := by have := HSU.out; rw [if_pos ⟨hmb, hgo⟩] at this; exact this
              go_wp2_with fail
              refine Calls.mono HR.out ?_
              rintro e w5 ⟨rfl, g5⟩
              have b35 := g5.below
              have b45 : Below w4.heap.size w4 w5 := B3.trans (b35.mono (by omega))
              have HB5 : Hid (Below wt.heap.size wt w5) := Below.trans HB4.out (b45.mono hb4)
              have HSRT : Hid (Srt (lT z) (sK l p z k)) := stab_srt HO.out _
              have xo0 := keepF b35 x0
              have xo1 := keepF b35 x1
              have xo2 := keepF b35 x2
              have xo3 := keepF b35 x3
              have xo4 := keepF b35 x4
              have xo5 := keepF b35 x5
              have HBE : Hid (∀ y, befB o y = lT z o y) := bef_lT hz01 hgo
              have side5 := ownB HSIDE.out b45
              have hz5 := b45.size
              have hm64 : (sK l p z k).length ≤ 64 := by omega
              clear x0 x1 x2 x3 x4 x5 d0_ d1_ d2_ d3_ d4_ d5_ g5 HR hgo hmb HSU
              rcases side5.2 with ⟨hs1, hs2⟩ | ⟨gs, scap', cur, hs1, hsb, _, hsc, _, _, _⟩
              · injection hs1 with hs1 hs3 hs4
                subst hs1 hs4
                have HM0 : Hid ((sK l p z k).length = 0) := hs2
                obtain ⟨m0, hm0⟩ : ∃ m0, (sK l p z k).length = m0 := ⟨_, rfl⟩
                obtain ⟨w8, hw8⟩ : ∃ w8, w8 = w5 := ⟨_, rfl⟩
                have HB58 : Hid (Below w5.heap.size w5 w8) := by rw [hw8]; exact Below.refl _ _
                have h8 := HB58.out.size
                rw [hs2]
                clear hs2 hs3 hm0 hw8 HB58 h8 w8
                go_wp2
                go_loopw [13] (fun jv w6 => jv = .int .i64 0 ∧ w6 = w5) (fun _ _ => 0)
                case atStart => exact ⟨rfl, rfl⟩
                case round =>
                  obtain ⟨rfl, rfl⟩ := hrel
                  rename World => w5
                  go_wp2_with fail
                  go_quiet (fail)
                  rename_i nq
                  obtain ⟨w8, hw8⟩ : ∃ w8, w8 = w5.drewN nq := ⟨_, rfl⟩
                  have HB58 : Hid (Below w5.heap.size w5 w8) := by rw [hw8]; exact below_drewN (Below.refl _ _) _
                  have h8 := HB58.out.size
                  rw [← hw8]
                  clear hw8
                  have HIN : Hid (sK l p z (k + 1) = [o]) := by show _ = _; rw [HSK.out]; have e : sK l p z k = [] := List.eq_nil_of_length_eq_zero HM0.out; rw [e]; rfl
                  have y0 := keepF HB58.out xo0
                  have y1 := keepF HB58.out xo1
                  have y2 := keepF HB58.out xo2
                  have y3 := keepF HB58.out xo3
                  have y4 := keepF HB58.out xo4
                  have y5 := keepF HB58.out xo5
                  go_wp2_with (at_builtin; refine wpList_append_own _ rfl _ _ 25 rfl w8.heap.size 28 i0 (.agg #[.int .i64 0, .int .i64 0, .int .i64 0, .int .i64 0, .int .i64 0, .bool false]) 6 48 Try.underlying25 hi_ hi0 hi1 hi2 rfl (by decide) (.slice none 0 0) 0 [] rfl (World.ownsRow_nil _ _ _ _) ⟨w8.heap.size, 0, none⟩ 1 1 [.int .i64 o.id, .int .i64 o.own, .int .i64 o.pr, .int .i64 o.am, .int .i64 o.pl, .bool o.by] rfl rfl ?c1 ?c2 ?c3 ?c4 ?c5 ?_)
                  case c1 =>
                    intro q u hq
                    rw [Addr.add_lit, Nat.zero_add]
                    exact (blk_new w8 w8.heap.size _ _ rfl).cell (by simpa using hq)
                  case c2 => intro u hu; simp at hu; rcases hu with rfl | rfl | rfl | rfl | rfl | rfl <;> rfl
                  case c3 => unfold maxLen; omega
                  case c4 => omega
                  case c5 => simp
                  intro v2 w10 own10 gr10 _
                  have b810 : Below w8.heap.size w8 w10 := belG ((Below.refl _ _).alloc (Nat.le_refl _) _) gr10 (fun k hk => by cases hk) (by simp)
                  obtain ⟨g10, c10, rfl, hc10⟩ : ∃ g10 c10, v2 = .slice (some ⟨g10, 0, none⟩) 1 c10 ∧ 1 ≤ c10 := by
                    rcases own10.2 with ⟨h1, h2⟩ | ⟨g, cap, cur, h1, _, _, h2, _⟩
                    · exfalso; omega
                    · exact ⟨g, cap, h1, h2⟩
                  have hfin : w10.ownsRow wt.heap.size 28 6 (.slice (some ⟨g10, 0, none⟩) 1 c10) (sK l p z (k + 1)).length (odL (sK l p z (k + 1))) := by
                    have e2 : odL [o] = [.int .i64 o.id, .int .i64 o.own, .int .i64 o.pr, .int .i64 o.am, .int .i64 o.pl, .bool o.by] := by simp [odL, oC]
                    rw [HIN.out, e2]
                    exact own_base (b := w8.heap.size) (by simpa using own10) (by omega)
                  have HFIN : Hid _ := hfin
                  clear hfin own10 gr10
                  go_wp2
                  exact ⟨⟨k + 1, by omega, by norm_cast, HFIN.out, Below.trans HB5.out ((Below.trans HB58.out (b810.mono (Below.size HB58.out))).mono (Below.size HB5.out))⟩, by simp [intOf]; omega⟩
              · injection hs1 with hs1 hs3 hs4
                subst hs1 hs4
                have HSC : Hid (∀ wx, Below w5.heap.size w5 wx → ∀ (k' : Nat) (x' : Od), (sK l p z k)[k']? = some x' → ∀ (i : Nat) (u : Value), (oC x')[i]? = some u → wx.cell? ⟨gs, 0 + k' * 6 + i, none⟩ = some u) := fun wx hb k' x' hx' i u hu => by
                  have q := World.ownsRow.cells side5 (g := gs) rfl (k' * 6 + i) u (odL_get _ k' i x' u hx' hu)
                  rw [Addr.add_lit] at q
                  rw [Nat.add_assoc]
                  exact keepF hb q
                clear side5
                go_wp2
                go_loopw [13] (fun jv w6 => ∃ (j : Nat) (x : Int), j ≤ (sK l p z k).length ∧ jv = .int .i64 x ∧ Hid (x = (j : Int)) ∧ 0 ≤ x ∧ x ≤ 64 ∧ Hid (∀ y ∈ (sK l p z k).drop j, lT z o y = true) ∧ Hid (Below w5.heap.size w5 w6)) (fun jv _ => (intOf jv).toNat)
                case atStart => exact ⟨(sK l p z k).length, _, Nat.le_refl _, rfl, rfl, by omega, by omega, (fun y hy => by rw [List.drop_length] at hy; cases hy), Below.refl _ _⟩
                case round =>
                  obtain ⟨w6, hw6⟩ : ∃ w6, w6 = wr := ⟨_, rfl⟩
                  subst hw6
                  obtain ⟨j, x, hj, rfl, HXJ, hx0, hx1, HDR, HB56⟩ := hrel
                  have h56 := HB56.out.size
                  by_cases hj0 : 0 < x
                  · obtain ⟨jj, hjj⟩ : ∃ jj : Nat, j = jj + 1 := ⟨j - 1, by have := HXJ.out; omega⟩
                    subst hjj
                    have ex : x - 1 = (jj : Int) := by have := HXJ.out; omega
                    have dx : decide (0 < x) = true := decide_eq_true hj0
                    have hjjl : (jj : Int) < ((sK l p z k).length : Int) := by omega
                    have rwj : IntKind.i64.wrap (jj : Int) = (jj : Int) := by rw [IntKind.wrap_i64]; omega
                    obtain ⟨y, hy⟩ : ∃ y, (sK l p z k)[jj]? = some y := ⟨(sK l p z k)[jj]'(by omega), List.getElem?_eq_getElem (by omega)⟩
                    have o0 := keepF HB56.out xo0
                    have o1 := keepF HB56.out xo1
                    have o2 := keepF HB56.out xo2
                    have o3 := keepF HB56.out xo3
                    have o4 := keepF HB56.out xo4
                    have o5 := keepF HB56.out xo5
                    have tc := HSC.out w6 HB56.out jj y hy
                    simp only [Nat.zero_add] at tc
                    have t0 : w6.cell? ⟨gs, jj * 6, none⟩ = some (.int .i64 y.id) := tc 0 _ rfl
                    have t1 : w6.cell? ⟨gs, jj * 6 + 1, none⟩ = some (.int .i64 y.own) := tc 1 _ rfl
                    have t2 : w6.cell? ⟨gs, jj * 6 + 2, none⟩ = some (.int .i64 y.pr) := tc 2 _ rfl
                    have t3 : w6.cell? ⟨gs, jj * 6 + 3, none⟩ = some (.int .i64 y.am) := tc 3 _ rfl
                    have t4 : w6.cell? ⟨gs, jj * 6 + 4, none⟩ = some (.int .i64 y.pl) := tc 4 _ rfl
                    have t5 : w6.cell? ⟨gs, jj * 6 + 5, none⟩ = some (.bool y.by) := tc 5 _ rfl
                    have hbf := before_calls o y
                    rw [HBE.out y] at hbf
                    have HBF : Hid _ := hbf
                    have HY : Hid _ := hy
                    clear tc hbf hy
                    cases hlt3 : lT z o y
                    · rw [hlt3] at HBF
                      have HL3 : Hid _ := hlt3
                      clear hlt3
                      go_wp2_with fail
                      refine wp_region_held_drew (S := (fun wx => wx.cell? ⟨w4.heap.size, 0, none⟩ = some (.int .i64 o.id) ∧ wx.cell? ⟨w4.heap.size, 1, none⟩ = some (.int .i64 o.own) ∧ wx.cell? ⟨w4.heap.size, 2, none⟩ = some (.int .i64 o.pr) ∧ wx.cell? ⟨w4.heap.size, 3, none⟩ = some (.int .i64 o.am) ∧ wx.cell? ⟨w4.heap.size, 4, none⟩ = some (.int .i64 o.pl) ∧ wx.cell? ⟨w4.heap.size, 5, none⟩ = some (.bool o.by) ∧ wx.cell? ⟨gs, jj * 6, none⟩ = some (.int .i64 y.id) ∧ wx.cell? ⟨gs, jj * 6 + 1, none⟩ = some (.int .i64 y.own) ∧ wx.cell? ⟨gs, jj * 6 + 2, none⟩ = some (.int .i64 y.pr) ∧ wx.cell? ⟨gs, jj * 6 + 3, none⟩ = some (.int .i64 y.am) ∧ wx.cell? ⟨gs, jj * 6 + 4, none⟩ = some (.int .i64 y.pl) ∧ wx.cell? ⟨gs, jj * 6 + 5, none⟩ = some (.bool y.by))) (by kernel_rfl) ⟨o0, o1, o2, o3, o4, o5, t0, t1, t2, t3, t4, t5⟩ (fun hS => ?_)
                      refine wpAnyH_take (i := 0) (v := (.int .i64 x)) rfl (by kernel_rfl) (by kernel_rfl) (by kernel_rfl) (fun _ _ _ h => h) (Or.inl ⟨by kernel_rfl, fun w hS => by obtain ⟨s0, s1, s2, s3, s4, s5, s6, s7, s8, s9, s10, s11⟩ := hS; go_simp⟩) hS ?_
                      refine wpAnyH_take (i := 1) (v := (.bool true)) rfl (by kernel_rfl) (by kernel_rfl) (by kernel_rfl) (fun _ _ _ h => h) (Or.inl ⟨by kernel_rfl, fun w hS => by obtain ⟨s0, s1, s2, s3, s4, s5, s6, s7, s8, s9, s10, s11⟩ := hS; go_simp⟩) hS ?_
                      refine wpAnyH_take (i := 2) (v := (.bool true)) rfl (by kernel_rfl) (by kernel_rfl) (by kernel_rfl) (fun _ _ _ h => h) (Or.inl ⟨by kernel_rfl, fun w hS => by obtain ⟨s0, s1, s2, s3, s4, s5, s6, s7, s8, s9, s10, s11⟩ := hS; go_simp⟩) hS ?_
                      refine wpAnyH_take (i := 3) (v := (.agg #[.int .i64 o.id, .int .i64 o.own, .int .i64 o.pr, .int .i64 o.am, .int .i64 o.pl, .bool o.by])) rfl (by kernel_rfl) (by kernel_rfl) (by kernel_rfl) (fun _ _ _ h => h) (Or.inl ⟨by kernel_rfl, fun w hS => by obtain ⟨s0, s1, s2, s3, s4, s5, s6, s7, s8, s9, s10, s11⟩ := hS; go_simp⟩) hS ?_
                      refine wpAnyH_take (i := 4) (v := (.slice (some ⟨gs, 0, none⟩) (sK l p z k).length scap)) rfl (by kernel_rfl) (by kernel_rfl) (by kernel_rfl) (fun _ _ _ h => h) (Or.inl ⟨by kernel_rfl, fun w hS => by obtain ⟨s0, s1, s2, s3, s4, s5, s6, s7, s8, s9, s10, s11⟩ := hS; go_simp⟩) hS ?_
                      refine wpAnyH_take (i := 5) (v := (.int .i64 x)) rfl (by kernel_rfl) (by kernel_rfl) (by kernel_rfl) (fun _ _ _ h => h) (Or.inl ⟨by kernel_rfl, fun w hS => by obtain ⟨s0, s1, s2, s3, s4, s5, s6, s7, s8, s9, s10, s11⟩ := hS; go_simp⟩) hS ?_
                      refine wpAnyH_take (i := 6) (v := (.int .i64 (jj : Int))) rfl (by kernel_rfl) (by kernel_rfl) (by kernel_rfl) (fun _ _ _ h => h) (Or.inl ⟨by kernel_rfl, fun w hS => by obtain ⟨s0, s1, s2, s3, s4, s5, s6, s7, s8, s9, s10, s11⟩ := hS; go_simp⟩) hS ?_
                      refine wpAnyH_take (i := 7) (v := (.pointer (some ⟨gs, jj * 6, none⟩))) rfl (by kernel_rfl) (by kernel_rfl) (by kernel_rfl) (fun _ _ _ h => h) (Or.inl ⟨by kernel_rfl, fun w hS => by obtain ⟨s0, s1, s2, s3, s4, s5, s6, s7, s8, s9, s10, s11⟩ := hS; go_simp⟩) hS ?_
                      refine wpAnyH_take (i := 8) (v := (.agg #[.int .i64 y.id, .int .i64 y.own, .int .i64 y.pr, .int .i64 y.am, .int .i64 y.pl, .bool y.by])) rfl (by kernel_rfl) (by kernel_rfl) (by kernel_rfl) (fun _ _ _ h => h) (Or.inl ⟨by kernel_rfl, fun w hS => by obtain ⟨s0, s1, s2, s3, s4, s5, s6, s7, s8, s9, s10, s11⟩ := hS; go_simp⟩) hS ?_
                      refine wpAnyH_ready (rs := [9]) (by kernel_rfl) (by simp) ?_
                      refine AllReadyH.cons rfl (fun K hK => ?_) AllReadyH.nil
                      go_simp
                      refine (HBF.out _).mono ?_
                      rintro e w7 ⟨rfl, b7⟩
                      have b67 : Below w6.heap.size w6 w7 := (Below.refl _ _).drew.trans b7
                      refine hK.out _ _ ⟨keepF b67 o0, keepF b67 o1, keepF b67 o2, keepF b67 o3, keepF b67 o4, keepF b67 o5, keepF b67 t0, keepF b67 t1, keepF b67 t2, keepF b67 t3, keepF b67 t4, keepF b67 t5⟩ (fun hS => ?_)
                      clear hK
                      refine wpAnyH_take (i := 10) (v := (.bool false)) rfl (by kernel_rfl) (by kernel_rfl) (by kernel_rfl) (fun _ _ _ h => h) (Or.inl ⟨by kernel_rfl, fun w hS => by obtain ⟨s0, s1, s2, s3, s4, s5, s6, s7, s8, s9, s10, s11⟩ := hS; go_simp⟩) hS ?_
                      refine wpAnyH_done (by kernel_rfl) ?_ _
                      clear hS
                      have HB58 : Hid (Below w5.heap.size w5 w7) := Below.trans HB56.out (b67.mono h56)
                      obtain ⟨w8, hw8⟩ : ∃ w8, w8 = w7 := ⟨_, rfl⟩
                      subst hw8
                      have h8 := HB58.out.size
                      have HLAST : Hid (∀ y', (sK l p z k)[jj + 1 - 1]? = some y' → jj + 1 = 0 ∨ lT z o y' = false) := fun y' hy' => by
                        rw [Nat.add_sub_cancel, HY.out] at hy'
                        injection hy' with hy'
                        subst hy'
                        exact Or.inr HL3.out
                      have hxn : x.toNat = jj + 1 := by have := HXJ.out; omega
                      have hxc : x ≤ (scap : Int) := by have := HXJ.out; omega
                      have hxm : x ≤ ((sK l p z k).length : Int) := by have := HXJ.out; omega
                      clear o0 o1 o2 o3 o4 o5 t0 t1 t2 t3 t4 t5 b67 b7 HBF HXJ ex dx hj0
                      have HIN : Hid (sK l p z (k + 1) = (sK l p z k).take (jj + 1) ++ o :: (sK l p z k).drop (jj + 1)) := by show _ = _; rw [HSK.out]; exact ins_at HO.out HSRT.out (by omega) HDR.out HLAST.out
                      have y0 := keepF HB58.out xo0
                      have y1 := keepF HB58.out xo1
                      have y2 := keepF HB58.out xo2
                      have y3 := keepF HB58.out xo3
                      have y4 := keepF HB58.out xo4
                      have y5 := keepF HB58.out xo5
                      go_wp2_with (at_builtin; refine wpList_append_own _ rfl _ _ 25 rfl w8.heap.size 28 i0 (.agg #[.int .i64 0, .int .i64 0, .int .i64 0, .int .i64 0, .int .i64 0, .bool false]) 6 48 Try.underlying25 hi_ hi0 hi1 hi2 rfl (by decide) (.slice none 0 0) 0 [] rfl (World.ownsRow_nil _ _ _ _) ⟨gs, 0, none⟩ (jj + 1) _ (odL ((sK l p z k).take (jj + 1))) rfl (by rw [odL_len, List.length_take, Nat.min_eq_left (by omega)]) ?c1 ?c2 ?c3 ?c4 ?c5 ?_)
                      case c1 =>
                        intro q u hq
                        rw [Addr.add_lit]
                        exact odL_take_cells (g := gs) (off := 0) (fun k' x' hx' i u hu => HSC.out _ HB58.out k' x' (by rw [List.getElem?_take] at hx'; split at hx'; exact hx'; cases hx') i u hu) q u hq
                      case c2 => exact odL_one _
                      case c3 => unfold maxLen; omega
                      case c4 => omega
                      case c5 => exact Nat.le_refl _
                      intro v1 w9 own9 gr9 _
                      have b89 : Below w8.heap.size w8 w9 := belG (Below.refl _ _) gr9 (fun k hk => by cases hk) (Nat.le_refl _)
                      have z9 := b89.size
                      have q0 := keepF b89 y0
                      have q1 := keepF b89 y1
                      have q2 := keepF b89 y2
                      have q3 := keepF b89 y3
                      have q4 := keepF b89 y4
                      have q5 := keepF b89 y5
                      go_wp2_with (at_builtin; refine wpList_append_own _ rfl _ _ 25 rfl w8.heap.size 28 i0 (.agg #[.int .i64 0, .int .i64 0, .int .i64 0, .int .i64 0, .int .i64 0, .bool false]) 6 48 Try.underlying25 hi_ hi0 hi1 hi2 rfl (by decide) _ _ _ rfl (own9.alloc _) ⟨w9.heap.size, 0, none⟩ 1 1 [.int .i64 o.id, .int .i64 o.own, .int .i64 o.pr, .int .i64 o.am, .int .i64 o.pl, .bool o.by] rfl rfl ?c1 ?c2 ?c3 ?c4 ?c5 ?_)
                      case c1 =>
                        intro q u hq
                        rw [Addr.add_lit, Nat.zero_add]
                        exact (blk_new w9 w9.heap.size _ _ rfl).cell (by simpa using hq)
                      case c2 => intro u hu; simp at hu; rcases hu with rfl | rfl | rfl | rfl | rfl | rfl <;> rfl
                      case c3 => unfold maxLen; omega
                      case c4 => omega
                      case c5 => simp; omega
                      intro v2 w10 own10 gr10 _
                      have b810 : Below w8.heap.size w8 w10 := belG (b89.alloc (by omega) _) gr10 (fun k hk => (World.ownsRow.lt own9 k hk).1) (by simp; omega)
                      have z10 := b810.size
                      by_cases hce : scap = (jj + 1)
                      · have hm : (sK l p z k).length = (jj + 1) := by omega
                        subst hce
                        go_wp2_with (at_builtin; refine wpList_append_own _ rfl _ _ 25 rfl w8.heap.size 28 i0 (.agg #[.int .i64 0, .int .i64 0, .int .i64 0, .int .i64 0, .int .i64 0, .bool false]) 6 48 Try.underlying25 hi_ hi0 hi1 hi2 rfl (by decide) _ _ _ rfl own10 ⟨gs, 0, none⟩ 0 _ [] rfl rfl ?c1 ?c2 ?c3 ?c4 ?c5 ?_)
                        case c1 => intro q u hq; simp at hq
                        case c2 => intro u hu; cases hu
                        case c3 => unfold maxLen; omega
                        case c4 => omega
                        case c5 => omega
                        intro v3 w11 own11 gr11 _
                        have b811 : Below w8.heap.size w8 w11 := belG b810 gr11 (fun k hk => (World.ownsRow.lt own10 k hk).1) (by omega)
                        have hfin : w11.ownsRow wt.heap.size 28 6 v3 (sK l p z (k + 1)).length (odL (sK l p z (k + 1))) := by
                          rw [HIN.out]
                          have hdn : (sK l p z k).drop (jj + 1) = [] := List.drop_eq_nil_of_le (by omega)
                          rw [hdn]
                          have e1 : ((sK l p z k).take (jj + 1) ++ [o]).length = (jj + 1) + 1 := by rw [List.length_append, List.length_take]; simp; omega
                          have e2 : odL ((sK l p z k).take (jj + 1) ++ [o]) = odL ((sK l p z k).take (jj + 1)) ++ (.int .i64 o.id :: .int .i64 o.own :: .int .i64 o.pr :: .int .i64 o.am :: .int .i64 o.pl :: .bool o.by :: []) := by rw [odL_app]; rfl
                          rw [e1, e2]
                          exact own_base (b := w8.heap.size) (by simpa using own11) (by omega)
                        go_wp2
                        exact ⟨⟨k + 1, by omega, by norm_cast, hfin, Below.trans HB5.out ((Below.trans HB58.out (b811.mono (Below.size HB58.out))).mono (Below.size HB5.out))⟩, by simp [intOf]; omega⟩
                      · go_wp2_with (at_builtin; refine wpList_append_own _ rfl _ _ 25 rfl w8.heap.size 28 i0 (.agg #[.int .i64 0, .int .i64 0, .int .i64 0, .int .i64 0, .int .i64 0, .bool false]) 6 48 Try.underlying25 hi_ hi0 hi1 hi2 rfl (by decide) _ _ _ rfl own10 ⟨gs, (jj + 1) * 6, none⟩ ((sK l p z k).length - (jj + 1)) _ (odL ((sK l p z k).drop (jj + 1))) rfl (by rw [odL_len, List.length_drop]) ?c1 ?c2 ?c3 ?c4 ?c5 ?_)
                        case c1 =>
                          intro q u hq
                          rw [Addr.add_lit]
                          have hh := odL_take_cells (g := gs) (off := (jj + 1) * 6) (S := (sK l p z k).drop (jj + 1)) (fun k' x' hx' i u hu => by
                            have h1 := HSC.out _ (Below.trans HB58.out (b810.mono (Below.size HB58.out))) ((jj + 1) + k') x' (by rw [List.getElem?_drop] at hx'; exact hx') i u hu
                            rw [show 0 + ((jj + 1) + k') * 6 + i = (jj + 1) * 6 + k' * 6 + i by omega] at h1
                            exact h1) q u hq
                          exact hh
                        case c2 => exact odL_one _
                        case c3 => unfold maxLen; omega
                        case c4 => omega
                        case c5 => omega
                        intro v3 w11 own11 gr11 _
                        have b811 : Below w8.heap.size w8 w11 := belG b810 gr11 (fun k hk => (World.ownsRow.lt own10 k hk).1) (by omega)
                        have hfin : w11.ownsRow wt.heap.size 28 6 v3 (sK l p z (k + 1)).length (odL (sK l p z (k + 1))) := by
                          rw [HIN.out]
                          have e1 : ((sK l p z k).take (jj + 1) ++ o :: (sK l p z k).drop (jj + 1)).length = (jj + 1) + 1 + ((sK l p z k).length - (jj + 1)) := by rw [List.length_append, List.length_cons, List.length_take, List.length_drop]; omega
                          have e2 : odL ((sK l p z k).take (jj + 1) ++ o :: (sK l p z k).drop (jj + 1)) = odL ((sK l p z k).take (jj + 1)) ++ (.int .i64 o.id :: .int .i64 o.own :: .int .i64 o.pr :: .int .i64 o.am :: .int .i64 o.pl :: .bool o.by :: odL ((sK l p z k).drop (jj + 1))) := by rw [odL_app, odL_cons]; rfl
                          rw [e1, e2]
                          exact own_base (b := w8.heap.size) (by simpa using own11) (by omega)
                        go_wp2
                        exact ⟨⟨k + 1, by omega, by norm_cast, hfin, Below.trans HB5.out ((Below.trans HB58.out (b811.mono (Below.size HB58.out))).mono (Below.size HB5.out))⟩, by simp [intOf]; omega⟩
                    · rw [hlt3] at HBF
                      have HL3 : Hid _ := hlt3
                      clear hlt3
                      go_wp2_with fail
                      refine wp_region_held_drew (S := (fun wx => wx.cell? ⟨w4.heap.size, 0, none⟩ = some (.int .i64 o.id) ∧ wx.cell? ⟨w4.heap.size, 1, none⟩ = some (.int .i64 o.own) ∧ wx.cell? ⟨w4.heap.size, 2, none⟩ = some (.int .i64 o.pr) ∧ wx.cell? ⟨w4.heap.size, 3, none⟩ = some (.int .i64 o.am) ∧ wx.cell? ⟨w4.heap.size, 4, none⟩ = some (.int .i64 o.pl) ∧ wx.cell? ⟨w4.heap.size, 5, none⟩ = some (.bool o.by) ∧ wx.cell? ⟨gs, jj * 6, none⟩ = some (.int .i64 y.id) ∧ wx.cell? ⟨gs, jj * 6 + 1, none⟩ = some (.int .i64 y.own) ∧ wx.cell? ⟨gs, jj * 6 + 2, none⟩ = some (.int .i64 y.pr) ∧ wx.cell? ⟨gs, jj * 6 + 3, none⟩ = some (.int .i64 y.am) ∧ wx.cell? ⟨gs, jj * 6 + 4, none⟩ = some (.int .i64 y.pl) ∧ wx.cell? ⟨gs, jj * 6 + 5, none⟩ = some (.bool y.by))) (by kernel_rfl) ⟨o0, o1, o2, o3, o4, o5, t0, t1, t2, t3, t4, t5⟩ (fun hS => ?_)
                      refine wpAnyH_take (i := 0) (v := (.int .i64 x)) rfl (by kernel_rfl) (by kernel_rfl) (by kernel_rfl) (fun _ _ _ h => h) (Or.inl ⟨by kernel_rfl, fun w hS => by obtain ⟨s0, s1, s2, s3, s4, s5, s6, s7, s8, s9, s10, s11⟩ := hS; go_simp⟩) hS ?_
                      refine wpAnyH_take (i := 1) (v := (.bool true)) rfl (by kernel_rfl) (by kernel_rfl) (by kernel_rfl) (fun _ _ _ h => h) (Or.inl ⟨by kernel_rfl, fun w hS => by obtain ⟨s0, s1, s2, s3, s4, s5, s6, s7, s8, s9, s10, s11⟩ := hS; go_simp⟩) hS ?_
                      refine wpAnyH_take (i := 2) (v := (.bool true)) rfl (by kernel_rfl) (by kernel_rfl) (by kernel_rfl) (fun _ _ _ h => h) (Or.inl ⟨by kernel_rfl, fun w hS => by obtain ⟨s0, s1, s2, s3, s4, s5, s6, s7, s8, s9, s10, s11⟩ := hS; go_simp⟩) hS ?_
                      refine wpAnyH_take (i := 3) (v := (.agg #[.int .i64 o.id, .int .i64 o.own, .int .i64 o.pr, .int .i64 o.am, .int .i64 o.pl, .bool o.by])) rfl (by kernel_rfl) (by kernel_rfl) (by kernel_rfl) (fun _ _ _ h => h) (Or.inl ⟨by kernel_rfl, fun w hS => by obtain ⟨s0, s1, s2, s3, s4, s5, s6, s7, s8, s9, s10, s11⟩ := hS; go_simp⟩) hS ?_
                      refine wpAnyH_take (i := 4) (v := (.slice (some ⟨gs, 0, none⟩) (sK l p z k).length scap)) rfl (by kernel_rfl) (by kernel_rfl) (by kernel_rfl) (fun _ _ _ h => h) (Or.inl ⟨by kernel_rfl, fun w hS => by obtain ⟨s0, s1, s2, s3, s4, s5, s6, s7, s8, s9, s10, s11⟩ := hS; go_simp⟩) hS ?_
                      refine wpAnyH_take (i := 5) (v := (.int .i64 x)) rfl (by kernel_rfl) (by kernel_rfl) (by kernel_rfl) (fun _ _ _ h => h) (Or.inl ⟨by kernel_rfl, fun w hS => by obtain ⟨s0, s1, s2, s3, s4, s5, s6, s7, s8, s9, s10, s11⟩ := hS; go_simp⟩) hS ?_
                      refine wpAnyH_take (i := 6) (v := (.int .i64 (jj : Int))) rfl (by kernel_rfl) (by kernel_rfl) (by kernel_rfl) (fun _ _ _ h => h) (Or.inl ⟨by kernel_rfl, fun w hS => by obtain ⟨s0, s1, s2, s3, s4, s5, s6, s7, s8, s9, s10, s11⟩ := hS; go_simp⟩) hS ?_
                      refine wpAnyH_take (i := 7) (v := (.pointer (some ⟨gs, jj * 6, none⟩))) rfl (by kernel_rfl) (by kernel_rfl) (by kernel_rfl) (fun _ _ _ h => h) (Or.inl ⟨by kernel_rfl, fun w hS => by obtain ⟨s0, s1, s2, s3, s4, s5, s6, s7, s8, s9, s10, s11⟩ := hS; go_simp⟩) hS ?_
                      refine wpAnyH_take (i := 8) (v := (.agg #[.int .i64 y.id, .int .i64 y.own, .int .i64 y.pr, .int .i64 y.am, .int .i64 y.pl, .bool y.by])) rfl (by kernel_rfl) (by kernel_rfl) (by kernel_rfl) (fun _ _ _ h => h) (Or.inl ⟨by kernel_rfl, fun w hS => by obtain ⟨s0, s1, s2, s3, s4, s5, s6, s7, s8, s9, s10, s11⟩ := hS; go_simp⟩) hS ?_
                      refine wpAnyH_ready (rs := [9]) (by kernel_rfl) (by simp) ?_
                      refine AllReadyH.cons rfl (fun K hK => ?_) AllReadyH.nil
                      go_simp
                      refine (HBF.out _).mono ?_
                      rintro e w7 ⟨rfl, b7⟩
                      have b67 : Below w6.heap.size w6 w7 := (Below.refl _ _).drew.trans b7
                      refine hK.out _ _ ⟨keepF b67 o0, keepF b67 o1, keepF b67 o2, keepF b67 o3, keepF b67 o4, keepF b67 o5, keepF b67 t0, keepF b67 t1, keepF b67 t2, keepF b67 t3, keepF b67 t4, keepF b67 t5⟩ (fun hS => ?_)
                      clear hK
                      refine wpAnyH_take (i := 10) (v := (.bool true)) rfl (by kernel_rfl) (by kernel_rfl) (by kernel_rfl) (fun _ _ _ h => h) (Or.inl ⟨by kernel_rfl, fun w hS => by obtain ⟨s0, s1, s2, s3, s4, s5, s6, s7, s8, s9, s10, s11⟩ := hS; go_simp⟩) hS ?_
                      refine wpAnyH_done (by kernel_rfl) ?_ _
                      clear hS
                      have HDR2 : Hid (∀ y' ∈ (sK l p z k).drop jj, lT z o y' = true) := fun y' hy' => by
                        have hjs : jj < (sK l p z k).length := by omega
                        rw [List.drop_eq_getElem_cons hjs] at hy'
                        rcases List.mem_cons.1 hy' with e | e
                        · have e2 : (sK l p z k)[jj] = y := (List.getElem?_eq_some_iff.1 HY.out).2
                          rw [e, e2]; exact HL3.out
                        · exact HDR.out y' e
                      have HB57 : Hid (Below w5.heap.size w5 w7) := Below.trans HB56.out (b67.mono h56)
                      clear o0 o1 o2 o3 o4 o5 t0 t1 t2 t3 t4 t5
                      go_wp2
                      exact ⟨⟨jj, (jj : Int), by omega, rfl, rfl, by omega, by omega, HDR2, HB57⟩, by simp [intOf]; omega⟩
                  · have hx00 : x = 0 := by omega
                    have dx : decide (0 < x) = false := decide_eq_false hj0
                    have hj00 : j = 0 := by have := HXJ.out; omega
                    subst hj00 hx00
                    go_wp2_with fail
                    go_quiet (fail)
                    rename_i nq
                    obtain ⟨w8, hw8⟩ : ∃ w8, w8 = w6.drewN nq := ⟨_, rfl⟩
                    have HB58 : Hid (Below w5.heap.size w5 w8) := by rw [hw8]; exact below_drewN HB56.out _
                    have h8 := HB58.out.size
                    rw [← hw8]
                    clear hw8 HXJ dx hj0
                    have HIN : Hid (sK l p z (k + 1) = o :: sK l p z k) := by show _ = _; rw [HSK.out]; exact ins_at HO.out HSRT.out (Nat.zero_le _) HDR.out (fun y' _ => Or.inl rfl)
                    have y0 := keepF HB58.out xo0
                    have y1 := keepF HB58.out xo1
                    have y2 := keepF HB58.out xo2
                    have y3 := keepF HB58.out xo3
                    have y4 := keepF HB58.out xo4
                    have y5 := keepF HB58.out xo5
                    go_wp2_with (at_builtin; refine wpList_append_own _ rfl _ _ 25 rfl w8.heap.size 28 i0 (.agg #[.int .i64 0, .int .i64 0, .int .i64 0, .int .i64 0, .int .i64 0, .bool false]) 6 48 Try.underlying25 hi_ hi0 hi1 hi2 rfl (by decide) (.slice none 0 0) 0 [] rfl (World.ownsRow_nil _ _ _ _) ⟨gs, 0, none⟩ 0 _ [] rfl rfl ?c1 ?c2 ?c3 ?c4 ?c5 ?_)
                    case c1 => intro q u hq; simp at hq
                    case c2 => intro u hu; cases hu
                    case c3 => unfold maxLen; omega
                    case c4 => omega
                    case c5 => exact Nat.le_refl _
                    intro v1 w9 own9 gr9 hv1
                    have hvn : v1 = .slice none 0 0 := by first | exact hv1 | exact hv1.2 ⟨rfl, rfl⟩
                    subst hvn
                    have b89 : Below w8.heap.size w8 w9 := belG (Below.refl _ _) gr9 (fun k hk => by cases hk) (Nat.le_refl _)
                    have z9 := b89.size
                    have q0 := keepF b89 y0
                    have q1 := keepF b89 y1
                    have q2 := keepF b89 y2
                    have q3 := keepF b89 y3
                    have q4 := keepF b89 y4
                    have q5 := keepF b89 y5
                    clear own9 gr9 hv1
                    go_wp2_with (at_builtin; refine wpList_append_own _ rfl _ _ 25 rfl w8.heap.size 28 i0 (.agg #[.int .i64 0, .int .i64 0, .int .i64 0, .int .i64 0, .int .i64 0, .bool false]) 6 48 Try.underlying25 hi_ hi0 hi1 hi2 rfl (by decide) (.slice none 0 0) 0 [] rfl (World.ownsRow_nil _ _ _ _) ⟨w9.heap.size, 0, none⟩ 1 1 [.int .i64 o.id, .int .i64 o.own, .int .i64 o.pr, .int .i64 o.am, .int .i64 o.pl, .bool o.by] rfl rfl ?c1 ?c2 ?c3 ?c4 ?c5 ?_)
                    case c1 =>
                      intro q u hq
                      rw [Addr.add_lit, Nat.zero_add]
                      exact (blk_new w9 w9.heap.size _ _ rfl).cell (by simpa using hq)
                    case c2 => intro u hu; simp at hu; rcases hu with rfl | rfl | rfl | rfl | rfl | rfl <;> rfl
                    case c3 => unfold maxLen; omega
                    case c4 => omega
                    case c5 => simp; omega
                    intro v2 w10 own10 gr10 _
                    have b810 : Below w8.heap.size w8 w10 := belG (b89.alloc (by omega) _) gr10 (fun k hk => by cases hk) (by simp; omega)
                    have z10 := b810.size
                    go_wp2_with (at_builtin; refine wpList_append_own _ rfl _ _ 25 rfl w8.heap.size 28 i0 (.agg #[.int .i64 0, .int .i64 0, .int .i64 0, .int .i64 0, .int .i64 0, .bool false]) 6 48 Try.underlying25 hi_ hi0 hi1 hi2 rfl (by decide) _ _ _ rfl own10 ⟨gs, 0, none⟩ (sK l p z k).length _ (odL (sK l p z k)) rfl (odL_len _) ?c1 ?c2 ?c3 ?c4 ?c5 ?_)
                    case c1 =>
                      intro q u hq
                      rw [Addr.add_lit]
                      exact odL_take_cells (g := gs) (off := 0) (fun k' x' hx' i u hu => HSC.out _ (Below.trans HB58.out (b810.mono (Below.size HB58.out))) k' x' hx' i u hu) q u hq
                    case c2 => exact odL_one _
                    case c3 => unfold maxLen; omega
                    case c4 => omega
                    case c5 => omega
                    intro v3 w11 own11 gr11 _
                    have b811 : Below w8.heap.size w8 w11 := belG b810 gr11 (fun k hk => (World.ownsRow.lt own10 k hk).1) (by omega)
                    have hfin : w11.ownsRow wt.heap.size 28 6 v3 (sK l p z (k + 1)).length (odL (sK l p z (k + 1))) := by
                      rw [HIN.out]
                      have e1 : (o :: sK l p z k).length = 1 + (sK l p z k).length := by rw [List.length_cons]; omega
                      have e2 : odL (o :: sK l p z k) = .int .i64 o.id :: .int .i64 o.own :: .int .i64 o.pr :: .int .i64 o.am :: .int .i64 o.pl :: .bool o.by :: odL (sK l p z k) := by rw [odL_cons]; rfl
                      rw [e1, e2]
                      exact own_base (b := w8.heap.size) (by simpa using own11) (by omega)
                    go_wp2
                    exact ⟨⟨k + 1, by omega, by norm_cast, hfin, Below.trans HB5.out ((Below.trans HB58.out (b811.mono (Below.size HB58.out))).mono (Below.size HB5.out))⟩, by simp [intOf]; omega⟩
      · have hkl : ¬ (k : Int) < (l.length : Int) := by omega
        have hkk : k = l.length := by omega
        have HST : Hid (sK l p z k = sT l p z) := by show _ = _; rw [hkk]; unfold sK sT; rw [List.take_length]
        have HMY : Hid (∀ y ∈ sK l p z k, 1 ≤ y.am ∧ y.am ≤ 1048576) := fun y hy => may_am (sK_may hy)
        have HNX : Hid (fT l p n (z + 1) = fT l p n z ++ fll ((sK l p z k).drop 0) n) := by show _ = _; rw [fT_next hz01, HST.out]; rfl
        have HOUT5 : Hid _ := ownB HOUT.out HB4.out
        have HBW4 : Hid (Below w.heap.size w w4) := Below.trans HBT.out (HB4.out.mono hbt)
        have hw4s := HBW4.out.size
        have HSD4 : Hid _ := HSIDE.out
        have hm64 : (sK l p z k).length ≤ 64 := by omega
        clear hkk
        go_wp2
        go_loopw [7, 15, 16] (fun ov lv iv w6 => ∃ (i : Nat) (left : Int) (fl : List Fi), i ≤ (sK l p z k).length ∧ iv = .int .i64 i ∧ lv = .int .i64 left ∧ -9223372036854775808 ≤ left ∧ left ≤ 9223372036854775807 ∧ fl.length ≤ 128 + i ∧ Hid (fT l p n (z + 1) = fl ++ fll ((sK l p z k).drop i) left) ∧ Hid (w6.ownsRow w.heap.size 84 3 ov fl.length (fiL fl)) ∧ Hid (Below w.heap.size w w6) ∧ Hid (w6.ownsRow wt.heap.size 28 6 (.slice sa (sK l p z k).length scap) (sK l p z k).length (odL (sK l p z k)))) (fun _ _ iv _ => (sK l p z k).length - (intOf iv).toNat)
        case atStart => exact ⟨0, n, fT l p n z, Nat.zero_le _, rfl, rfl, hr.1, hr.2, by omega, HNX, HOUT5, HBW4, HSD4⟩
        case round =>
          obtain ⟨w6, hw6⟩ : ∃ w6, w6 = wr := ⟨_, rfl⟩
          subst hw6
          obtain ⟨i, left, fl, hi, rfl, rfl, hl1, hl2, hfd, HFL, HOF, HBW6, HSD6⟩ := hrel
          obtain ⟨fa, fcap, rfl⟩ := own_form HOF.out
          have hw6s := HBW6.out.size
          by_cases hlt4 : i < (sK l p z k).length
          · have hil : (i : Int) < ((sK l p z k).length : Int) := by omega
            by_cases hlf : 0 < left
            · have dl : decide (0 < left) = true := decide_eq_true hlf
              obtain ⟨y, hy⟩ : ∃ y, (sK l p z k)[i]? = some y := ⟨(sK l p z k)[i], by simp [hlt4]⟩
              have ham := HMY.out y (List.mem_of_getElem? hy)
              obtain ⟨gs, rfl⟩ : ∃ gs, sa = some ⟨gs, 0, none⟩ := by
                rcases HSD6.out.2 with ⟨h1, h2⟩ | ⟨g, cap, cur, h1, _⟩
                · exfalso; omega
                · injection h1 with h1 _ _; exact ⟨g, h1⟩
              have HFN : Hid ((Value.slice fa fl.length fcap).ownBlock ≠ some gs) := fun e => by
                obtain ⟨c1, h1⟩ := own_heapF HOF.out e
                obtain ⟨c2, h2⟩ := own_heapF HSD6.out (k := gs) rfl
                rw [h1] at h2
                simp only [Option.some.injEq, Obj.cells.injEq] at h2
                exact absurd h2.2.1 (by decide)
              have tc : ∀ (j : Nat) (u : Value), (oC y)[j]? = some u → w6.cell? ⟨gs, i * 6 + j, none⟩ = some u := fun j u hu => by
                have q := World.ownsRow.cells HSD6.out (g := gs) rfl (i * 6 + j) u (odL_get _ i j y u hy hu)
                rw [Addr.add_lit, Nat.zero_add] at q
                exact q
              have t0 : w6.cell? ⟨gs, i * 6, none⟩ = some (.int .i64 y.id) := tc 0 _ rfl
              have t1 : w6.cell? ⟨gs, i * 6 + 1, none⟩ = some (.int .i64 y.own) := tc 1 _ rfl
              have t3 : w6.cell? ⟨gs, i * 6 + 3, none⟩ = some (.int .i64 y.am) := tc 3 _ rfl
              obtain ⟨mm, hmm⟩ : ∃ mm, min left y.am = mm := ⟨_, rfl⟩
              have hmm1 : 1 ≤ mm ∧ mm ≤ left := by omega
              have HST2 : Hid (fll ((sK l p z k).drop i) left = (y.id, y.own, mm) :: fll ((sK l p z k).drop (i + 1)) (left - mm)) := by
                show _ = _
                have e1 : (sK l p z k).drop i = y :: (sK l p z k).drop (i + 1) := by
                  rw [List.drop_eq_getElem_cons hlt4, (List.getElem?_eq_some_iff.1 hy).2]
                have e2 : min y.am left = mm := by omega
                rw [e1, fll, e2, if_neg (by omega)]
              have rwl : IntKind.i64.wrap (left - mm) = left - mm := by rw [IntKind.wrap_i64]; omega
              clear tc hy
              go_wp2_with fail
              refine wp_region_held_drew (S := (fun wx => wx.cell? ⟨gs, i * 6, none⟩ = some (.int .i64 y.id) ∧ wx.cell? ⟨gs, i * 6 + 1, none⟩ = some (.int .i64 y.own))) (by kernel_rfl) ⟨t0, t1⟩ (fun hS => ?_)
              refine wpAnyH_take (i := 0) (v := (.slice fa fl.length fcap)) rfl (by kernel_rfl) (by kernel_rfl) (by kernel_rfl) (fun _ _ _ h => h) (Or.inl ⟨by rfl, fun w hS => by obtain ⟨s0, s1⟩ := hS; go_simp⟩) hS ?_
              refine wpAnyH_take (i := 1) (v := (.slice (some ⟨gs, 0, none⟩) (sK l p z k).length scap)) rfl (by kernel_rfl) (by kernel_rfl) (by kernel_rfl) (fun _ _ _ h => h) (Or.inl ⟨by rfl, fun w hS => by obtain ⟨s0, s1⟩ := hS; go_simp⟩) hS ?_
              refine wpAnyH_take (i := 2) (v := (.int .i64 i)) rfl (by kernel_rfl) (by kernel_rfl) (by kernel_rfl) (fun _ _ _ h => h) (Or.inl ⟨by rfl, fun w hS => by obtain ⟨s0, s1⟩ := hS; go_simp⟩) hS ?_
              refine wpAnyH_take (i := 3) (v := (.pointer (some ⟨gs, i * 6, none⟩))) rfl (by kernel_rfl) (by kernel_rfl) (by kernel_rfl) (fun _ _ _ h => h) (Or.inl ⟨by rfl, fun w hS => by obtain ⟨s0, s1⟩ := hS; go_simp⟩) hS ?_
              refine wpAnyH_take (i := 4) (v := (.pointer (some ⟨gs, i * 6, none⟩))) rfl (by kernel_rfl) (by kernel_rfl) (by kernel_rfl) (fun _ _ _ h => h) (Or.inl ⟨by rfl, fun w hS => by obtain ⟨s0, s1⟩ := hS; go_simp⟩) hS ?_
              refine wpAnyH_take (i := 5) (v := (.int .i64 y.id)) rfl (by kernel_rfl) (by kernel_rfl) (by kernel_rfl) (fun _ _ _ h => h) (Or.inl ⟨by rfl, fun w hS => by obtain ⟨s0, s1⟩ := hS; go_simp⟩) hS ?_
              refine wpAnyH_take (i := 6) (v := (.slice (some ⟨gs, 0, none⟩) (sK l p z k).length scap)) rfl (by kernel_rfl) (by kernel_rfl) (by kernel_rfl) (fun _ _ _ h => h) (Or.inl ⟨by rfl, fun w hS => by obtain ⟨s0, s1⟩ := hS; go_simp⟩) hS ?_
              refine wpAnyH_take (i := 7) (v := (.int .i64 i)) rfl (by kernel_rfl) (by kernel_rfl) (by kernel_rfl) (fun _ _ _ h => h) (Or.inl ⟨by rfl, fun w hS => by obtain ⟨s0, s1⟩ := hS; go_simp⟩) hS ?_
              refine wpAnyH_take (i := 8) (v := (.pointer (some ⟨gs, i * 6, none⟩))) rfl (by kernel_rfl) (by kernel_rfl) (by kernel_rfl) (fun _ _ _ h => h) (Or.inl ⟨by rfl, fun w hS => by obtain ⟨s0, s1⟩ := hS; go_simp⟩) hS ?_
              refine wpAnyH_take (i := 9) (v := (.pointer (some ⟨gs, i * 6 + 1, none⟩))) rfl (by kernel_rfl) (by kernel_rfl) (by kernel_rfl) (fun _ _ _ h => h) (Or.inl ⟨by rfl, fun w hS => by obtain ⟨s0, s1⟩ := hS; go_simp⟩) hS ?_
              refine wpAnyH_take (i := 10) (v := (.int .i64 y.own)) rfl (by kernel_rfl) (by kernel_rfl) (by kernel_rfl) (fun _ _ _ h => h) (Or.inl ⟨by rfl, fun w hS => by obtain ⟨s0, s1⟩ := hS; go_simp⟩) hS ?_
              refine wpAnyH_take (i := 11) (v := (.int .i64 mm)) rfl (by kernel_rfl) (by kernel_rfl) (by kernel_rfl) (fun _ _ _ h => h) (Or.inl ⟨by rfl, fun w hS => by obtain ⟨s0, s1⟩ := hS; go_simp⟩) hS ?_
              refine wpAnyH_take (i := 12) (v := (.agg #[.int .i64 y.id, .int .i64 y.own, .int .i64 mm])) rfl (by kernel_rfl) (by kernel_rfl) (by kernel_rfl) (fun _ _ _ h => h) (Or.inl ⟨by rfl, fun w hS => by obtain ⟨s0, s1⟩ := hS; go_simp⟩) hS ?_
              refine wpAnyH_ready (rs := [13]) (by kernel_rfl) (by simp) ?_
              refine AllReadyH.cons rfl (fun K hK => ?_) AllReadyH.nil
              go_simp
              have bd : Below w6.heap.size w6 (w6.drew.alloc (.cells #[.int .i64 y.id, .int .i64 y.own, .int .i64 mm] 84)) := (Below.refl _ _).drew.alloc (Nat.le_refl _) _
              refine hK.out _ _ ⟨keepF bd t0, keepF bd t1⟩ (fun hS => ?_)
              clear hK
              refine wpAnyH_ready (rs := [14]) (by kernel_rfl) (by simp) ?_
              refine AllReadyH.cons rfl (fun K hK => ?_) AllReadyH.nil
              refine step_ifF rfl ?_
              refine wp_append_own _ (.tmp 118) (.tmp 131) 48 (by kernel_rfl) w.heap.size 84 iF (.agg #[.int .i64 0, .int .i64 0, .int .i64 0]) 3 24 Try.underlying48 hf_ hf0 hf1 hf2 rfl (by decide) (.slice fa fl.length fcap) fl.length (fiL fl) (by kernel_rfl) ((ownB HOF.out (Below.refl _ _).drew).alloc _) ⟨w6.heap.size, 0, none⟩ 1 1 [.int .i64 y.id, .int .i64 y.own, .int .i64 mm] (by kernel_rfl) rfl ?_ ?_ ?_ ?_ ?_ ?_
              · intro q u hq
                rw [Addr.add_lit, Nat.zero_add]
                exact (blk_new w6.drew w6.heap.size _ _ rfl).cell (by simpa using hq)
              · intro u hu
                simp at hu
                rcases hu with rfl | rfl | rfl <;> rfl
              · unfold maxLen; omega
              · omega
              · simp; omega
              intro v' w7 own7 gr7 _
              have bw7 : Below w.heap.size w w7 := belG ((HBW6.out.drew).alloc (by show w.heap.size ≤ w6.heap.size; omega) _) gr7 (fun k hk => (World.ownsRow.lt HOF.out k hk).1) (by simp; omega)
              have hne7 : ∀ q, (Value.slice fa fl.length fcap).ownBlock = some q → q ≠ gs := fun q hq e => HFN.out (by rw [← e]; exact hq)
              have cs7 : ∀ (a : Addr) (u : Value), a.block = gs → w6.cell? a = some u → w7.cell? a = some u := fun a u ha hu => by
                have hlt := World.block_lt_of_cell? w6 _ hu
                have h1 : (w6.drew.alloc (.cells #[.int .i64 y.id, .int .i64 y.own, .int .i64 mm] 84)).cell? a = some u := keepF bd hu
                have h2 := gr7.block a.block (by simp; omega) (fun e => hne7 _ e.symm ha)
                exact (World.cell?_of_block h2).trans h1
              refine hK.out _ _ ⟨cs7 _ _ rfl t0, cs7 _ _ rfl t1⟩ (fun hS => ?_)
              clear hK
              refine wpAnyH_take (i := 15) (v := v') rfl (by kernel_rfl) (by kernel_rfl) (by kernel_rfl) (fun _ _ _ h => h) (Or.inl ⟨by rfl, fun w hS => by go_simp⟩) hS ?_
              refine wpAnyH_done (by kernel_rfl) ?_ _
              clear hS
              have HFL2 : Hid (fT l p n (z + 1) = (fl ++ [(y.id, y.own, mm)]) ++ fll ((sK l p z k).drop (i + 1)) (left - mm)) := by show _ = _; rw [HFL.out, HST2.out, List.append_assoc]; rfl
              have HOF7 : Hid (w7.ownsRow w.heap.size 84 3 v' (fl ++ [(y.id, y.own, mm)]).length (fiL (fl ++ [(y.id, y.own, mm)]))) := by
                have e1 : (fl ++ [(y.id, y.own, mm)]).length = fl.length + 1 := by rw [List.length_append]; rfl
                have e2 : fiL (fl ++ [(y.id, y.own, mm)]) = fiL fl ++ [.int .i64 y.id, .int .i64 y.own, .int .i64 mm] := by rw [fiL_app]; rfl
                show _
                rw [e1, e2]; exact own7
              have HSD7 : Hid (w7.ownsRow wt.heap.size 28 6 (.slice (some ⟨gs, 0, none⟩) (sK l p z k).length scap) (sK l p z k).length (odL (sK l p z k))) := ((ownB HSD6.out (Below.refl _ _).drew).alloc (.cells #[.int .i64 y.id, .int .i64 y.own, .int .i64 mm] 84)).kept gr7 (Or.inr (fun e => HFN.out e.symm))
              have HBW7 : Hid _ := bw7
              clear own7 gr7 bw7 cs7 hne7 t0 t1 t3 bd
              go_wp2
              exact ⟨⟨i + 1, left - mm, fl ++ [(y.id, y.own, mm)], by omega, by norm_cast, rfl, by omega, by omega, by rw [List.length_append]; simp; omega, HFL2, HOF7, HBW7, HSD7⟩, by simp [intOf]; omega⟩
            · have dl : decide (0 < left) = false := decide_eq_false hlf
              have HFN2 : Hid (fT l p n (z + 1) = fl) := by show _ = _; rw [HFL.out, fll_noneF (by omega), List.append_nil]
              have HOF2 : Hid _ := HOF.out
              go_wp2
              exact ⟨⟨z + 1, by omega, by omega, by norm_cast, by rw [HFN2.out]; exact HOF2.out, HBW6⟩, by simp [intOf]; omega⟩
          · have hil : ¬ (i : Int) < ((sK l p z k).length : Int) := by omega
            have HFN2 : Hid (fT l p n (z + 1) = fl) := by show _ = _; rw [HFL.out, List.drop_eq_nil_of_le (by omega)]; simp [fll]
            have HOF2 : Hid _ := HOF.out
            go_wp2
            exact ⟨⟨z + 1, by omega, by omega, by norm_cast, by rw [HFN2.out]; exact HOF2.out, HBW6⟩, by simp [intOf]; omega⟩
end Go.Proofs.Ytlhfdgeknpmdfaa

namespace Go.Proofs.Ytlhfdgeknpmdfaa
open Go.Shelf Go.RowKit Go.Lib Go.Sort
set_option linter.unusedSimpArgs false
set_option linter.unusedVariables false
variable {base p : Nat} {v : Value} {B : Bo}

set_option maxRecDepth 100000 in
/-- The rest of a row moved one to the left. -/
theorem own_shift {w : World} {g cap n : Nat} {l : List Od} (h : w.ownsRow base 28 6 (.slice (some ⟨g, 0, none⟩) n cap) n (odL l)) (hl : l.length = n) (i : Nat) (hi : i < n) (ad : Addr) (c : Nat) (ty : TypeId) (hn : n ≤ 1000000)
    (had : ad = ⟨g, (i + 1) * 6, none⟩ ∨ n - (i + 1) = 0) :
    ∃ W, (Builtin.append_ #[25, 25] ty #[.slice (some ⟨g, 0, none⟩) i cap, .slice (some ad) (n - (i + 1)) c]).run Try.prog w = .ok (.slice (some ⟨g, 0, none⟩) (n - 1) cap) W ∧ W.ownsRow base 28 6 (.slice (some ⟨g, 0, none⟩) n cap) n (odL (l.eraseIdx i ++ l.drop (n - 1))) ∧ Off g w W := by
  obtain ⟨i0, hi0, hz0, hz1, hz2⟩ := info_parts infoO
  rcases h.2 with ⟨h1, _⟩ | ⟨g', cap', cur, h1, hb, hB, hnc, hcm, hcs, ht⟩
  · cases h1
  · injection h1 with h1 h2 h3
    injection h1 with h1
    injection h1 with h1
    subst h1 h3
    have hB' : w.heap[g]? = some (.cells cur 28 (0, 0)) := hB
    have hle : n * 6 ≤ cap * 6 := Nat.mul_le_mul_right _ hnc
    have hdl : (l.drop (i + 1)).length = n - (i + 1) := by rw [List.length_drop, hl]
    have hcells := h.cells (g := g) rfl
    have hrun := run_append_room (P := Try.prog) w 25 ty 28 i0 Try.underlying25 hi0 g i cap cur hB' ad (n - (i + 1)) c (odL (l.drop (i + 1))) (by rw [odL_len, hdl, hz1]) (by
      intro j u hj
      have hjl : j < (n - (i + 1)) * 6 := by have := (List.getElem?_eq_some_iff.1 hj).1; rw [odL_len, hdl] at this; exact this
      rcases had with e | e
      · subst e
        have hj2 : (odL l)[(i + 1) * 6 + j]? = some u := by
          have e2 : odL l = odL (l.take (i + 1)) ++ odL (l.drop (i + 1)) := by rw [← odL_app, List.take_append_drop]
          rw [e2, List.getElem?_append_right (by rw [odL_len, List.length_take]; omega), odL_len, List.length_take, Nat.min_eq_left (by omega), Nat.add_sub_cancel_left]
          exact hj
        have := hcells _ u hj2
        rw [Addr.add_lit, Nat.zero_add] at this
        rw [Addr.add_lit]
        exact this
      · omega) (odL_one _) (by omega) (by rw [odL_len, hdl, hz1, hcs]; omega)
    rw [show i + (n - (i + 1)) = n - 1 by omega, hz1] at hrun
    refine ⟨_, hrun, ⟨?_, Or.inr ⟨g, cap, _, rfl, hb, setRow_heap w g cur _ _ (0, 0) hB', hnc, hcm, ?_, ?_⟩⟩, (Off.refl _ _).setRow _⟩
    · rw [odL_len, List.length_append, List.length_eraseIdx_of_lt (by omega), List.length_drop, hl]
      congr 1; omega
    · simp only [List.size_toArray, List.length_append, List.length_take, List.length_drop, Array.length_toList, odL_len, hdl, hl]
      omega
    · show List.take (n * 6) (cur.toList.take (i * 6) ++ odL (l.drop (i + 1)) ++ cur.toList.drop (i * 6 + (odL (l.drop (i + 1))).length)) = _
      have t1 : cur.toList.take (i * 6) = odL (l.take i) := by
        have : (cur.toList.take (n * 6)).take (i * 6) = odL (l.take i) := by
          rw [ht]
          conv => lhs; rw [← List.take_append_drop i l, odL_app]
          rw [List.take_left' (by rw [odL_len, List.length_take]; congr 1; omega)]
        rwa [List.take_take, Nat.min_eq_left (by omega)] at this
      have t2 : (cur.toList.drop ((n - 1) * 6)).take 6 = odL (l.drop (n - 1)) := by
        have : (cur.toList.take (n * 6)).drop ((n - 1) * 6) = odL (l.drop (n - 1)) := by
          rw [ht]
          conv => lhs; rw [← List.take_append_drop (n - 1) l, odL_app]
          rw [List.drop_left' (by rw [odL_len, List.length_take]; congr 1; omega)]
        rw [List.drop_take] at this
        rw [← this]
        congr 1; omega
      have e6 : i * 6 + (odL (l.drop (i + 1))).length = (n - 1) * 6 := by rw [odL_len, hdl]; omega
      rw [e6, t1, ← odL_app, ← List.eraseIdx_eq_take_drop_succ, List.take_append, List.take_of_length_le (by rw [odL_len, List.length_eraseIdx_of_lt (by omega)]; omega)]
      rw [odL_len, List.length_eraseIdx_of_lt (by omega), hl, show n * 6 - (n - 1) * 6 = 6 by omega, t2, odL_app]
/-- What owned tells: where, and why not. -/
def Bo.ownd (B : Bo) (id own : Int) : Int := if fnd B.os id < 0 then 3 else if (gtB B.os id).1.own = own then 0 else 80

set_option maxHeartbeats 2000000 in
set_option maxRecDepth 100000 in
theorem owned_none (x y : Int) (w : World) (h : Bk w base p v B) (hf : fnd B.os x = -1) : Calls Try.prog 37 #[.pointer (some ⟨p, 0, none⟩), .int .i64 x, .int .i64 y] w fun e w' => e = .returned (.tuple #[.int .i64 0, .int .i64 3]) ∧ Below w.heap.size w w' := by
  have hm := made_calls w h
  have HF : Hid _ := find_calls x w h
  rw [hf] at HF
  clear h hf
  go_enter Try.func37, Try.ntmps37
  go_wp2_with fail
  refine hm.mono ?_
  rintro e w1 ⟨rfl, rfl⟩
  go_wp2_with fail
  refine Calls.mono HF.out ?_
  rintro e w2 ⟨rfl, b2⟩
  go_wp2
  go_ret2
  exact ⟨rfl, b2⟩
set_option maxHeartbeats 2000000 in
set_option maxRecDepth 100000 in
theorem owned_some (x y : Int) (w : World) (h : Bk w base p v B) (i : Nat) (o : Od) (hf : fnd B.os x = i) (ho : B.os[i]? = some o) (r : Int × Int) (hr : r = if o.own = y then ((i : Int), 0) else (0, 80)) : Calls Try.prog 37 #[.pointer (some ⟨p, 0, none⟩), .int .i64 x, .int .i64 y] w fun e w' => e = .returned (.tuple #[.int .i64 r.1, .int .i64 r.2]) ∧ Below w.heap.size w w' := by
  have hm := made_calls w h
  have HF : Hid _ := find_calls x w h
  rw [hf] at HF
  have h4 : i < B.os.length := (List.getElem?_eq_some_iff.1 ho).1
  have HO : Hid _ := ho
  have HH : Hid _ := h
  obtain ⟨oc, ocap, rfl⟩ := own_form h.row
  have hi0 : ¬ (i : Int) < 0 := by omega
  have hi1 : (i : Int) < (B.os.length : Int) := by omega
  by_cases hy : o.own = y
  · rw [if_pos hy] at hr
    subst hr
    have hq : (o.own == y) = true := by simpa using hy
    clear h hf ho hy
    go_enter Try.func37, Try.ntmps37
    go_wp2_with fail
    refine hm.mono ?_
    rintro e w1 ⟨rfl, rfl⟩
    go_wp2_with fail
    refine Calls.mono HF.out ?_
    rintro e w2 ⟨rfl, b2⟩
    have K2 := Bk.below HH.out b2
    have c1 : w2.cell? ⟨p, 1, none⟩ = some (.slice oc B.os.length ocap) := K2.blk.cell rfl
    obtain ⟨pp, cap, hv, hcs⟩ := K2.ods
    injection hv with hv1 hv2 hv3
    clear hv2
    subst hv1 hv3
    rcases hcs with hnil | ⟨gb, off, hp, hcs⟩
    · exfalso; rw [hnil] at h4; simp at h4
    subst hp
    obtain ⟨d0, d1, d2, d3, d4, d5⟩ := Ods.six hcs HO.out
    clear hcs
    go_wp2
    go_ret2
    exact ⟨rfl, b2⟩
  · rw [if_neg hy] at hr
    subst hr
    have hq : (o.own == y) = false := by simpa using hy
    clear h hf ho
    go_enter Try.func37, Try.ntmps37
    go_wp2_with fail
    refine hm.mono ?_
    rintro e w1 ⟨rfl, rfl⟩
    go_wp2_with fail
    refine Calls.mono HF.out ?_
    rintro e w2 ⟨rfl, b2⟩
    have K2 := Bk.below HH.out b2
    have c1 : w2.cell? ⟨p, 1, none⟩ = some (.slice oc B.os.length ocap) := K2.blk.cell rfl
    obtain ⟨pp, cap, hv, hcs⟩ := K2.ods
    injection hv with hv1 hv2 hv3
    clear hv2
    subst hv1 hv3
    rcases hcs with hnil | ⟨gb, off, hp, hcs⟩
    · exfalso; rw [hnil] at h4; simp at h4
    subst hp
    obtain ⟨d0, d1, d2, d3, d4, d5⟩ := Ods.six hcs HO.out
    clear hcs
    go_wp2
    go_ret2
    exact ⟨rfl, b2⟩

end Go.Proofs.Ytlhfdgeknpmdfaa

namespace Go.Proofs.Ytlhfdgeknpmdfaa
open Go.Shelf Go.RowKit Go.Lib Go.Sort
set_option linter.unusedSimpArgs false
set_option linter.unusedVariables false
variable {base p : Nat} {v : Value} {B : Bo}

set_option maxHeartbeats 8000000 in
set_option maxRecDepth 100000 in
theorem delete_calls (g cap i m : Nat) (l : List Od) (w : World) (hl : l.length = m + 1) (h : w.ownsRow base 28 6 (.slice (some ⟨g, 0, none⟩) (m + 1) cap) (m + 1) (odL l)) (hi : i < m + 1) (hn : m + 1 ≤ 1000000) :
    Calls Try.prog 56 #[.slice (some ⟨g, 0, none⟩) (m + 1) cap, .int .i64 i, .int .i64 ((i : Int) + 1)] w fun e w' => e = .returned (.slice (some ⟨g, 0, none⟩) m cap) ∧ w'.ownsRow base 28 6 (.slice (some ⟨g, 0, none⟩) m cap) (l.eraseIdx i).length (odL (l.eraseIdx i)) ∧ Off g w w' := by
  have hcap := own_cap h
  have hcm : cap ≤ 9223372036854775807 := by
    rcases h.2 with ⟨q, _⟩ | ⟨q1, q2, q3, q4, _, _, _, q5, _⟩
    · cases q
    · injection q4 with _ _ q6
      unfold maxLen at q5
      omega
  have z1 : (i : Int) ≤ (i : Int) + 1 := by omega
  have z2 : (i : Int) + 1 ≤ (m : Int) + 1 := by omega
  have z3 : (m : Int) + 1 ≤ (cap : Int) := by omega
  have z4 : (0 : Int) ≤ (i : Int) + 1 := by omega
  have z5 : ((i : Int) == (i : Int) + 1) = false := by rw [beq_eq_false_iff_ne]; omega
  have z6 : ¬ (i : Int) = (i : Int) + 1 := by omega
  have z7 : ((i : Int) + 1).toNat = i + 1 := by omega
  have z8 : (i : Int) ≤ (cap : Int) := by omega
  by_cases hce : cap = i + 1
  · obtain ⟨W, hrun, own1, of1⟩ := own_shift (w := w.drew) h hl i hi ⟨g, 0, none⟩ (cap - (i + 1)) 25 hn (by right; omega)
    rw [Nat.add_sub_cancel] at hrun own1
    obtain ⟨W2, hcl, own2, of2⟩ := own_clear own1 (by rw [List.length_append, List.length_eraseIdx_of_lt (by omega), List.length_drop]; omega) m (by omega) 0
    have hcl2 := fun c' => hcl c'
    rw [show m + 1 - m = 1 by omega] at hcl2
    have HF : Hid (W2.ownsRow base 28 6 (.slice (some ⟨g, 0, none⟩) m cap) (l.eraseIdx i).length (odL (l.eraseIdx i)) ∧ Off g w W2) := by
      refine ⟨?_, ((Off.refl g w).drew.trans of1).trans of2⟩
      have e1 : (l.eraseIdx i).length = m := by rw [List.length_eraseIdx_of_lt (by omega)]; omega
      rw [e1]
      rw [List.take_left' e1] at own2
      exact own2
    have HCE : Hid _ := hce
    have HLL : Hid _ := hl
    clear own1 own2 of1 of2 hcl h hce
    go_enter Try.func56, Try.ntmps56
    go_wp2_with fail
    refine wp_region_any (by kernel_rfl) ?_
    change wpAny _ _ _ _ _ _ _ (World.drew _)
    refine wpAny_take (i := 0) (v := (.slice (some ⟨g, 0, none⟩) (m + 1) cap)) rfl (by kernel_rfl) (by kernel_rfl) (by kernel_rfl) (fun _ _ _ h => h) (Or.inl ⟨by rfl, fun w => by go_simp⟩) ?_
    refine wpAny_take (i := 1) (v := (.int .i64 i)) rfl (by kernel_rfl) (by kernel_rfl) (by kernel_rfl) (fun _ _ _ h => h) (Or.inl ⟨by rfl, fun w => by go_simp⟩) ?_
    refine wpAny_take (i := 2) (v := (.slice (some ⟨g, 0, none⟩) i cap)) rfl (by kernel_rfl) (by kernel_rfl) (by kernel_rfl) (fun _ _ _ h => h) (Or.inl ⟨by rfl, fun w => by go_simp; first | done | (intro h; omega) | (rw [if_neg (by omega)])⟩) ?_
    refine wpAny_take (i := 3) (v := (.slice (some ⟨g, 0, none⟩) (m + 1) cap)) rfl (by kernel_rfl) (by kernel_rfl) (by kernel_rfl) (fun _ _ _ h => h) (Or.inl ⟨by rfl, fun w => by go_simp⟩) ?_
    refine wpAny_take (i := 4) (v := (.int .i64 ((i : Int) + 1))) rfl (by kernel_rfl) (by kernel_rfl) (by kernel_rfl) (fun _ _ _ h => h) (Or.inl ⟨by rfl, fun w => by go_simp⟩) ?_
    refine wpAny_take (i := 5) (v := (.slice (some ⟨g, 0, none⟩) (m + 1 - (i + 1)) (cap - (i + 1)))) rfl (by kernel_rfl) (by kernel_rfl) (by kernel_rfl) (fun _ _ _ h => h) (Or.inl ⟨by rfl, fun w => by go_simp; have hce := HCE.out; first | done | exact hce | (intro h; omega) | omega | (rw [if_neg hce])⟩) ?_
    refine wpAny_ready (rs := [6]) (by kernel_rfl) (by simp) ?_
    refine AllReady.cons rfl (fun K hK => ?_) AllReady.nil
    refine wp_append_run (.tmp 22) (.tmp 25) 25 rfl _ _ rfl rfl hrun ?_
    refine hK _ _ ?_
    clear hK
    refine wpAny_ready (rs := [7]) (by kernel_rfl) (by simp) ?_
    refine AllReady.cons rfl (fun K hK => ?_) AllReady.nil
    go_simp
    refine hK _ _ ?_
    clear hK
    refine wpAny_done (by kernel_rfl) ?_ _
    have hq1 : (m : Int) ≤ (m : Int) + 1 := by omega
    have hq2 : (m : Int) + 1 ≤ (cap : Int) := by omega
    have hq3 : ¬ cap = m := by omega
    have hq4 : ((m : Int) + 1).toNat = m + 1 := by omega
    have hq5 : m + 1 - m = 1 := by omega
    clear hrun
    go_wp2
    go_ret
    exact ⟨rfl, HF.out⟩
  · obtain ⟨W, hrun, own1, of1⟩ := own_shift (w := w.drew) h hl i hi ⟨g, (i + 1) * 6, none⟩ (cap - (i + 1)) 25 hn (by left; rfl)
    rw [Nat.add_sub_cancel] at hrun own1
    obtain ⟨W2, hcl, own2, of2⟩ := own_clear own1 (by rw [List.length_append, List.length_eraseIdx_of_lt (by omega), List.length_drop]; omega) m (by omega) 0
    have hcl2 := fun c' => hcl c'
    rw [show m + 1 - m = 1 by omega] at hcl2
    have HF : Hid (W2.ownsRow base 28 6 (.slice (some ⟨g, 0, none⟩) m cap) (l.eraseIdx i).length (odL (l.eraseIdx i)) ∧ Off g w W2) := by
      refine ⟨?_, ((Off.refl g w).drew.trans of1).trans of2⟩
      have e1 : (l.eraseIdx i).length = m := by rw [List.length_eraseIdx_of_lt (by omega)]; omega
      rw [e1]
      rw [List.take_left' e1] at own2
      exact own2
    have HCE : Hid _ := hce
    have HLL : Hid _ := hl
    clear own1 own2 of1 of2 hcl h hce
    go_enter Try.func56, Try.ntmps56
    go_wp2_with fail
    refine wp_region_any (by kernel_rfl) ?_
    change wpAny _ _ _ _ _ _ _ (World.drew _)
    refine wpAny_take (i := 0) (v := (.slice (some ⟨g, 0, none⟩) (m + 1) cap)) rfl (by kernel_rfl) (by kernel_rfl) (by kernel_rfl) (fun _ _ _ h => h) (Or.inl ⟨by rfl, fun w => by go_simp⟩) ?_
    refine wpAny_take (i := 1) (v := (.int .i64 i)) rfl (by kernel_rfl) (by kernel_rfl) (by kernel_rfl) (fun _ _ _ h => h) (Or.inl ⟨by rfl, fun w => by go_simp⟩) ?_
    refine wpAny_take (i := 2) (v := (.slice (some ⟨g, 0, none⟩) i cap)) rfl (by kernel_rfl) (by kernel_rfl) (by kernel_rfl) (fun _ _ _ h => h) (Or.inl ⟨by rfl, fun w => by go_simp; first | done | (intro h; omega) | (rw [if_neg (by omega)])⟩) ?_
    refine wpAny_take (i := 3) (v := (.slice (some ⟨g, 0, none⟩) (m + 1) cap)) rfl (by kernel_rfl) (by kernel_rfl) (by kernel_rfl) (fun _ _ _ h => h) (Or.inl ⟨by rfl, fun w => by go_simp⟩) ?_
    refine wpAny_take (i := 4) (v := (.int .i64 ((i : Int) + 1))) rfl (by kernel_rfl) (by kernel_rfl) (by kernel_rfl) (fun _ _ _ h => h) (Or.inl ⟨by rfl, fun w => by go_simp⟩) ?_
    refine wpAny_take (i := 5) (v := (.slice (some ⟨g, (i + 1) * 6, none⟩) (m + 1 - (i + 1)) (cap - (i + 1)))) rfl (by kernel_rfl) (by kernel_rfl) (by kernel_rfl) (fun _ _ _ h => h) (Or.inl ⟨by rfl, fun w => by go_simp; have hce := HCE.out; first | done | exact hce | (intro h; omega) | omega | (rw [if_neg hce])⟩) ?_
    refine wpAny_ready (rs := [6]) (by kernel_rfl) (by simp) ?_
    refine AllReady.cons rfl (fun K hK => ?_) AllReady.nil
    refine wp_append_run (.tmp 22) (.tmp 25) 25 rfl _ _ rfl rfl hrun ?_
    refine hK _ _ ?_
    clear hK
    refine wpAny_ready (rs := [7]) (by kernel_rfl) (by simp) ?_
    refine AllReady.cons rfl (fun K hK => ?_) AllReady.nil
    go_simp
    refine hK _ _ ?_
    clear hK
    refine wpAny_done (by kernel_rfl) ?_ _
    have hq1 : (m : Int) ≤ (m : Int) + 1 := by omega
    have hq2 : (m : Int) + 1 ≤ (cap : Int) := by omega
    have hq3 : ¬ cap = m := by omega
    have hq4 : ((m : Int) + 1).toNat = m + 1 := by omega
    have hq5 : m + 1 - m = 1 := by omega
    clear hrun
    go_wp2
    go_ret
    exact ⟨rfl, HF.out⟩
end Go.Proofs.Ytlhfdgeknpmdfaa

namespace Go.Proofs.Ytlhfdgeknpmdfaa
open Go.Shelf Go.RowKit Go.Lib Go.Sort
set_option linter.unusedSimpArgs false
set_option linter.unusedVariables false
variable {base p : Nat} {v : Value} {B : Bo}

def Bo.rem (B : Bo) (i : Nat) : Bo := ⟨B.nx, B.os.eraseIdx i⟩
theorem BInv.rem (h : BInv B) (i : Nat) : BInv (B.rem i) := by
  have hs : (B.rem i).os.Sublist B.os := List.eraseIdx_sublist ..
  refine ⟨h.nx1, h.nx2, Nat.le_trans hs.length_le h.len, fun o ho => h.may o (hs.subset ho), h.ids.sublist hs, h.pls.sublist hs, fun o ho => h.pl o (hs.subset ho)⟩

set_option maxHeartbeats 4000000 in
set_option maxRecDepth 100000 in
theorem remove_calls (i : Nat) (w : World) (h : Bk w base p v B) (hi : i < B.os.length) : Calls Try.prog 40 #[.pointer (some ⟨p, 0, none⟩), .int .i64 i] w fun e w' => e = .returned (.tuple #[]) ∧ ∃ v', Bst w w' base p v v' (B.rem i) := by
  have hlen := h.inv.len
  obtain ⟨m, hm⟩ : ∃ m, B.os.length = m + 1 := ⟨B.os.length - 1, by omega⟩
  have hrow := h.row
  rw [hm] at hrow
  rcases h.row.2 with ⟨_, h0⟩ | ⟨g, cap, cur, hv, hgb, hBl, hnc, hcm, hcs, ht⟩
  · exfalso; omega
  rw [hm] at hv
  subst hv
  have hgp : g ≠ p := fun e => h.ne (by rw [e]; rfl)
  have HD : Hid _ := delete_calls g cap i m B.os w hm hrow (by omega) (by omega)
  have c1 : w.cell? ⟨p, 1, none⟩ = some (.slice (some ⟨g, 0, none⟩) (m + 1) cap) := h.blk.cell rfl
  have HH : Hid _ := h
  have hie : (i : Int) < 9223372036854775807 := by omega
  have HM : Hid _ := hm
  clear h hrow hBl hcs ht hm
  go_enter Try.func40, Try.ntmps40
  go_wp2_with fail
  refine Calls.mono HD.out ?_
  rintro e w1 ⟨rfl, own1, of1⟩
  have P1 : Blk w1 p #[.int .i64 B.nx, .slice (some ⟨g, 0, none⟩) (m + 1) cap] 54 := HH.out.blk.off of1 (fun e => hgp e.symm)
  have c2 : w1.cell? ⟨p, 1, none⟩ = some (.slice (some ⟨g, 0, none⟩) (m + 1) cap) := P1.cell rfl
  have f2 : w1.frozen? ⟨p, 1, none⟩ = false := P1.frozen
  have HF : Hid (Bst w (w1.setCell ⟨p, 1, none⟩ (.slice (some ⟨g, 0, none⟩) m cap)) base p (.slice (some ⟨g, 0, none⟩) (m + 1) cap) (.slice (some ⟨g, 0, none⟩) m cap) (B.rem i)) := by
    have hl : (B.rem i).os.length = m := by
      show (B.os.eraseIdx i).length = m
      rw [List.length_eraseIdx_of_lt hi, HM.out]; rfl
    have O1 : Ofb p (.slice (some ⟨g, 0, none⟩) (m + 1) cap) w w1 := ⟨of1.os, of1.tape, of1.output, of1.size, fun k hk h1 h2 => of1.block k hk (fun e => h2 (by rw [e]; rfl))⟩
    refine ⟨⟨P1.set 1 _, ?_, HH.out.le, by simpa [Value.ownBlock] using hgp, HH.out.inv.rem i⟩, ofb_cell O1 (q := ⟨p, 1, none⟩) (Or.inl rfl) _, fun k hk => Or.inl hk⟩
    exact World.ownsRow.kept own1 (row := some p) ⟨rfl, rfl, rfl, by rw [World.size_setCell]; exact Nat.le_refl _, fun j hj hjp => Below.heap_setCell _ _ _ _ (by intro e; exact hjp (by rw [e]))⟩ (Or.inr (by simpa [Value.ownBlock] using hgp))
  clear own1 of1 P1
  go_wp2
  go_end0
  exact ⟨rfl, _, HF.out⟩

def Bo.cancel (B : Bo) (x y : Int) : Int × Bo := if fnd B.os x < 0 then (3, B) else if (gtB B.os x).1.own = y then (0, B.rem (fnd B.os x).toNat) else (80, B)
set_option maxHeartbeats 4000000 in
set_option maxRecDepth 100000 in
theorem cancel_calls (x y : Int) (w : World) (h : Bk w base p v B) (r : Int × Bo) (hr : B.cancel x y = r) : Calls Try.prog 16 #[.pointer (some ⟨p, 0, none⟩), .int .i64 x, .int .i64 y] w fun e w' => e = .returned (.int .i64 r.1) ∧ ∃ v', Bst w w' base p v v' r.2 := by
  unfold Bo.cancel at hr
  have HH : Hid _ := h
  rcases fnd_cases B.os x with ⟨f1, f2⟩ | ⟨i, o, f1, f2, f3, f4⟩
  · rw [if_pos (by rw [f1]; decide)] at hr
    subst hr
    have HO : Hid _ := owned_none x y w h f1
    clear h f1 f2
    go_enter Try.func16, Try.ntmps16
    go_wp2_with fail
    refine Calls.mono HO.out ?_
    rintro e w1 ⟨rfl, b1⟩
    go_wp2
    go_ret
    exact ⟨rfl, v, Bst.same HH.out b1⟩
  · rw [if_neg (by rw [f1]; omega), gtB_some f1 f2 f3, f1, Int.toNat_natCast] at hr
    by_cases hy : o.own = y
    · rw [if_pos hy] at hr
      subst hr
      have HO : Hid _ := owned_some x y w h i o f1 f2 (i, 0) (by rw [if_pos hy])
      have HR : Hid _ := fun (w1 : World) (b1 : Below w.heap.size w w1) => remove_calls i w1 (h.below b1) f4
      clear h f1 f2 f3 hy
      go_enter Try.func16, Try.ntmps16
      go_wp2_with fail
      refine Calls.mono HO.out ?_
      rintro e w1 ⟨rfl, b1⟩
      go_wp2_with fail
      refine Calls.mono (HR.out w1 b1) ?_
      rintro e w2 ⟨rfl, v2, S2⟩
      go_wp2
      go_ret
      exact ⟨rfl, v2, Bst.first b1 S2⟩
    · rw [if_neg hy] at hr
      subst hr
      have HO : Hid _ := owned_some x y w h i o f1 f2 (0, 80) (by rw [if_neg hy])
      clear h f1 f2 f3 hy
      go_enter Try.func16, Try.ntmps16
      go_wp2_with fail
      refine Calls.mono HO.out ?_
      rintro e w1 ⟨rfl, b1⟩
      go_wp2
      go_ret
      exact ⟨rfl, v, Bst.same HH.out b1⟩
end Go.Proofs.Ytlhfdgeknpmdfaa
