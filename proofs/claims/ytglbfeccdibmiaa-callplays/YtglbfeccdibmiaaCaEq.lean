/- Orders held against each other. -/
import Derived.Test.YtglbfeccdibmiaaCaI
import Derived.ChangeKeysEq
namespace Go.Proofs.Ytglbfeccdibmiaa
open Go.RowKit
set_option linter.unusedSimpArgs false
set_option linter.unusedVariables false

theorem fieldsO : (Try.prog.fieldsOf 31).toList.map (fun f => (f.name, f.type, f.offset)) = [("Id", 3, 0), ("Owner", 3, 1), ("Price", 3, 2), ("Amount", 3, 3), ("Place", 3, 4), ("Buys", 4, 5)] := by kernel_rfl
/-- The same, field by field. -/
def oEq (a b : Od) : Bool := a.id == b.id && (a.own == b.own && (a.pr == b.pr && (a.am == b.am && (a.pl == b.pl && a.by == b.by))))
theorem oEq_iff (a b : Od) : oEq a b = true ↔ a = b := by
  obtain ⟨a1, a2, a3, a4, a5, a6⟩ := a
  obtain ⟨b1, b2, b3, b4, b5, b6⟩ := b
  unfold oEq
  simp [Od.id, Od.own, Od.pr, Od.am, Od.pl, Od.by]
theorem oEq_self (a : Od) : oEq a a = true := (oEq_iff a a).2 rfl
theorem list6e {α : Type} {l : List α} (h : l.length = 6) : ∃ a b c d e f, l = [a, b, c, d, e, f] := by
  match l, h with
  | [a, b, c, d, e, f], _ => exact ⟨a, b, c, d, e, f, rfl⟩
theorem eqOI (w : World) (a b : Od) : (Op.equal 31 (.agg #[.int .i64 a.id, .int .i64 a.own, .int .i64 a.pr, .int .i64 a.am, .int .i64 a.pl, .bool a.by]) (.agg #[.int .i64 b.id, .int .i64 b.own, .int .i64 b.pr, .int .i64 b.am, .int .i64 b.pl, .bool b.by])).run Try.prog w = .ok (oEq a b) w := by
  have h1 : (Op.equal 31 (.agg #[.int .i64 a.id, .int .i64 a.own, .int .i64 a.pr, .int .i64 a.am, .int .i64 a.pl, .bool a.by]) (.agg #[.int .i64 b.id, .int .i64 b.own, .int .i64 b.pr, .int .i64 b.am, .int .i64 b.pl, .bool b.by])).run Try.prog w = (Op.eqFields 9999 #[.int .i64 a.id, .int .i64 a.own, .int .i64 a.pr, .int .i64 a.am, .int .i64 a.pl, .bool a.by] #[.int .i64 b.id, .int .i64 b.own, .int .i64 b.pr, .int .i64 b.am, .int .i64 b.pl, .bool b.by] (Try.prog.fieldsOf 31).toList).run Try.prog w :=
    run_equalIn_agg w 9999 31 _ _ (by kernel_rfl) (by kernel_rfl)
  rw [h1]
  have hf := fieldsO
  generalize (Try.prog.fieldsOf 31).toList = l at hf
  obtain ⟨f0, f1, f2, f3, f4, f5, rfl⟩ := list6e (l := l) (by have := congrArg List.length hf; simpa using this)
  simp only [List.map_cons, List.map_nil, List.cons.injEq, Prod.mk.injEq, and_true] at hf
  obtain ⟨⟨a1, a2, a3⟩, ⟨b1, b2, b3⟩, ⟨c1, c2, c3⟩, ⟨d1, d2, d3⟩, ⟨e1, e2, e3⟩, g1, g2, g3⟩ := hf
  have q : ∀ x y : Int, (Op.equalIn 9999 3 (.int .i64 x) (.int .i64 y)).run Try.prog w = .ok (x == y) w := fun x y => run_equalIn_int (P := Try.prog) w 9998 3 .i64 .i64 x y Try.underlying3
  have r : ∀ x y : Bool, (Op.equalIn 9999 4 (.bool x) (.bool y)).run Try.prog w = .ok (x == y) w := fun x y => by cases x <;> cases y <;> kernel_rfl
  have p0 : ∀ o : Od, (part 3 #[.int .i64 o.id, .int .i64 o.own, .int .i64 o.pr, .int .i64 o.am, .int .i64 o.pl, .bool o.by] 0).run Try.prog w = .ok (.int .i64 o.id) w := fun p => run_part_plain w (by kernel_rfl) rfl
  have p1 : ∀ o : Od, (part 3 #[.int .i64 o.id, .int .i64 o.own, .int .i64 o.pr, .int .i64 o.am, .int .i64 o.pl, .bool o.by] 1).run Try.prog w = .ok (.int .i64 o.own) w := fun p => run_part_plain w (by kernel_rfl) rfl
  have p2 : ∀ o : Od, (part 3 #[.int .i64 o.id, .int .i64 o.own, .int .i64 o.pr, .int .i64 o.am, .int .i64 o.pl, .bool o.by] 2).run Try.prog w = .ok (.int .i64 o.pr) w := fun p => run_part_plain w (by kernel_rfl) rfl
  have p3 : ∀ o : Od, (part 3 #[.int .i64 o.id, .int .i64 o.own, .int .i64 o.pr, .int .i64 o.am, .int .i64 o.pl, .bool o.by] 3).run Try.prog w = .ok (.int .i64 o.am) w := fun p => run_part_plain w (by kernel_rfl) rfl
  have p4 : ∀ o : Od, (part 3 #[.int .i64 o.id, .int .i64 o.own, .int .i64 o.pr, .int .i64 o.am, .int .i64 o.pl, .bool o.by] 4).run Try.prog w = .ok (.int .i64 o.pl) w := fun p => run_part_plain w (by kernel_rfl) rfl
  have p5 : ∀ o : Od, (part 4 #[.int .i64 o.id, .int .i64 o.own, .int .i64 o.pr, .int .i64 o.am, .int .i64 o.pl, .bool o.by] 5).run Try.prog w = .ok (.bool o.by) w := fun p => run_part_plain w (by kernel_rfl) rfl
  simp only [Op.eqFields, a1, a2, a3, b1, b2, b3, c1, c2, c3, d1, d2, d3, e1, e2, e3, g1, g2, g3, Sem.run_bind, Sem.run_ite, p0, p1, p2, p3, p4, p5, Result.andThen_ok, q, r, Sem.run_pure]
  unfold oEq
  cases a.id == b.id <;> cases a.own == b.own <;> cases a.pr == b.pr <;> cases a.am == b.am <;> cases a.pl == b.pl <;> cases a.by == b.by <;> simp
theorem eqO (w : World) (a b : Od) : (binOp .eql 31 (.agg #[.int .i64 a.id, .int .i64 a.own, .int .i64 a.pr, .int .i64 a.am, .int .i64 a.pl, .bool a.by]) (.agg #[.int .i64 b.id, .int .i64 b.own, .int .i64 b.pr, .int .i64 b.am, .int .i64 b.pl, .bool b.by])).run Try.prog w = .ok (.bool (oEq a b)) w := by
  simp only [binOp]
  simp [eqOI w a b]
/-- An order of a book is found by its Id. -/
theorem gtB_mem {B : Bo} (h : BInv B) {o : Od} (ho : o ∈ B.os) : gtB B.os o.id = (o, true) := by
  rcases fnd_cases B.os o.id with ⟨f1, f2⟩ | ⟨i, q, f1, f2, f3, f4⟩
  · exact absurd rfl (f2 o ho)
  · rw [gtB_some f1 f2 f3]
    have key : q = o := by
      have hq := List.mem_of_getElem? f2
      have : ∀ l : List Od, l.Pairwise (fun a b => a.id ≠ b.id) → q ∈ l → o ∈ l → q = o := by
        intro l
        induction l with
        | nil => intro _ h; cases h
        | cons x l ih =>
          intro hp h1 h2
          rw [List.pairwise_cons] at hp
          rcases List.mem_cons.1 h1 with e1 | e1 <;> rcases List.mem_cons.1 h2 with e2 | e2
          · rw [e1, e2]
          · exact absurd (by rw [← e1]; exact f3) (hp.1 o e2)
          · exact absurd (by rw [← e2]; exact f3.symm) (hp.1 q e1)
          · exact ih hp.2 e1 e2
      exact this B.os h.ids hq ho
    rw [key]
end Go.Proofs.Ytglbfeccdibmiaa
