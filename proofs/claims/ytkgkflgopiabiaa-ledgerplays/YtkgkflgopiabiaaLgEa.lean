/- Whether accounts are the same. -/
import Derived.Test.YtkgkflgopiabiaaLgQ
namespace Go.Proofs.Ytkgkflgopiabiaa
open Go.RowKit
set_option linter.unusedSimpArgs false
set_option linter.unusedVariables false

def accEq (k k' : Kt) : Bool := k.n 0 == k'.n 0 && (k.n 1 == k'.n 1 && ((k.n 2 == k'.n 2 && (k.n 3 == k'.n 3 && (k.n 4 == k'.n 4 && k.n 5 == k'.n 5))) && (k.n 6 == k'.n 6 && (k.n 7 == k'.n 7 && (k.n 8 == k'.n 8 && k.n 9 == k'.n 9)))))
theorem fieldsAcc : (Try.prog.fieldsOf 47).toList.map (fun f => (f.name, f.type, f.offset)) = [("Cash", 3, 0), ("Held", 3, 1), ("Goods", 41, 2), ("Locked", 41, 6)] := by kernel_rfl
theorem partAcc2 (k : Kt) (w : World) : (part 41 (accA k) 2).run Try.prog w = .ok (.agg (arr4 (k.n 2) (k.n 3) (k.n 4) (k.n 5))) w := by kernel_rfl
theorem partAcc6 (k : Kt) (w : World) : (part 41 (accA k) 6).run Try.prog w = .ok (.agg (arr4 (k.n 6) (k.n 7) (k.n 8) (k.n 9))) w := by kernel_rfl
theorem partAcc0 (k : Kt) (w : World) : (part 3 (accA k) 0).run Try.prog w = .ok (.int .i64 (k.n 0)) w := by kernel_rfl
theorem partAcc1 (k : Kt) (w : World) : (part 3 (accA k) 1).run Try.prog w = .ok (.int .i64 (k.n 1)) w := by kernel_rfl
theorem list4L {α : Type} {l : List α} (h : l.length = 4) : ∃ a b c d, l = [a, b, c, d] := by
  match l, h with
  | [a, b, c, d], _ => exact ⟨a, b, c, d, rfl⟩
theorem eqAcc (w : World) (k k' : Kt) : (Op.equalIn 10000 47 (.agg (accA k)) (.agg (accA k'))).run Try.prog w = .ok (accEq k k') w := by
  have h1 := run_equalIn_agg (P := Try.prog) w 9999 47 (accA k) (accA k') (by kernel_rfl) (by kernel_rfl)
  rw [h1]
  have hf := fieldsAcc
  generalize (Try.prog.fieldsOf 47).toList = l at hf
  obtain ⟨f0, f1, f2, f3, rfl⟩ := list4L (l := l) (by have := congrArg List.length hf; simpa using this)
  · simp only [List.map_cons, List.map_nil, List.cons.injEq, Prod.mk.injEq, and_true] at hf
    obtain ⟨⟨a1, a2, a3⟩, ⟨b1, b2, b3⟩, ⟨c1, c2, c3⟩, d1, d2, d3⟩ := hf
    have q : ∀ x y : Int, (Op.equalIn 9999 3 (.int .i64 x) (.int .i64 y)).run Try.prog w = .ok (x == y) w := fun x y => run_equalIn_int (P := Try.prog) w 9998 3 .i64 .i64 x y Try.underlying3
    have r : ∀ a b c d a' b' c' d' : Int, (Op.equalIn 9999 41 (.agg (arr4 a b c d)) (.agg (arr4 a' b' c' d'))).run Try.prog w = .ok (a == a' && (b == b' && (c == c' && d == d'))) w := fun a b c d a' b' c' d' => eq4 w 9997 a b c d a' b' c' d'
    simp only [Op.eqFields, a1, a2, a3, b1, b2, b3, c1, c2, c3, d1, d2, d3, Sem.run_bind, Sem.run_ite, partAcc0, partAcc1, partAcc2, partAcc6, Result.andThen_ok, q, r, Sem.run_pure]
    unfold accEq
    generalize (k.n 2 == k'.n 2 && (k.n 3 == k'.n 3 && (k.n 4 == k'.n 4 && k.n 5 == k'.n 5))) = G
    generalize (k.n 6 == k'.n 6 && (k.n 7 == k'.n 7 && (k.n 8 == k'.n 8 && k.n 9 == k'.n 9))) = M
    cases k.n 0 == k'.n 0 <;> cases k.n 1 == k'.n 1 <;> cases G <;> cases M <;> simp
theorem accEq_self (k : Kt) : accEq k k = true := by unfold accEq; simp
end Go.Proofs.Ytkgkflgopiabiaa
