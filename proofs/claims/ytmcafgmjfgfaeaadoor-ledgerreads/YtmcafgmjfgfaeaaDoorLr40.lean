/- Arrays of four numbers, and accounts: whether they are the same. -/
import Derived.Test.YtmcafgmjfgfaeaaDoorLr17
import Derived.ChangeKeysEq
import Derived.Test.YtmcafgmjfgfaeaaDoorLr01
import Derived.Deep.QuietTactic
import Derived.BigQuiet
namespace Go.Proofs.YtmcafgmjfgfaeaaDoor
open Go.RowKit
set_option linter.unusedSimpArgs false
set_option linter.unusedVariables false

def arr4 (a b c d : Int) : Array Value := #[.int .i64 a, .int .i64 b, .int .i64 c, .int .i64 d]
theorem eq4 (w : World) (k : Nat) (a b c d a' b' c' d' : Int) : (Op.equalIn (k + 2) 63 (.agg (arr4 a b c d)) (.agg (arr4 a' b' c' d'))).run Tryd.prog w = .ok (a == a' && (b == b' && (c == c' && d == d'))) w := by
  have hc : Tryd.prog.cellsOf 3 = 1 := by kernel_rfl
  obtain ⟨i, hi⟩ : ∃ i, Tryd.prog.info? 3 = some i := Option.isSome_iff_exists.1 (by kernel_rfl)
  have h1 := run_equalIn_array w (k + 1) (arr4 a b c d) (arr4 a' b' c' d') Tryd.underlying63 hi
  rw [h1, hc, show List.range 4 = [0, 1, 2, 3] from rfl]
  have p0 : ∀ a b c d, (part 3 (arr4 a b c d) 0).run Tryd.prog w = .ok (.int .i64 a) w := fun _ _ _ _ => by kernel_rfl
  have p1 : ∀ a b c d, (part 3 (arr4 a b c d) 1).run Tryd.prog w = .ok (.int .i64 b) w := fun _ _ _ _ => by kernel_rfl
  have p2 : ∀ a b c d, (part 3 (arr4 a b c d) 2).run Tryd.prog w = .ok (.int .i64 c) w := fun _ _ _ _ => by kernel_rfl
  have p3 : ∀ a b c d, (part 3 (arr4 a b c d) 3).run Tryd.prog w = .ok (.int .i64 d) w := fun _ _ _ _ => by kernel_rfl
  have hq : ∀ x y : Int, (Op.equalIn (k + 1) 3 (.int .i64 x) (.int .i64 y)).run Tryd.prog w = .ok (x == y) w := fun x y => run_equalIn_int w k 3 .i64 .i64 x y Tryd.underlying3
  cases h0 : (a == a') <;> cases h1 : (b == b') <;> cases h2 : (c == c') <;> cases h3 : (d == d') <;> simp [Op.eqItems, p0, p1, p2, p3, hq, h0, h1, h2, h3]
theorem eq4l (w : World) (a b c d a' b' c' d' : Int) : (Op.equalIn 10000 63 (.agg #[.int .i64 a, .int .i64 b, .int .i64 c, .int .i64 d]) (.agg #[.int .i64 a', .int .i64 b', .int .i64 c', .int .i64 d'])).run Tryd.prog w = .ok (a == a' && (b == b' && (c == c' && d == d'))) w := eq4 w 9998 a b c d a' b' c' d'
attribute [go_sem] eq4l
end Go.Proofs.YtmcafgmjfgfaeaaDoor

namespace Go.Proofs.YtmcafgmjfgfaeaaDoor
open Go.RowKit
set_option linter.unusedSimpArgs false
set_option linter.unusedVariables false

def accEq (k k' : Kt) : Bool := k.n 0 == k'.n 0 && (k.n 1 == k'.n 1 && ((k.n 2 == k'.n 2 && (k.n 3 == k'.n 3 && (k.n 4 == k'.n 4 && k.n 5 == k'.n 5))) && (k.n 6 == k'.n 6 && (k.n 7 == k'.n 7 && (k.n 8 == k'.n 8 && k.n 9 == k'.n 9)))))
theorem fieldsAcc : (Tryd.prog.fieldsOf 65).toList.map (fun f => (f.name, f.type, f.offset)) = [("Cash", 3, 0), ("Held", 3, 1), ("Goods", 63, 2), ("Locked", 63, 6)] := by kernel_rfl
theorem partAcc2 (k : Kt) (w : World) : (part 63 (accA k) 2).run Tryd.prog w = .ok (.agg (arr4 (k.n 2) (k.n 3) (k.n 4) (k.n 5))) w := by kernel_rfl
theorem partAcc6 (k : Kt) (w : World) : (part 63 (accA k) 6).run Tryd.prog w = .ok (.agg (arr4 (k.n 6) (k.n 7) (k.n 8) (k.n 9))) w := by kernel_rfl
theorem partAcc0 (k : Kt) (w : World) : (part 3 (accA k) 0).run Tryd.prog w = .ok (.int .i64 (k.n 0)) w := by kernel_rfl
theorem partAcc1 (k : Kt) (w : World) : (part 3 (accA k) 1).run Tryd.prog w = .ok (.int .i64 (k.n 1)) w := by kernel_rfl
theorem list4L {α : Type} {l : List α} (h : l.length = 4) : ∃ a b c d, l = [a, b, c, d] := by
  match l, h with
  | [a, b, c, d], _ => exact ⟨a, b, c, d, rfl⟩
theorem eqAcc (w : World) (k k' : Kt) : (Op.equalIn 10000 65 (.agg (accA k)) (.agg (accA k'))).run Tryd.prog w = .ok (accEq k k') w := by
  have h1 := run_equalIn_agg (P := Tryd.prog) w 9999 65 (accA k) (accA k') (by kernel_rfl) (by kernel_rfl)
  rw [h1]
  have hf := fieldsAcc
  generalize (Tryd.prog.fieldsOf 65).toList = l at hf
  obtain ⟨f0, f1, f2, f3, rfl⟩ := list4L (l := l) (by have := congrArg List.length hf; simpa using this)
  · simp only [List.map_cons, List.map_nil, List.cons.injEq, Prod.mk.injEq, and_true] at hf
    obtain ⟨⟨a1, a2, a3⟩, ⟨b1, b2, b3⟩, ⟨c1, c2, c3⟩, d1, d2, d3⟩ := hf
    have q : ∀ x y : Int, (Op.equalIn 9999 3 (.int .i64 x) (.int .i64 y)).run Tryd.prog w = .ok (x == y) w := fun x y => run_equalIn_int (P := Tryd.prog) w 9998 3 .i64 .i64 x y Tryd.underlying3
    have r : ∀ a b c d a' b' c' d' : Int, (Op.equalIn 9999 63 (.agg (arr4 a b c d)) (.agg (arr4 a' b' c' d'))).run Tryd.prog w = .ok (a == a' && (b == b' && (c == c' && d == d'))) w := fun a b c d a' b' c' d' => eq4 w 9997 a b c d a' b' c' d'
    simp only [Op.eqFields, a1, a2, a3, b1, b2, b3, c1, c2, c3, d1, d2, d3, Sem.run_bind, Sem.run_ite, partAcc0, partAcc1, partAcc2, partAcc6, Result.andThen_ok, q, r, Sem.run_pure]
    unfold accEq
    generalize (k.n 2 == k'.n 2 && (k.n 3 == k'.n 3 && (k.n 4 == k'.n 4 && k.n 5 == k'.n 5))) = G
    generalize (k.n 6 == k'.n 6 && (k.n 7 == k'.n 7 && (k.n 8 == k'.n 8 && k.n 9 == k'.n 9))) = M
    cases k.n 0 == k'.n 0 <;> cases k.n 1 == k'.n 1 <;> cases G <;> cases M <;> simp
theorem accEq_self (k : Kt) : accEq k k = true := by unfold accEq; simp
end Go.Proofs.YtmcafgmjfgfaeaaDoor

namespace Go.Proofs.YtmcafgmjfgfaeaaDoor
open Go.RowKit
set_option linter.unusedVariables false
set_option linter.unusedSimpArgs false

/-- The worlds in which all that was there is as it was. -/
structure BW (w0 : World) where
  w : World
  h : Below w0.heap.size w0 w
theorem bw_some (w0 : World) : Nonempty (BW w0) := ⟨⟨w0, Below.refl _ _⟩⟩

theorem BW.call {P : Program} {w0 : World} (x : BW w0) {f : FuncId} {args : Array Value} {v : Value} (h : Calls P f args x.w fun e w' => e = .returned v ∧ Below x.w.heap.size x.w w') :
    Calls P f args x.w fun e w'' => e = .returned v ∧ ∃ y : BW w0, w'' = y.w :=
  h.mono fun _ w' ⟨he, hb⟩ => ⟨he, ⟨w', x.h.trans (hb.mono x.h.size)⟩, rfl⟩
theorem BW.cell {w0 : World} (x : BW w0) {p : Addr} {v : Value} (h : w0.cell? p = some v) : x.w.cell? p = some v := (x.h.cell (World.block_lt_of_cell? w0 _ h)).trans h

theorem wp_region_below {P : Program} {id : Nat} {Q : Exit → Act → World → Prop} {a : Act} {w : World} {l : List Oper} (hm : P.follows .mixedOrders = true) (hB : Region.lexB .any l.toArray = true)
    (h : wpQuiet P l.toArray (fun w' => ∃ x : BW w, w' = x.w) (fun a' => ∀ w', (∃ x : BW w, w' = x.w) → Q .normal a' w') l a) : (Code.region id l.toArray true).wp P Q a w :=
  wp_region_quiet (C := fun w' => ∃ x : BW w, w' = x.w) hm hB ⟨⟨w.drew, (Below.refl _ _).drew⟩, rfl⟩ (by simpa using h)
end Go.Proofs.YtmcafgmjfgfaeaaDoor
