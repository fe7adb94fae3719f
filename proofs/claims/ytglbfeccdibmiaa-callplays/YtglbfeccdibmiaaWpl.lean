/- A struct in a block: loaded and stored whole. No program is named here. -/
import Derived.Test.YtglbfeccdibmiaaMem
import Derived.Handy
import Derived.WalkLawsBesides
namespace Go.Proofs.Ytglbfeccdibmiaa
open Go.RowKit
set_option linter.unusedSimpArgs false
set_option linter.unusedVariables false
/-- The walk's step at a load of a whole row. -/
theorem rd_row {P : Program} {ops : Array Oper} {rest : List Oper} {dst : Option Tmp} {type : TypeId} {pos : String} {after : Array Edge} {a : Act} {w : World} {Q : Exit → Act → World → Prop} {ty : TypeId} {x : Operand}
    {k : Nat} {cs : Array Value} {t : TypeId} {d : TypeDesc} (X : Blk w k cs t) (hu : P.underlying ty = some d) (hd : d.isRow = true) (hi : (P.info? ty).map (·.size) = some cs.size)
    (hx : a.eval x = .pointer (some ⟨k, 0, none⟩)) (h : wpList P ops Q rest (a.put dst (.agg cs)) w) :
    wpList P ops Q ({ dst := dst, op := .load ty x, type := type, pos := pos, after := after, guard := none } :: rest) a w :=
  wpList_load_row (o := { dst := dst, op := .load ty x, type := type, pos := pos, after := after, guard := none }) rfl ty x rfl k hx t cs (0, 0) d X hu (by cases d <;> simp_all) hi h
/-- The walk's step at a store of a whole row: the world behind it has a name. -/
theorem st_row {P : Program} {ops : Array Oper} {rest : List Oper} {dst : Option Tmp} {type : TypeId} {pos : String} {after : Array Edge} {a : Act} {w : World} {Q : Exit → Act → World → Prop} {ty : TypeId} {x y : Operand}
    {k : Nat} {cs cs' : Array Value} {t : TypeId} (X : Blk w k cs t) (hi : (P.info? ty).map (·.size) = some cs'.size) (hs : cs.size = cs'.size) (h1 : cs'.all (·.oneCell') = true) {W : World} (hW : w.setRow k cs' = W)
    (hx : a.eval x = .pointer (some ⟨k, 0, none⟩)) (hy : a.eval y = .agg cs') (h : wpList P ops Q rest (a.put dst undef) W) :
    wpList P ops Q ({ dst := dst, op := .store ty x y, type := type, pos := pos, after := after, guard := none } :: rest) a w := by
  subst hW
  exact wpList_store_row (o := { dst := dst, op := .store ty x y, type := type, pos := pos, after := after, guard := none }) rfl ty x y rfl k cs' hx hy t cs X hi hs h1 h
/-- A struct's block behind a store of the whole. -/
theorem setRow_named {w : World} {k : Nat} {cs : Array Value} {t : TypeId} (X : Blk w k cs t) (cs' : Array Value) : ∃ W, w.setRow k cs' = W ∧ Blk W k cs' t ∧ (∀ j, j ≠ k → W.heap[j]? = w.heap[j]?) ∧ W.heap.size = w.heap.size ∧ W.os = w.os ∧ W.tape = w.tape ∧ W.output = w.output :=
  ⟨_, rfl, X.setRow cs', fun j hj => setRow_other w k j cs' hj, by simp, rfl, rfl, rfl⟩
theorem below_row {w0 w W : World} {k B : Nat} {cs' : Array Value} (h : Below B w0 w) (hW : w.setRow k cs' = W) (hk : B ≤ k) : Below B w0 W := hW ▸ below_setRow h k cs' hk
theorem blk_row {w W : World} {k j : Nat} {cs cs' : Array Value} {t : TypeId} (X : Blk w j cs t) (hW : w.setRow k cs' = W) (hk : j ≠ k) : Blk W j cs t := hW ▸ X.setRowOther cs' hk
end Go.Proofs.Ytglbfeccdibmiaa
