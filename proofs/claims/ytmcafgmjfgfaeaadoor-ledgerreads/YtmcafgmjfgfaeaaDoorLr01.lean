/- Blocks of cells; all but one block as it was. No program is named here. -/
import Derived.WalkKit
import Derived.ProofKit
import Derived.Deep.WholeRow
import Derived.Deep.MidRow
namespace Go.Proofs.YtmcafgmjfgfaeaaDoor
open Go.RowKit
set_option linter.unusedSimpArgs false
set_option linter.unusedVariables false

/-- A block: its cells. -/
def Blk (w : World) (k : Nat) (cs : Array Value) (t : TypeId) : Prop := w.heap[k]? = some (.cells cs t)
theorem Blk.lt {w : World} {k : Nat} {cs : Array Value} {t : TypeId} (h : Blk w k cs t) : k < w.heap.size := by
  rcases Nat.lt_or_ge k w.heap.size with h1 | h1
  · exact h1
  · unfold Blk at h; rw [Array.getElem?_eq_none h1] at h; cases h
theorem Blk.cell {w : World} {k o : Nat} {cs : Array Value} {t : TypeId} {v : Value} (h : Blk w k cs t) (hv : cs[o]? = some v) : w.cell? ⟨k, o, none⟩ = some v := by
  rw [cell_of_row w k o cs t (0, 0) h]; exact hv
theorem Blk.frozen {w : World} {k o : Nat} {cs : Array Value} {t : TypeId} (h : Blk w k cs t) : w.frozen? ⟨k, o, none⟩ = false := frozen_of_row w k o cs t h
theorem Blk.set {w : World} {k : Nat} {cs : Array Value} {t : TypeId} (h : Blk w k cs t) (o : Nat) (v : Value) : Blk (w.setCell ⟨k, o, none⟩ v) k (cs.setIfInBounds o v) t := heap_setCell_same w k o cs t v h
theorem Blk.setOther {w : World} {k : Nat} {cs : Array Value} {t : TypeId} (h : Blk w k cs t) {p : Addr} (hp : k ≠ p.block) (v : Value) : Blk (w.setCell p v) k cs t :=
  (heap_setCell_other w p k v hp).trans h
theorem Blk.below {w w' : World} {k : Nat} {cs : Array Value} {t : TypeId} (h : Blk w k cs t) (hb : Below w.heap.size w w') : Blk w' k cs t := (hb.block k h.lt).trans h
theorem blk_new (w : World) (k : Nat) (cs : Array Value) (t : TypeId) (hk : k = w.heap.size) : Blk (w.alloc (.cells cs t)) k cs t := by subst hk; exact heap_alloc_new _ _
theorem Blk.alloc {w : World} {k : Nat} {cs : Array Value} {t : TypeId} (h : Blk w k cs t) (o : Obj) : Blk (w.alloc o) k cs t := h.below ((Below.refl _ _).alloc (Nat.le_refl _) o)
theorem Blk.drew {w : World} {k : Nat} {cs : Array Value} {t : TypeId} (h : Blk w k cs t) : Blk w.drew k cs t := h

/-- A whole row stored through a pointer. -/
theorem Blk.store {P : Program} {w : World} {k : Nat} {cs : Array Value} {t : TypeId} (h : Blk w k cs t) {ty : TypeId} (cs' : Array Value) (hi : (P.info? ty).map (·.size) = some cs'.size) (hs : cs.size = cs'.size) (h1 : cs'.all (·.oneCell') = true) :
    (Instr.storeAt ty (.pointer (some ⟨k, 0, none⟩)) (.agg cs')).run P w = .ok () (w.setRow k cs') := by
  simp only [Instr.storeAt, Instr.sureAddr, Sem.run_bind, Sem.run_pure, Result.andThen_ok, run_storeVar_row (P := P) w k t ty cs cs' h hi hs h1]
theorem Blk.setRow {w : World} {k : Nat} {cs : Array Value} {t : TypeId} (h : Blk w k cs t) (cs' : Array Value) : Blk (w.setRow k cs') k cs' t := setRow_heap w k cs cs' t (0, 0) h
theorem Blk.setRowOther {w : World} {k j : Nat} {cs : Array Value} {t : TypeId} (h : Blk w k cs t) (cs' : Array Value) (hj : k ≠ j) : Blk (w.setRow j cs') k cs t := (setRow_other w j k cs' hj).trans h
theorem below_setRow {B : Nat} {w0 w : World} (h : Below B w0 w) (k : Nat) (cs : Array Value) (hk : B ≤ k) : Below B w0 (w.setRow k cs) :=
  h.trans ⟨rfl, rfl, rfl, by simp, fun j hj => setRow_other w k j cs (by omega)⟩


/-- All but block b is as it was: the streams, what was there. -/
structure Off (b : Nat) (w w' : World) : Prop where
  os : w'.os = w.os
  tape : w'.tape = w.tape
  output : w'.output = w.output
  size : w.heap.size ≤ w'.heap.size
  block : ∀ k, k < w.heap.size → k ≠ b → w'.heap[k]? = w.heap[k]?

theorem Off.refl (b : Nat) (w : World) : Off b w w := ⟨rfl, rfl, rfl, Nat.le_refl _, fun _ _ _ => rfl⟩
theorem Off.trans {b : Nat} {x y z : World} (h : Off b x y) (k : Off b y z) : Off b x z :=
  ⟨k.os.trans h.os, k.tape.trans h.tape, k.output.trans h.output, Nat.le_trans h.size k.size, fun i hi hb => (k.block i (Nat.lt_of_lt_of_le hi h.size) hb).trans (h.block i hi hb)⟩
theorem Off.of_below {b : Nat} {w w' : World} (h : Below w.heap.size w w') : Off b w w' := ⟨h.os, h.tape, h.output, h.size, fun k hk _ => h.block k hk⟩
theorem Off.drew {b : Nat} {x w : World} (h : Off b x w) : Off b x w.drew := ⟨h.os, h.tape, h.output, h.size, h.block⟩
theorem Off.alloc {b : Nat} {x w : World} (h : Off b x w) (o : Obj) : Off b x (w.alloc o) :=
  h.trans (Off.of_below ((Below.refl _ _).alloc (Nat.le_refl _) o))
theorem Off.setCell {b : Nat} {x w : World} (h : Off b x w) {p : Addr} (hp : p.block = b) (u : Value) : Off b x (w.setCell p u) :=
  h.trans ⟨rfl, rfl, rfl, by simp [World.setCell], fun k _ hb => Below.heap_setCell _ _ _ _ (by omega)⟩
theorem Off.cell {b : Nat} {w w' : World} (h : Off b w w') {p : Addr} (hp : p.block < w.heap.size) (hb : p.block ≠ b) : w'.cell? p = w.cell? p := World.cell?_of_block (w := w) (h.block p.block hp hb)
theorem Off.frozen {b : Nat} {w w' : World} (h : Off b w w') {p : Addr} (hp : p.block < w.heap.size) (hb : p.block ≠ b) : w'.frozen? p = w.frozen? p := World.frozen?_of_block (w := w) (h.block p.block hp hb)
/-- The reader's block is the call's own: below it nothing has turned. -/
theorem Off.below {b B : Nat} {w0 w w' : World} (h : Off b w w') (hb : B ≤ b) (k : Below B w0 w) (hB : B ≤ w.heap.size) : Below B w0 w' :=
  k.trans ⟨h.os, h.tape, h.output, h.size, fun i hi => h.block i (by omega) (by omega)⟩
theorem Blk.off {w w' : World} {k b : Nat} {cs : Array Value} {t : TypeId} (h : Blk w k cs t) (ho : Off b w w') (hk : k ≠ b) : Blk w' k cs t := (ho.block k h.lt hk).trans h
theorem Off.setRow {b : Nat} {x w : World} (h : Off b x w) (cs : Array Value) : Off b x (w.setRow b cs) :=
  h.trans ⟨rfl, rfl, rfl, by simp, fun k _ hb => setRow_other w b k cs hb⟩
end Go.Proofs.YtmcafgmjfgfaeaaDoor
