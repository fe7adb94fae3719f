/- Blocks of cells; all but one block as it was. No program is named here. -/
import Derived.OrdersHeld
import Derived.WalkKit
import Derived.ProofKit
import Derived.Deep.WholeRow
import Derived.Deep.MidRow
import Derived.Handy
import Derived.WalkLawsBesides
import Derived.Deep.QuietTactic
import Derived.BigQuiet
import Derived.Test.YtpekfpfhonechaaGreatRows
import Derived.OpenShut
import Derived.Deep.Slices
import Derived.Deep.Strs
import Derived.SizedLaws
import Derived.Deep.RegionHeldLaw
import Derived.Deep.RegionHeld3
namespace Go.Proofs.YtpekfpfhonechaaGreat
open Go.RowKit
set_option linter.unusedSimpArgs false
set_option linter.unusedVariables false
theorem tkH {P : Program} {ops : Array Oper} {Q : Exit → Act → World → Prop} {md : Region.Mode} {S : World → Prop} {i : Nat} {oi : Oper} {v : Value} {fuel : Nat} {listed : Array Bool} {a : Act} {w : World} (hi : ops[i]? = some oi)
    (hy : ∀ w, S w → (execOp a.eval oi).run P w = .ok (.value v) w) (hS : S w) (h : wpAnyH P md ops Q S fuel (listed.setIfInBounds i true) (a.put oi.dst v) w)
    (hw : Region.wanted oi (yielded ops a.tmps) = true := by kernel_rfl) (hs : Region.noSelect ops = true := by kernel_rfl) (hf : Region.free md ops listed i = true := by kernel_rfl) (hr : (Region.ready md ops listed).contains i = true := by kernel_rfl)
    (hQ : ∀ c a w, Q (.panic c) (a.put oi.dst v) w → Q (.panic c) a w := by exact fun _ _ _ h => h) : wpAnyH P md ops Q S (fuel + 1) listed a w :=
  wpAnyH_take hi hs hf hr hQ (Or.inl ⟨hw, hy⟩) hS h
theorem tkG {P : Program} {ops : Array Oper} {Q : Exit → Act → World → Prop} {md : Region.Mode} {S : World → Prop} {i : Nat} {oi : Oper} {v : Value} {fuel : Nat} {listed : Array Bool} {a : Act} {w : World} (hi : ops[i]? = some oi)
    (hS : S w) (h : wpAnyH P md ops Q S fuel (listed.setIfInBounds i true) (a.put oi.dst v) w) (hy : ∀ w, S w → (execOp a.eval oi).run P w = .ok (.value v) w := by intro w3 hS3; go_simp)
    (hw : Region.wanted oi (yielded ops a.tmps) = true := by kernel_rfl) (hs : Region.noSelect ops = true := by kernel_rfl) (hf : Region.free md ops listed i = true := by kernel_rfl) (hr : (Region.ready md ops listed).contains i = true := by kernel_rfl)
    (hQ : ∀ c a w, Q (.panic c) (a.put oi.dst v) w → Q (.panic c) a w := by exact fun _ _ _ h => h) : wpAnyH P md ops Q S (fuel + 1) listed a w :=
  wpAnyH_take hi hs hf hr hQ (Or.inl ⟨hw, hy⟩) hS h

/-- A block: its cells. -/
def Blk (w : World) (k : Nat) (cs : Array Value) (t : TypeId) : Prop := w.heap[k]? = some (.cells cs t)
theorem Blk.lt {w : World} {k : Nat} {cs : Array Value} {t : TypeId} (h : Blk w k cs t) : k < w.heap.size := by
  rcases Nat.lt_or_ge k w.heap.size with h1 | h1
  · exact h1
  · unfold Blk at h; rw [Array.getElem?_eq_none h1] at h; cases h
theorem Blk.cell {w : World} {k o : Nat} {cs : Array Value} {t : TypeId} {v : Value} (h : Blk w k cs t) (hv : cs[o]? = some v) : w.cell? ⟨k, o, none⟩ = some v := by
  rw [cell_of_row w k o cs t (0, 0) h]; exact hv
theorem Blk.frozen {w : World} {k o : Nat} {cs : Array Value} {t : TypeId} (h : Blk w k cs t) : w.frozen? ⟨k, o, none⟩ = false := frozen_of_row w k o cs t h
theorem Blk.set {w : World} {k : Nat} {cs : Array Value} {t : TypeId} (h : Blk w k cs t) (o : Nat) (v : Value) : Blk (w.setCell ⟨k, o, none⟩ v) k (cs.setIfInBounds o v) t := heap_setCell_same w k o cs t v h
theorem Blk.setOther {w : World} {k : Nat} {cs : Array Value} {t : TypeId} (h : Blk w k cs t) {p : Addr} (hp : k ≠ p.block) (v : Value) : Blk (w.setCell p v) k cs t :=
  (heap_setCell_other w p k v hp).trans h
theorem Blk.below {w w' : World} {k : Nat} {cs : Array Value} {t : TypeId} (h : Blk w k cs t) (hb : Below w.heap.size w w') : Blk w' k cs t := (hb.block k h.lt).trans h
theorem blk_new (w : World) (k : Nat) (cs : Array Value) (t : TypeId) (hk : k = w.heap.size) : Blk (w.alloc (.cells cs t)) k cs t := by subst hk; exact heap_alloc_new _ _
theorem Blk.alloc {w : World} {k : Nat} {cs : Array Value} {t : TypeId} (h : Blk w k cs t) (o : Obj) : Blk (w.alloc o) k cs t := h.below ((Below.refl _ _).alloc (Nat.le_refl _) o)
theorem Blk.drew {w : World} {k : Nat} {cs : Array Value} {t : TypeId} (h : Blk w k cs t) : Blk w.drew k cs t := h

/-- A whole row read through a pointer. -/
theorem Blk.load {P : Program} {w : World} {k : Nat} {cs : Array Value} {t : TypeId} (h : Blk w k cs t) {ty : TypeId} {d : TypeDesc} (hu : P.underlying ty = some d) (hd : d.isRow = true) (hi : (P.info? ty).map (·.size) = some cs.size) :
    (Instr.loadAt ty (.pointer (some ⟨k, 0, none⟩))).run P w = .ok (.agg cs) w := by
  have := run_loadVar_row (P := P) w k t ty cs (0, 0) d h hu (by cases d <;> simp_all) hi
  simp only [Instr.loadAt, Instr.sureAddr, Sem.run_bind, Sem.run_pure, Result.andThen_ok, this]
/-- A whole row stored through a pointer. -/
theorem Blk.store {P : Program} {w : World} {k : Nat} {cs : Array Value} {t : TypeId} (h : Blk w k cs t) {ty : TypeId} (cs' : Array Value) (hi : (P.info? ty).map (·.size) = some cs'.size) (hs : cs.size = cs'.size) (h1 : cs'.all (·.oneCell') = true) :
    (Instr.storeAt ty (.pointer (some ⟨k, 0, none⟩)) (.agg cs')).run P w = .ok () (w.setRow k cs') := by
  simp only [Instr.storeAt, Instr.sureAddr, Sem.run_bind, Sem.run_pure, Result.andThen_ok, run_storeVar_row (P := P) w k t ty cs cs' h hi hs h1]
theorem Blk.setRow {w : World} {k : Nat} {cs : Array Value} {t : TypeId} (h : Blk w k cs t) (cs' : Array Value) : Blk (w.setRow k cs') k cs' t := setRow_heap w k cs cs' t (0, 0) h
theorem Blk.setRowOther {w : World} {k j : Nat} {cs : Array Value} {t : TypeId} (h : Blk w k cs t) (cs' : Array Value) (hj : k ≠ j) : Blk (w.setRow j cs') k cs t := (setRow_other w j k cs' hj).trans h
theorem below_setRow {B : Nat} {w0 w : World} (h : Below B w0 w) (k : Nat) (cs : Array Value) (hk : B ≤ k) : Below B w0 (w.setRow k cs) :=
  h.trans ⟨rfl, rfl, rfl, by simp, fun j hj => setRow_other w k j cs (by omega)⟩


/-- All but block b is as it was: the streams, what was there. -/
structure Off (b : Nat) (w w' : World) : Prop where
  os : w'.os = w.os
  tape : w'.tape = w.tape
  output : w'.output = w.output
  size : w.heap.size ≤ w'.heap.size
  block : ∀ k, k < w.heap.size → k ≠ b → w'.heap[k]? = w.heap[k]?

theorem Off.refl (b : Nat) (w : World) : Off b w w := ⟨rfl, rfl, rfl, Nat.le_refl _, fun _ _ _ => rfl⟩
theorem Off.trans {b : Nat} {x y z : World} (h : Off b x y) (k : Off b y z) : Off b x z :=
  ⟨k.os.trans h.os, k.tape.trans h.tape, k.output.trans h.output, Nat.le_trans h.size k.size, fun i hi hb => (k.block i (Nat.lt_of_lt_of_le hi h.size) hb).trans (h.block i hi hb)⟩
theorem Off.of_below {b : Nat} {w w' : World} (h : Below w.heap.size w w') : Off b w w' := ⟨h.os, h.tape, h.output, h.size, fun k hk _ => h.block k hk⟩
theorem Off.drew {b : Nat} {x w : World} (h : Off b x w) : Off b x w.drew := ⟨h.os, h.tape, h.output, h.size, h.block⟩
theorem Off.alloc {b : Nat} {x w : World} (h : Off b x w) (o : Obj) : Off b x (w.alloc o) :=
  h.trans (Off.of_below ((Below.refl _ _).alloc (Nat.le_refl _) o))
theorem Off.setCell {b : Nat} {x w : World} (h : Off b x w) {p : Addr} (hp : p.block = b) (u : Value) : Off b x (w.setCell p u) :=
  h.trans ⟨rfl, rfl, rfl, by simp [World.setCell], fun k _ hb => Below.heap_setCell _ _ _ _ (by omega)⟩
theorem Off.cell {b : Nat} {w w' : World} (h : Off b w w') {p : Addr} (hp : p.block < w.heap.size) (hb : p.block ≠ b) : w'.cell? p = w.cell? p := World.cell?_of_block (w := w) (h.block p.block hp hb)
theorem Off.frozen {b : Nat} {w w' : World} (h : Off b w w') {p : Addr} (hp : p.block < w.heap.size) (hb : p.block ≠ b) : w'.frozen? p = w.frozen? p := World.frozen?_of_block (w := w) (h.block p.block hp hb)
/-- The reader's block is the call's own: below it nothing has turned. -/
theorem Off.below {b B : Nat} {w0 w w' : World} (h : Off b w w') (hb : B ≤ b) (k : Below B w0 w) (hB : B ≤ w.heap.size) : Below B w0 w' :=
  k.trans ⟨h.os, h.tape, h.output, h.size, fun i hi => h.block i (by omega) (by omega)⟩
theorem Blk.off {w w' : World} {k b : Nat} {cs : Array Value} {t : TypeId} (h : Blk w k cs t) (ho : Off b w w') (hk : k ≠ b) : Blk w' k cs t := (ho.block k h.lt hk).trans h
theorem Off.setRow {b : Nat} {x w : World} (h : Off b x w) (cs : Array Value) : Off b x (w.setRow b cs) :=
  h.trans ⟨rfl, rfl, rfl, by simp, fun k _ hb => setRow_other w b k cs hb⟩
end Go.Proofs.YtpekfpfhonechaaGreat

namespace Go.Proofs.YtpekfpfhonechaaGreat
open Go.RowKit
set_option linter.unusedSimpArgs false
set_option linter.unusedVariables false
/-- The walk's step at a load of a whole row. -/
theorem rd_row {P : Program} {ops : Array Oper} {rest : List Oper} {dst : Option Tmp} {type : TypeId} {pos : String} {after : Array Edge} {a : Act} {w : World} {Q : Exit → Act → World → Prop} {ty : TypeId} {x : Operand}
    {k : Nat} {cs : Array Value} {t : TypeId} {d : TypeDesc} (X : Blk w k cs t) (hu : P.underlying ty = some d) (hd : d.isRow = true) (hi : (P.info? ty).map (·.size) = some cs.size)
    (hx : a.eval x = .pointer (some ⟨k, 0, none⟩)) (h : wpList P ops Q rest (a.put dst (.agg cs)) w) :
    wpList P ops Q ({ dst := dst, op := .load ty x, type := type, pos := pos, after := after, guard := none } :: rest) a w :=
  wpList_load_row (o := { dst := dst, op := .load ty x, type := type, pos := pos, after := after, guard := none }) rfl ty x rfl k hx t cs (0, 0) d X hu (by cases d <;> simp_all) hi h
/-- The walk's step at a store of a whole row: the world behind it has a name. -/
theorem st_row {P : Program} {ops : Array Oper} {rest : List Oper} {dst : Option Tmp} {type : TypeId} {pos : String} {after : Array Edge} {a : Act} {w : World} {Q : Exit → Act → World → Prop} {ty : TypeId} {x y : Operand}
    {k : Nat} {cs cs' : Array Value} {t : TypeId} (X : Blk w k cs t) (hi : (P.info? ty).map (·.size) = some cs'.size) (hs : cs.size = cs'.size) (h1 : cs'.all (·.oneCell') = true) {W : World} (hW : w.setRow k cs' = W)
    (hx : a.eval x = .pointer (some ⟨k, 0, none⟩)) (hy : a.eval y = .agg cs') (h : wpList P ops Q rest (a.put dst undef) W) :
    wpList P ops Q ({ dst := dst, op := .store ty x y, type := type, pos := pos, after := after, guard := none } :: rest) a w := by
  subst hW
  exact wpList_store_row (o := { dst := dst, op := .store ty x y, type := type, pos := pos, after := after, guard := none }) rfl ty x y rfl k cs' hx hy t cs X hi hs h1 h
/-- A struct's block behind a store of the whole. -/
theorem setRow_named {w : World} {k : Nat} {cs : Array Value} {t : TypeId} (X : Blk w k cs t) (cs' : Array Value) : ∃ W, w.setRow k cs' = W ∧ Blk W k cs' t ∧ (∀ j, j ≠ k → W.heap[j]? = w.heap[j]?) ∧ W.heap.size = w.heap.size ∧ W.os = w.os ∧ W.tape = w.tape ∧ W.output = w.output :=
  ⟨_, rfl, X.setRow cs', fun j hj => setRow_other w k j cs' hj, by simp, rfl, rfl, rfl⟩
theorem below_row {w0 w W : World} {k B : Nat} {cs' : Array Value} (h : Below B w0 w) (hW : w.setRow k cs' = W) (hk : B ≤ k) : Below B w0 W := hW ▸ below_setRow h k cs' hk
end Go.Proofs.YtpekfpfhonechaaGreat

namespace Go.Proofs.YtpekfpfhonechaaGreat
open Go.RowKit
set_option linter.unusedVariables false
set_option linter.unusedSimpArgs false

/-- The worlds in which all that was there is as it was. -/
structure BW (w0 : World) where
  w : World
  h : Below w0.heap.size w0 w
theorem bw_some (w0 : World) : Nonempty (BW w0) := ⟨⟨w0, Below.refl _ _⟩⟩

theorem BW.call {P : Program} {w0 : World} (x : BW w0) {f : FuncId} {args : Array Value} {v : Value} (h : Calls P f args x.w fun e w' => e = .returned v ∧ Below x.w.heap.size x.w w') :
    Calls P f args x.w fun e w'' => e = .returned v ∧ ∃ y : BW w0, w'' = y.w :=
  h.mono fun _ w' ⟨he, hb⟩ => ⟨he, ⟨w', x.h.trans (hb.mono x.h.size)⟩, rfl⟩
theorem BW.cell {w0 : World} (x : BW w0) {p : Addr} {v : Value} (h : w0.cell? p = some v) : x.w.cell? p = some v := (x.h.cell (World.block_lt_of_cell? w0 _ h)).trans h

theorem wp_region_below {P : Program} {id : Nat} {Q : Exit → Act → World → Prop} {a : Act} {w : World} {l : List Oper} (hm : P.follows .mixedOrders = true) (hB : Region.lexB .any l.toArray = true)
    (h : wpQuiet P l.toArray (fun w' => ∃ x : BW w, w' = x.w) (fun a' => ∀ w', (∃ x : BW w, w' = x.w) → Q .normal a' w') l a) : (Code.region id l.toArray true).wp P Q a w :=
  wp_region_quiet (C := fun w' => ∃ x : BW w, w' = x.w) hm hB ⟨⟨w.drew, (Below.refl _ _).drew⟩, rfl⟩ (by simpa using h)
end Go.Proofs.YtpekfpfhonechaaGreat

namespace Go.Proofs.YtpekfpfhonechaaGreat
open Go.ChangeShapes Go.WideShapes Go.ChangeAt Go.RowKit Go.Deep
set_option linter.unusedVariables false
set_option linter.unusedSimpArgs false

/-- A slice's elements in memory: sz cells each, as R says, with B of each. -/
def Elems {α : Type} (sz : Nat) (R : α → List Value) (B : α → Prop) (w : World) (v : Value) (l : List α) : Prop :=
  ((∃ p c, v = .slice p 0 c) ∧ l = []) ∨
  ∃ b off cap, v = .slice (some ⟨b, off, none⟩) l.length cap ∧ b < w.heap.size ∧ l.length ≤ cap ∧ ∀ i (h : i < l.length), (∀ j u, (R l[i])[j]? = some u → w.cell? ⟨b, off + i * sz + j, none⟩ = some u) ∧ B l[i]
theorem Elems.below {α : Type} {sz : Nat} {R : α → List Value} {B : α → Prop} {w w' : World} {v : Value} {l : List α} (h : Elems sz R B w v l) (hb : Below w.heap.size w w') : Elems sz R B w' v l := by
  rcases h with h | ⟨b, off, cap, hv, hl, hlc, hc⟩
  · exact Or.inl h
  · exact Or.inr ⟨b, off, cap, hv, Nat.lt_of_lt_of_le hl hb.size, hlc, fun i hi => ⟨fun j u hu => (hb.cell (p := ⟨b, off + i * sz + j, none⟩) hl).trans ((hc i hi).1 j u hu), (hc i hi).2⟩⟩

/-- The same, with the empty one among them. -/
theorem Elems.any {α : Type} {sz : Nat} {R : α → List Value} {B : α → Prop} {w : World} {v : Value} {l : List α} (h : Elems sz R B w v l) :
    ∃ a cap, v = .slice a l.length cap ∧ ∀ i (h : i < l.length), ∃ g off, a = some ⟨g, off, none⟩ ∧ l.length ≤ cap ∧ g < w.heap.size ∧ (∀ j u, (R l[i])[j]? = some u → w.cell? ⟨g, off + i * sz + j, none⟩ = some u) ∧ B l[i] := by
  rcases h with ⟨⟨a, c, rfl⟩, rfl⟩ | ⟨b, off, cap, rfl, hl, hlc, hc⟩
  · exact ⟨a, c, rfl, fun i hi => absurd hi (Nat.not_lt_zero _)⟩
  · exact ⟨some ⟨b, off, none⟩, cap, rfl, fun i hi => ⟨b, off, rfl, hlc, hl, (hc i hi).1, (hc i hi).2⟩⟩

section
variable {H : Type} {enc : TypeId × Value → H} {w : World} {base : Nat} {spare : Nat → Bool} {held : Bool}

theorem weights_all_mem {P : Program} {e : TypeId} : ∀ (ds : List (DataW H)) (d : DataW H), d ∈ ds → ∀ n ∈ d.weights P e, n ∈ DataW.weightsAll P e ds
  | [], d, h, _, _ => by cases h
  | x :: r, d, h, n, hn => by
    simp only [DataW.weightsAll, List.mem_append]
    rcases List.mem_cons.1 h with rfl | h
    · exact Or.inl hn
    · exact Or.inr (weights_all_mem r d h n hn)

theorem open_elems {α : Type} [Nonempty α] {P : Program} {SL E : TypeId} {sz by_ : Nat} (R : α → List Value) (B : α → Prop) (hu : P.underlying SL = some (.slice E)) (hc : P.cellsOf E = sz) (hR : ∀ a, (R a).length = sz) (hsz0 : 0 < sz) (hby : P.bytesOf E = by_)
    (hel : ∀ fuel cs x, DataW.trod enc P w base spare held fuel E cs = some x → (x.1.weights P E).all (· ≤ reachBytes) = true → ∃ a, cs = R a ∧ B a)
    {v : Value} {d : DataW H} {p : List MemPlace} (hv : v.cells = #[v]) (h : DataW.Trod enc P w base spare held SL v d p) (hsz : (d.weights P SL).all (· ≤ reachBytes) = true) (hlt : ∀ x ∈ p, x.block < w.heap.size) :
    ∃ l : List α, Elems sz R B w v l ∧ l.length * by_ ≤ 140737488351232 := by
  obtain ⟨fuel, hf⟩ := h
  rw [hv] at hf
  rcases open_slice hu hf with ⟨hcs, _⟩ | ⟨a, len, cap, m, n, D, Pl, hcs, _, hlc, hcm, hm, hx, hcell⟩
  · simp only [List.cons.injEq, and_true] at hcs
    exact ⟨[], Or.inl ⟨⟨_, _, hcs⟩, rfl⟩, by simp⟩
  · simp only [List.cons.injEq, and_true] at hcs
    subst hcs
    have hlm : len ≤ m := by rw [hm]; split <;> omega
    simp only [Prod.mk.injEq] at hx
    obtain ⟨rfl, rfl⟩ := hx
    rw [hc] at hcell hlt
    simp only [DataW.weights, hu, List.all_cons, List.all_append, Bool.and_eq_true, decide_eq_true_eq, hby] at hsz
    obtain ⟨h1, h2, h3⟩ := hsz
    have h1' : len * by_ ≤ 140737488351232 := by
      simp only [List.length_map, List.length_range, reachBytes] at h1
      have := Nat.mul_le_mul_right by_ (show len ≤ len + (m - len) by omega)
      omega
    have hex : ∀ i, i < len → ∃ e : α, (∀ j u, (R e)[j]? = some u → w.cell? ((a.add (i * sz)).add j) = some u) ∧ B e := by
      intro i hi
      obtain ⟨cs', hcc, ht⟩ := hcell i (by omega)
      have hmem : D i ∈ (List.range len).map D := List.mem_map.2 ⟨i, List.mem_range.2 hi, rfl⟩
      obtain ⟨e, rfl, hB⟩ := hel n cs' _ ht (List.all_eq_true.2 fun k hk => List.all_eq_true.1 h2 k (weights_all_mem _ _ hmem k hk))
      obtain ⟨_, _, hq⟩ := World.cells?_some hcc
      refine ⟨e, fun j u hj => ?_, hB⟩
      have hjl : j < sz := by
        have := (List.getElem?_eq_some_iff.1 hj).1
        rw [hR] at this
        exact this
      have := hq j hjl
      rw [← hj]
      exact this
    rcases Nat.eq_zero_or_pos len with h0 | h0
    · subst h0
      exact ⟨[], Or.inl ⟨⟨_, _, rfl⟩, rfl⟩, by simp⟩
    · obtain ⟨b, off, spot⟩ := a
      have hspot : spot = none := by
        obtain ⟨e, h1, _⟩ := hex 0 h0
        have hl := hR e
        cases hr : R e with
        | nil => rw [hr] at hl; simp at hl; omega
        | cons u us =>
          have := h1 0 u (by rw [hr]; rfl)
          simpa [Addr.add] using World.cell?_spot this
      subst hspot
      have hb : b < w.heap.size := hlt (.cell b off) (List.mem_append_left _ (MemPlace.mem_row.2 ⟨0, Nat.mul_pos (by omega) hsz0, by simp⟩))
      have hex' : ∀ i, i < len → ∃ e : α, (∀ j u, (R e)[j]? = some u → w.cell? ⟨b, off + i * sz + j, none⟩ = some u) ∧ B e := by
        intro i hi
        obtain ⟨e, q, z⟩ := hex i hi
        refine ⟨e, fun j u hu => ?_, z⟩
        have := q j u hu
        rw [Addr.add_lit, Addr.add_lit] at this
        exact this
      obtain ⟨f, hf⟩ : ∃ f : Nat → α, ∀ i, i < len → (∀ j u, (R (f i))[j]? = some u → w.cell? ⟨b, off + i * sz + j, none⟩ = some u) ∧ B (f i) := by
        refine ⟨fun i => if hi : i < len then Classical.choose (hex' i hi) else Classical.choice inferInstance, fun i hi => ?_⟩
        have hc := Classical.choose_spec (hex' i hi)
        simp only [hi, dite_true]
        exact hc
      refine ⟨(List.range len).map f, Or.inr ⟨b, off, cap, by simp, hb, by simp; omega, fun i hi => ?_⟩, by simpa using h1'⟩
      simp only [List.length_map, List.length_range] at hi
      simp only [List.getElem_map, List.getElem_range]
      exact hf i hi
end

theorem own_knob : ownKnob Tryz.prog.godebug = none := by kernel_rfl
theorem prog_laid : laidOutB Tryz.prog = true := by kernel_rfl
end Go.Proofs.YtpekfpfhonechaaGreat

namespace Go.Proofs.YtpekfpfhonechaaGreat
open Go.RowKit
set_option linter.unusedSimpArgs false
set_option linter.unusedVariables false

/-! A store of a whole row as the next step of a held region. -/
theorem step_ifC {P : Program} {ops : Array Oper} {o : Oper} {a : Act} {w : World} {K : Act → World → Prop} {Q : Exit → Act → World → Prop} {E : Prop} (hg : o.guard = none) (h : Oper.wp P o a w K Q) :
    if Region.wanted o (yielded ops a.tmps) = true then Oper.wp P o a w K Q else E := by
  have hw : Region.wanted o (yielded ops a.tmps) = true := by simp [Region.wanted, hg]
  rw [if_pos hw]; exact h

theorem wp_store_rowN {P : Program} {type : TypeId} {pos : String} {after : Array Edge} {guard : Option (Nat × Bool)} {a : Act} {w : World} {K : Act → World → Prop} {Q : Exit → Act → World → Prop} {ty : TypeId} {x y : Operand} (g : Nat) (cells : Array Value) (hx : a.eval x = .pointer (some ⟨g, 0, none⟩)) (hy : a.eval y = .agg cells) (t : TypeId) (old : Array Value) (hg : w.heap[g]? = some (.cells old t (0, 0))) (hi : (P.info? ty).map (·.size) = some cells.size) (hold : old.size = cells.size) (h1 : cells.all (·.oneCell') = true) (h : K a (w.setRow g cells)) : Oper.wp P { dst := none, op := .store ty x y, type := type, pos := pos, after := after, guard := guard } a w K Q :=
  wp_store_row ty x y rfl g cells hx hy t old hg hi hold h1 h
theorem readyH_rowC {P : Program} {md : Region.Mode} {ops : Array Oper} {Q : Exit → Act → World → Prop} {S : World → Prop} {fuel : Nat} {listed : Array Bool} {a : Act} {w : World} (i : Nat) {o : Oper} (ho : ops[i]? = some o) {ty : TypeId} {x y : Operand} (hop : o.op = .store ty x y) (hd : o.dst = none) (hgd : o.guard = none) (g : Nat) (cells : Array Value) (hx : a.eval x = .pointer (some ⟨g, 0, none⟩)) (hy : a.eval y = .agg cells) (t : TypeId) (old : Array Value) (hg : w.heap[g]? = some (.cells old t (0, 0))) (hi : (P.info? ty).map (·.size) = some cells.size) (hold : old.size = cells.size) (h1 : cells.all (·.oneCell') = true) (hS : S (w.setRow g cells)) (h : S (w.setRow g cells) → wpAnyH P md ops Q S fuel (listed.setIfInBounds i true) a (w.setRow g cells)) : AllReadyH P md ops Q S fuel listed a w [i] := by
  obtain ⟨dst, op, type, pos, after, guard⟩ := o
  simp only at hop hd hgd
  subst hop hd hgd
  exact AllReadyH.cons ho (fun K hK => step_ifC rfl (wp_store_rowN g cells hx hy t old hg hi hold h1 (hK.out _ _ hS h))) AllReadyH.nil
end Go.Proofs.YtpekfpfhonechaaGreat
