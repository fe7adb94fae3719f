/- What a hash becomes by more bytes: plain lists; copying into it. -/
import Derived.Test.YtdkkleikabipgaaDoorShF
import Derived.Lib.BufferWrite
import Derived.StillTailTactics
namespace Go.Proofs.YtdkkleikabipgaaDoor
open Go.RowKit
set_option linter.unusedSimpArgs false
set_option linter.unusedVariables false

/-- 'copy(dst, s)', s a text, as much as fits. -/
theorem run_copy_min {P : Program} (w : World) (dT sT ty elem : TypeId) (g o dLen dCap n : Nat) (s : ByteArray) (cur : Array Value) (t : TypeId)
    (hu : P.underlying dT = some (.slice elem)) (hs : (P.info? elem).map (·.size) = some 1) (hg : w.heap[g]? = some (.cells cur t (0, 0))) (hn : Nat.min s.size dLen = n) (hfit : o + n ≤ cur.size) :
    (Builtin.copy_ #[dT, sT] ty #[.slice (some ⟨g, o, none⟩) dLen dCap, .string s]).run P w =
      .ok (goInt n) (w.setRow g (cur.toList.take o ++ Lib.byteCells (s.data.toList.take n) ++ cur.toList.drop (o + n)).toArray) := by
  have hsz : s.data.toList.length = s.size := by rw [Lib.size_eq]
  have hns : n ≤ s.size := by rw [← hn]; exact Nat.min_le_left _ _
  have hlen : (Lib.byteCells (s.data.toList.take n)).length = n := by rw [Lib.byteCells_length, List.length_take]; omega
  have hst := run_storeCells_at P g o t (Lib.byteCells (s.data.toList.take n)) 0 cur w hg (by rw [hlen]; simpa using hfit) (Lib.byteCells_one _)
  have htk : List.take n (List.map (fun b : UInt8 => Value.int IntKind.u8 (b.toNat : Int)) s.data.toList) = Lib.byteCells (s.data.toList.take n) := by
    rw [← List.map_take]; rfl
  rw [hlen] at hst
  simp only [Nat.add_zero] at hst
  cases hq : P.info? elem with
  | none => simp [hq] at hs
  | some i =>
    simp [Builtin.copy_, run_underlying hu, Builtin.lenOf, Builtin.firstCells, sizeOf, typeInfo, hq, hn]
    rw [htk, hst]
    simp [Result.andThen]

theorem wpl_copy {P : Program} {ops : Array Oper} {rest : List Oper} {dst : Option Tmp} {type : TypeId} {pos : String} {after : Array Edge} {a : Act} {w : World} {Q : Exit → Act → World → Prop} {x y : Operand} {dT sT elem : TypeId}
    {g o dLen dCap : Nat} (n : Nat) {s : ByteArray} {cur : Array Value} {t : TypeId}
    (X : Blk w g cur t) (hu : P.underlying dT = some (.slice elem)) (hs : (P.info? elem).map (·.size) = some 1) (hn : Nat.min s.size dLen = n) (hfit : o + n ≤ cur.size)
    (hx : a.eval x = .slice (some ⟨g, o, none⟩) dLen dCap) (hy : a.eval y = .string s)
    (h : wpList P ops Q rest (a.put dst (goInt n)) (w.setRow g (cur.toList.take o ++ Lib.byteCells (s.data.toList.take n) ++ cur.toList.drop (o + n)).toArray)) :
    wpList P ops Q ({ dst := dst, op := .call { callee := .builtin .copy, args := #[x, y], argTypes := #[dT, sT] }, type := type, pos := pos, after := after, guard := none } :: rest) a w := by
  refine wpList_plain rfl fun _ hK => ?_
  unfold Oper.wp execOp
  simp only [resolve, invoke, builtin, Sem.run_bind, Sem.run_pure, Result.andThen_ok, List.map_toArray, List.map_cons, List.map_nil, hx, hy, run_copy_min (P := P) w dT sT type elem g o dLen dCap n s cur t hu hs X hn hfit]
  exact hK _ _ h

/-- A load among a region's reads, in whatever order. -/
theorem wst_load {P : Program} {ops : Array Oper} {w : World} {Q : Act → Prop} {rest : List Oper} {dst : Option Tmp} {type : TypeId} {pos : String} {after : Array Edge} {a : Act} {ty : TypeId} {x : Operand} {p v : Value}
    (hr : (Instr.loadAt ty p).run P w = .ok v w) (hx : a.eval x = p) (h : wpStill P ops w Q rest (a.put dst v)) :
    wpStill P ops w Q ({ dst := dst, op := .load ty x, type := type, pos := pos, after := after, guard := none } :: rest) a := by
  refine wpStill_step fun K hK => ?_
  rw [if_pos (by simp [Region.wanted])]
  unfold Oper.still execOp
  simp only [hx, Sem.run_bind, Sem.run_pure, Result.andThen_ok, hr]
  exact ⟨rfl, hK _ h⟩

/-- The walk's step at a load of a row out of the middle of a block. -/
theorem wpl_loadMid {P : Program} {ops : Array Oper} {rest : List Oper} {dst : Option Tmp} {type : TypeId} {pos : String} {after : Array Edge} {a : Act} {w : World} {Q : Exit → Act → World → Prop} {ty : TypeId} {x : Operand} {p v : Value}
    (hr : (Instr.loadAt ty p).run P w = .ok v w) (hx : a.eval x = p) (h : wpList P ops Q rest (a.put dst v) w) :
    wpList P ops Q ({ dst := dst, op := .load ty x, type := type, pos := pos, after := after, guard := none } :: rest) a w := by
  refine wpList_plain rfl fun _ hK => ?_
  unfold Oper.wp execOp
  simp only [hx, Sem.run_bind, Sem.run_pure, Result.andThen_ok, hr]
  exact hK _ _ h
/-- A load that comes up in a region. -/
theorem allReady_load {P : Program} {md : Region.Mode} {ops : Array Oper} {w : World} {Q : Exit → Act → World → Prop} {fuel : Nat} {listed : Array Bool} {a : Act} {rs : List Nat} (i : Nat) (ty : TypeId) (x : Operand) (dst : Option Tmp) {p v : Value}
    (hi : (ops[i]?).map (fun o => (o.op, o.guard, o.dst)) = some (.load ty x, none, dst)) (hr : (Instr.loadAt ty p).run P w = .ok v w) (hx : a.eval x = p)
    (h : wpAny P md ops Q fuel (listed.setIfInBounds i true) (a.put dst v) w) (hs : AllReady P md ops Q fuel listed a w rs) : AllReady P md ops Q fuel listed a w (i :: rs) := by
  obtain ⟨o, ho, he⟩ := Option.map_eq_some_iff.1 hi
  simp only [Prod.mk.injEq] at he
  obtain ⟨h1, h2, h3⟩ := he
  refine AllReady.cons ho (fun K hK => ?_) hs
  rw [if_pos (by simp [Region.wanted, h2])]
  unfold Oper.wp execOp
  simp only [h1, hx, Sem.run_bind, Sem.run_pure, Result.andThen_ok, hr]
  exact hK _ _ (by rw [h3]; exact h)
/-- A row stored into the middle of a block that comes up in a region. -/
theorem allReady_storeMid {P : Program} {md : Region.Mode} {ops : Array Oper} {w : World} {Q : Exit → Act → World → Prop} {fuel : Nat} {listed : Array Bool} {a : Act} {rs : List Nat} (i : Nat) (ty : TypeId) (x y : Operand) (dst : Option Tmp)
    {k : Nat} (o : Nat) {cur cells : Array Value} {t : TypeId} (hi : (ops[i]?).map (fun o => (o.op, o.guard, o.dst)) = some (.store ty x y, none, dst))
    (X : Blk w k cur t) (hz : (P.info? ty).map (·.size) = some cells.size) (hs : o + cells.size ≤ cur.size) (h1 : cells.all (·.oneCell') = true)
    (hx : a.eval x = .pointer (some ⟨k, o, none⟩)) (hy : a.eval y = .agg cells)
    (h : wpAny P md ops Q fuel (listed.setIfInBounds i true) (a.put dst undef) (w.setRow k (cur.toList.take o ++ cells.toList ++ cur.toList.drop (o + cells.size)).toArray))
    (hr : AllReady P md ops Q fuel listed a w rs) : AllReady P md ops Q fuel listed a w (i :: rs) := by
  obtain ⟨oo, ho, he⟩ := Option.map_eq_some_iff.1 hi
  simp only [Prod.mk.injEq] at he
  obtain ⟨e1, e2, e3⟩ := he
  have hst := run_storeCells_at P k o t cells.toList 0 cur w X (by simpa using hs) (fun v hv => (Array.all_eq_true_iff_forall_mem.1 h1) v (by simpa using hv))
  simp only [Nat.add_zero, Array.length_toList] at hst
  have hsv : (storeVar ty ⟨k, o, none⟩ (.agg cells)).run P w = .ok () (w.setRow k (cur.toList.take o ++ cells.toList ++ cur.toList.drop (o + cells.size)).toArray) := by
    cases hq : P.info? ty with
    | none => simp [hq] at hz
    | some i =>
      have hs : cells.size = i.size := by simp [hq] at hz; omega
      rw [hs] at hst
      simp [storeVar, sizeOf, typeInfo, hq, Value.cells, hs, hst]
  refine AllReady.cons ho (fun K hK => ?_) hr
  rw [if_pos (by simp [Region.wanted, e2])]
  unfold Oper.wp execOp
  simp only [e1, hx, hy, Instr.storeAt, Instr.sureAddr, Sem.run_bind, Sem.run_pure, Result.andThen_ok, hsv]
  exact hK _ _ (by rw [e3]; exact h)
/-- A row stored into the middle of a block. -/
theorem wpl_storeMid {P : Program} {ops : Array Oper} {rest : List Oper} {dst : Option Tmp} {type : TypeId} {pos : String} {after : Array Edge} {a : Act} {w : World} {Q : Exit → Act → World → Prop} {ty : TypeId} {x y : Operand}
    {k : Nat} (o : Nat) {cur cells : Array Value} {t : TypeId} (X : Blk w k cur t) (hi : (P.info? ty).map (·.size) = some cells.size) (hs : o + cells.size ≤ cur.size) (h1 : cells.all (·.oneCell') = true)
    (hx : a.eval x = .pointer (some ⟨k, o, none⟩)) (hy : a.eval y = .agg cells)
    (h : wpList P ops Q rest (a.put dst undef) (w.setRow k (cur.toList.take o ++ cells.toList ++ cur.toList.drop (o + cells.size)).toArray)) :
    wpList P ops Q ({ dst := dst, op := .store ty x y, type := type, pos := pos, after := after, guard := none } :: rest) a w := by
  have hst := run_storeCells_at P k o t cells.toList 0 cur w X (by simpa using hs) (fun v hv => (Array.all_eq_true_iff_forall_mem.1 h1) v (by simpa using hv))
  simp only [Nat.add_zero, Array.length_toList] at hst
  have hsv : (storeVar ty ⟨k, o, none⟩ (.agg cells)).run P w = .ok () (w.setRow k (cur.toList.take o ++ cells.toList ++ cur.toList.drop (o + cells.size)).toArray) := by
    cases hq : P.info? ty with
    | none => simp [hq] at hi
    | some i =>
      have hs : cells.size = i.size := by simp [hq] at hi; omega
      rw [hs] at hst
      simp [storeVar, sizeOf, typeInfo, hq, Value.cells, hs, hst]
  refine wpList_plain rfl fun _ hK => ?_
  unfold Oper.wp execOp
  simp only [hx, hy, Instr.storeAt, Instr.sureAddr, Sem.run_bind, Sem.run_pure, Result.andThen_ok, hsv]
  exact hK _ _ h

/-- Bytes laid over others from a place on. -/
def over (r : List UInt8) (a : Nat) (u : List UInt8) : List UInt8 := r.take a ++ u ++ r.drop (a + u.length)
theorem over_length (r : List UInt8) (a : Nat) (u : List UInt8) (h : a + u.length ≤ r.length) : (over r a u).length = r.length := by simp [over]; omega
theorem hashA_over (b : Bool) (s : St) (n : Nat) (r : List UInt8) (a : Nat) (u : List UInt8) (h : a + u.length ≤ r.length) :
    ((hashA b s n r).toList.take (10 + a) ++ Lib.byteCells u ++ (hashA b s n r).toList.drop (10 + a + u.length)).toArray = hashA b s n (over r a u) := by
  unfold hashA stL over
  have e1 : 10 + a = a + 10 := by omega
  have e2 : 10 + a + u.length = (a + u.length) + 10 := by omega
  rw [e1] at e2 ⊢
  rw [e2]
  simp only [List.map_cons, List.map_nil, List.cons_append, List.nil_append, List.toList_toArray, List.take_succ_cons, List.drop_succ_cons, Lib.byteCells, ← List.map_take, ← List.map_drop, List.map_append, List.append_assoc]
theorem hashA_grow (b : Bool) (s : St) (n m : Nat) (r : List UInt8) : (hashA b s n r).setIfInBounds 9 (.int .u64 (m : Int)) = hashA b s m r := by
  unfold hashA stL
  simp
theorem hashA_state (b : Bool) (s s' : St) (n : Nat) (r : List UInt8) :
    ((hashA b s n r).toList.take 1 ++ (woA (stL s')).toList ++ (hashA b s n r).toList.drop (1 + (woA (stL s')).size)).toArray = hashA b s' n r := by
  unfold hashA stL woA
  simp
theorem goes_on (L r u : List UInt8) (hr : r.take (L.length % 64) = L.drop (64 * (L.length / 64))) (hl : r.length = 64) (h : L.length % 64 + u.length < 64) :
    stOf (L ++ u) = stOf L ∧ (over r (L.length % 64) u).take ((L ++ u).length % 64) = (L ++ u).drop (64 * ((L ++ u).length / 64)) := by
  have e1 : (L ++ u).length / 64 = L.length / 64 := by rw [List.length_append]; omega
  have e2 : (L ++ u).length % 64 = L.length % 64 + u.length := by rw [List.length_append]; omega
  refine ⟨?_, ?_⟩
  · rw [stOf_more]
    have e : (L.length % 64 + u.length) / 64 = 0 := by omega
    rw [e]; rfl
  · rw [e1, e2, List.drop_append_of_le_length (by omega), ← hr]
    unfold over
    have hlen : (r.take (L.length % 64) ++ u).length = L.length % 64 + u.length := by rw [List.length_append, List.length_take]; omega
    rw [List.take_append_of_le_length (by omega), List.take_of_length_le (by omega)]
theorem goes_over (L r u : List UInt8) (hr : r.take (L.length % 64) = L.drop (64 * (L.length / 64))) (hl : r.length = 64) (h : L.length % 64 + u.length = 64) :
    stOf (L ++ u) = comp (stOf L) (wordAt (over r (L.length % 64) u)) ∧ (over r (L.length % 64) u).take ((L ++ u).length % 64) = (L ++ u).drop (64 * ((L ++ u).length / 64)) := by
  have e2 : (L ++ u).length % 64 = 0 := by rw [List.length_append]; omega
  refine ⟨?_, ?_⟩
  · rw [stOf_more, h]
    show comp (stOf L) _ = _
    have e : over r (L.length % 64) u = L.drop (64 * (L.length / 64)) ++ u := by
      unfold over
      rw [h, List.drop_of_length_le (by omega), List.append_nil, hr]
    rw [e]
    refine comp_alike _ _ _ fun i _ => ?_
    simp
  · rw [e2, List.take_zero, List.drop_of_length_le (by omega)]
end Go.Proofs.YtdkkleikabipgaaDoor
