/- The document's bytes of a message: one walk for every order. -/
import Derived.Test.YtocphdikppeijaaGreatLy03
import Derived.Test.YtocphdikppeijaaGreatLy39
import Derived.Test.YtocphdikppeijaaGreatLy11
import Derived.Test.YtocphdikppeijaaGreatLy16
import Derived.Test.YtocphdikppeijaaGreatLy08
import Derived.Test.YtocphdikppeijaaGreatLy12
import Derived.Maps.RangeRun
import Derived.Test.YtocphdikppeijaaGreatLy14
namespace Go.Proofs.YtocphdikppeijaaGreat
open Go.RowKit
set_option linter.unusedVariables false
set_option linter.unusedSimpArgs false

theorem cat2 (a b : List UInt8) : (⟨a.toArray⟩ : ByteArray) ++ (⟨b.toArray⟩ : ByteArray) = ⟨(a ++ b).toArray⟩ := by
  apply ByteArray.ext; simp [ByteArray.data_append]

set_option maxRecDepth 100000 in
set_option maxHeartbeats 1000000 in
theorem one_ref (m : Sg) (w : World) (hm : sgOk m = true) :
    Calls Tryz.prog 17 #[m.val] w fun e w' => e = .returned (.string ⟨(sgB m).toArray⟩) ∧ Below w.heap.size w w' := by
  have hok := hm
  unfold sgOk at hok
  simp only [Bool.and_eq_true, decide_eq_true_eq] at hok
  obtain ⟨⟨⟨hf0, hf1⟩, hb⟩, hs⟩ := hok
  obtain ⟨f, b, g⟩ := m
  simp only at hf0 hf1 hb hs
  obtain ⟨n, rfl⟩ := Int.eq_ofNat_of_zero_le hf0
  have X0 := blk_new w w.heap.size #[.int .i64 (n : Int), .string b, .string g] 49 rfl
  obtain ⟨W, hW⟩ : ∃ W, w.alloc (.cells #[.int .i64 (n : Int), .string b, .string g] 49) = W := ⟨_, rfl⟩
  have hB0 : Below w.heap.size w W := by rw [← hW]; go_grown
  rw [hW] at X0
  have y0 := fun y : BW W => y.cell (X0.cell (o := 0) rfl)
  have y1 := fun y : BW W => y.cell (X0.cell (o := 1) rfl)
  have y2 := fun y : BW W => y.cell (X0.cell (o := 2) rfl)
  have HN : Hid (∀ wx, Calls Tryz.prog 44 #[.int .i64 n] wx fun e w' => e = .returned (.string ⟨(enc n).toArray⟩) ∧ Below wx.heap.size wx w') := fun wx => number_ref n wx (by omega)
  have HB : Hid (∀ wx, Calls Tryz.prog 45 #[.string b] wx fun e w' => e = .returned (.string ⟨(txtB b).toArray⟩) ∧ Below wx.heap.size wx w') := fun wx => laid_txt b wx (by omega)
  have HG : Hid (∀ wx, Calls Tryz.prog 45 #[.string g] wx fun e w' => e = .returned (.string ⟨(txtB g).toArray⟩) ∧ Below wx.heap.size wx w') := fun wx => laid_txt g wx (by omega)
  have el := enc_le n
  have tb := txtB_len b
  have tg := txtB_len g
  have hsg : sgB ⟨(n : Int), b, g⟩ = enc n ++ txtB b ++ txtB g := by simp [sgB]
  have HSG : Hid _ := hsg
  obtain ⟨E, hE⟩ : ∃ E, E = enc n := ⟨_, rfl⟩
  obtain ⟨Tb, hTb⟩ : ∃ Tb, Tb = txtB b := ⟨_, rfl⟩
  obtain ⟨Tg, hTg⟩ : ∃ Tg, Tg = txtB g := ⟨_, rfl⟩
  rw [← hE] at HN el HSG
  rw [← hTb] at HB tb HSG
  rw [← hTg] at HG tg HSG
  clear hE hTb hTg hsg
  have c1 : ¬ 9223372036854775807 < E.length + Tb.length := by omega
  have c2 : ¬ 9223372036854775807 < E.length + Tb.length + Tg.length := by omega
  have hne := bw_some W
  unfold Sg.val
  go_enter Tryz.func17, Tryz.ntmps17
  go_wp2
  refine wp_region_below (by kernel_rfl) (by kernel_rfl) ?_
  repeat (quiet_step (first
    | (go_at_call 44; exact BW.call _ (HN.out _))
    | (go_at_call_of 45 (Value.string b); exact BW.call _ (HB.out _))
    | (go_at_call_of 45 (Value.string g); exact BW.call _ (HG.out _))))
  refine wpQuiet_nil ?_
  rintro _ ⟨⟨w5, b5⟩, rfl⟩
  have B5 := hB0.trans (b5.mono hB0.size)
  go_wp2
  go_ret
  exact ⟨by rw [HSG.out, ← cat2, ← cat2]; rfl, B5⟩
end Go.Proofs.YtocphdikppeijaaGreat

namespace Go.Proofs.YtocphdikppeijaaGreat
open Go.RowKit
open Go.ChangeMaps (setBlock)
set_option linter.unusedSimpArgs false
set_option linter.unusedVariables false

abbrev Rps := List (Int × ByteArray)
/-- The entries of a map of replies, from the birth i on. -/
def entR : Rps → Nat → List MapEntry
  | [], _ => []
  | x :: r, i => ⟨.int .i64 x.1, .agg #[.string x.2], i⟩ :: entR r (i + 1)
theorem entR_len (l : Rps) (i : Nat) : (entR l i).length = l.length := by
  induction l generalizing i with
  | nil => rfl
  | cons x l ih => simp [entR, ih]
theorem entR_snoc (l : Rps) (x : Int × ByteArray) (i : Nat) : entR (l ++ [x]) i = entR l i ++ [⟨.int .i64 x.1, .agg #[.string x.2], i + l.length⟩] := by
  induction l generalizing i with
  | nil => simp [entR]
  | cons y l ih =>
    have e : i + 1 + l.length = i + (l.length + 1) := by omega
    simp only [List.cons_append, entR, ih, List.length_cons, e]
theorem entR_get (l : Rps) (i j : Nat) (x : Int × ByteArray) (h : l[j]? = some x) : (entR l i)[j]? = some ⟨.int .i64 x.1, .agg #[.string x.2], i + j⟩ := by
  induction l generalizing i j with
  | nil => simp at h
  | cons y l ih =>
    cases j with
    | zero => simp at h; subst h; simp [entR]
    | succ j =>
      simp only [List.getElem?_cons_succ] at h
      simp only [entR, List.getElem?_cons_succ, ih (i + 1) j h]
      congr 2
      omega
theorem entR_mem {l : Rps} {i : Nat} {e : MapEntry} (h : e ∈ entR l i) : ∃ j x, l[j]? = some x ∧ e = ⟨.int .i64 x.1, .agg #[.string x.2], i + j⟩ := by
  obtain ⟨j, hj⟩ := List.getElem?_of_mem h
  have hl := (List.getElem?_eq_some_iff.1 hj).1
  rw [entR_len] at hl
  refine ⟨j, l[j], by simp [hl], ?_⟩
  have := entR_get l i j l[j] (by simp [hl])
  rw [hj] at this
  simpa using this
theorem entR_born (l : Rps) (i : Nat) : (entR l i).map (·.born) = List.range' i l.length := by
  induction l generalizing i with
  | nil => rfl
  | cons x l ih => simp [entR, ih, List.range'_succ]
theorem entR_nodup (l : Rps) (i : Nat) : ((entR l i).toArray.toList.map (·.born)).Nodup := by
  show ((entR l i).map (·.born)).Nodup
  rw [entR_born]
  exact List.nodup_range'

/-- Has the key come? -/
def rgot (l : Rps) (k : Int) : Bool := l.any fun x => decide (k = x.1)
/-- What is found of a key. -/
def rfind : Rps → Int → Nat → Option (Nat × Value)
  | [], _, _ => none
  | x :: r, k, i => if k = x.1 then some (i, .agg #[.string x.2]) else rfind r k (i + 1)
theorem findNow_rps (l : Rps) (k : Int) (c i : Nat) : Instr.findNow (.int .i64) (.int .i64 k) (entR l c) i = some (rfind l k i) := by
  induction l generalizing i c with
  | nil => rfl
  | cons x l ih =>
    simp only [entR, Instr.findNow, Instr.sameNow, rfind, if_true]
    by_cases h : k = x.1
    · have hb : (k == x.1) = true := by simp [h]
      rw [if_pos h, hb]
    · have hb : (k == x.1) = false := by simp [h]
      rw [if_neg h, hb]
      exact ih (c + 1) (i + 1)
theorem rfind_got (l : Rps) (k : Int) (i : Nat) : (rfind l k i).isSome = rgot l k := by
  induction l generalizing i with
  | nil => rfl
  | cons x l ih =>
    unfold rfind
    by_cases h : k = x.1
    · simp [rgot, h]
    · simp only [h, if_false, ih (i + 1)]
      simp [rgot, h]
theorem rfind_none {l : Rps} {k : Int} {i : Nat} (h : rgot l k = false) : rfind l k i = none := by
  have := rfind_got l k i
  rw [h] at this
  simpa using this
theorem rfind_str (l : Rps) (k : Int) (i j : Nat) (u : Value) (h : rfind l k i = some (j, u)) : ∃ t, u = .agg #[.string t] := by
  induction l generalizing i with
  | nil => cases h
  | cons x l ih =>
    unfold rfind at h
    split at h
    · simp only [Option.some.injEq, Prod.mk.injEq] at h
      exact ⟨_, h.2.symm⟩
    · exact ih _ h
theorem findKey_rps {P : Program} {K : TypeId} (hu : P.underlying K = some (.int .i64)) (w : World) (l : Rps) (k : Int) (c : Nat) : (Instr.findKey K (.int .i64 k) (entR l c).toArray.toList).run P w = .ok (rfind l k 0) w := by
  show (Instr.findKey K (.int .i64 k) (entR l c)).run P w = _
  simp only [Instr.findKey, Sem.run_bind, run_underlying hu, Result.andThen_ok, findNow_rps, Sem.run_pure]
theorem checkKey_num {P : Program} {K : TypeId} (hu : P.underlying K = some (.int .i64)) (b : Bool) (k : Int) (w : World) : (Instr.checkKey b 10000 K (.int .i64 k)).run P w = .ok () w := by
  show (Instr.checkKey b (Nat.succ 9999) K (.int .i64 k)).run P w = _
  generalize 9999 = n
  simp only [Instr.checkKey, Sem.run_bind, run_underlying hu, Result.andThen_ok, Sem.run_pure]

/-- Replies in a map whose clock stood at c when it was last empty. -/
def RMap (w : World) (b : Nat) (l : Rps) (c : Nat) : Prop := w.heap[b]? = some (.map (entR l c).toArray (c + l.length))
theorem RMap.lt {w : World} {b c : Nat} {l : Rps} (h : RMap w b l c) : b < w.heap.size := (Array.getElem?_eq_some_iff.1 h).1
theorem RMap.keep {w w' : World} {b c : Nat} {l : Rps} (h : RMap w b l c) (hk : w'.heap[b]? = w.heap[b]?) : RMap w' b l c := hk.trans h
theorem RMap.below {w w' : World} {b c : Nat} {l : Rps} (h : RMap w b l c) (hb : Below w.heap.size w w') : RMap w' b l c := (hb.block b h.lt).trans h
theorem RMap.blk {w : World} {b k c : Nat} {l : Rps} {cs : Array Value} {t : TypeId} (h : RMap w b l c) (hB : Blk w k cs t) : b ≠ k := by
  intro e
  subst e
  unfold RMap at h
  unfold Blk at hB
  rw [h] at hB
  cases hB

theorem run_told {P : Program} {T K E : TypeId} {w : World} {b c : Nat} {l : Rps} (hT : P.underlying T = some (.map K E)) (hK : P.underlying K = some (.int .i64)) (hz : ∀ w, (zeroValue E).run P w = .ok (.agg #[.string ⟨#[]⟩]) w) (h : RMap w b l c) (k : Int) :
    ∃ t, (Instr.lookup T (.map (some b)) (.int .i64 k) true).run P w = .ok (.tuple #[.agg #[.string t], .bool (rgot l k)]) w := by
  have h' : w.heap[b]? = some (.map (entR l c).toArray (c + l.length)) := h
  simp only [Instr.lookup, Sem.run_bind, run_underlying hT, Result.andThen_ok, MapKept.run_getObj_map h', Sem.run_pure, checkKey_num hK, findKey_rps hK]
  have hg := rfind_got l k 0
  cases hf : rfind l k 0 with
  | none =>
    rw [hf] at hg
    exact ⟨⟨#[]⟩, by simp [hz, ← hg]⟩
  | some y =>
    obtain ⟨j, u⟩ := y
    obtain ⟨t, rfl⟩ := rfind_str l k 0 j u hf
    rw [hf] at hg
    exact ⟨t, by simp [← hg]⟩
theorem run_tell {P : Program} {T K E : TypeId} {w : World} {b c : Nat} {l : Rps} (hT : P.underlying T = some (.map K E)) (hK : P.underlying K = some (.int .i64)) (h : RMap w b l c) (k : Int) (v : ByteArray) (hn : rgot l k = false) :
    (Instr.mapUpdate T (.map (some b)) (.int .i64 k) (.agg #[.string v])).run P w = .ok () (setBlock w b (.map (entR (l ++ [(k, v)]) c).toArray (c + (l ++ [(k, v)]).length))) := by
  have h' : w.heap[b]? = some (.map (entR l c).toArray (c + l.length)) := h
  simp only [Instr.mapUpdate, Sem.run_bind, run_underlying hT, Result.andThen_ok, MapKept.run_getObj_map h', Sem.run_pure, checkKey_num hK, findKey_rps hK, rfind_none hn]
  have e : (entR (l ++ [(k, v)]) c).toArray = (entR l c).toArray.push ⟨.int .i64 k, .agg #[.string v], c + l.length⟩ := by rw [entR_snoc]; simp
  simp only [MapKept.run_setObj_map _ h', e, List.length_append, List.length_cons, List.length_nil]
  rfl
theorem run_wipe {P : Program} {T K E : TypeId} {w : World} {b c : Nat} {l : Rps} {ty : TypeId} (hT : P.underlying T = some (.map K E)) (h : RMap w b l c) :
    (Builtin.clear_ #[T] ty #[.map (some b)]).run P w = .ok (.tuple #[]) (setBlock w b (.map #[] (c + l.length))) := by
  have h' : w.heap[b]? = some (.map (entR l c).toArray (c + l.length)) := h
  have e1 : (#[T] : Array TypeId)[0]? = some T := rfl
  have e2 : (#[.map (some b)] : Array Value)[0]? = some (.map (some b)) := rfl
  simp only [Builtin.clear_, e1, e2, Sem.run_bind, run_underlying hT, Result.andThen_ok, MapKept.run_getObj_map h', MapKept.run_setObj_map _ h', Sem.run_pure]
  rfl
theorem setB_same {w : World} {b : Nat} (o : Obj) (h : b < w.heap.size) : (setBlock w b o).heap[b]? = some o := by simp [setBlock, h]
theorem setB_other {w : World} {b k : Nat} (o : Obj) (h : b ≠ k) : (setBlock w b o).heap[k]? = w.heap[k]? := by simp [setBlock, h]
theorem setB_size (w : World) (b : Nat) (o : Obj) : (setBlock w b o).heap.size = w.heap.size := by simp [setBlock]

/-- The step of a walk through a map of replies: nothing is left, or one that is left comes, whichever. -/
theorem next_rps {P : Program} (w : World) (ty : TypeId) (r b c c0 : Nat) (V : List Nat) (l : Rps) (hr : w.heap[r]? = some (.mapIter (some b) (c + l.length) (V.map (c + ·)).toArray c0)) (hc : c + l.length ≤ c0) (hb : RMap w b l c) :
    ((∀ i, i < l.length → i ∈ V) ∧ (Instr.next (.pointer (some ⟨r, 0, none⟩)) false ty).run P w = .ok (.tuple #[.bool false]) w) ∨
    ∃ i x, l[i]? = some x ∧ i ∉ V ∧ ∃ w1 : World, (w1 = w ∨ w1 = w.drew) ∧ (Instr.next (.pointer (some ⟨r, 0, none⟩)) false ty).run P w = .ok (.tuple #[.bool true, .int .i64 x.1, .agg #[.string x.2]]) (setBlock w1 r (.mapIter (some b) (c + l.length) ((V ++ [i]).map (c + ·)).toArray (c + l.length))) := by
  have hb' : w.heap[b]? = some (.map (entR l c).toArray (c + l.length)) := hb
  have hold : ∀ x ∈ (entR l c).toArray.toList, x.born < c + l.length := by
    intro x hx
    obtain ⟨j, y, hy, rfl⟩ := entR_mem (l := l) (i := c) hx
    have := (List.getElem?_eq_some_iff.1 hy).1
    show c + j < _
    omega
  rcases run_next_at (P := P) w ty r b (c + l.length) c0 (V.map (c + ·)).toArray (entR l c).toArray (c + l.length) hr hb' hold hc with ⟨h0, h1⟩ | ⟨e, he, w1, hw, h1⟩
  · refine Or.inl ⟨fun i hi => ?_, h1⟩
    unfold leftOf at h0
    have hE : (entR l c).toArray.filter (fun e => !(V.map (c + ·)).toArray.contains e.born) = #[] := Array.eq_empty_of_size_eq_zero h0
    rw [Array.filter_eq_empty_iff] at hE
    have hg := entR_get l c i l[i] (by simp [hi])
    have hm : (⟨.int .i64 l[i].1, .agg #[.string l[i].2], c + i⟩ : MapEntry) ∈ (entR l c).toArray := by
      rw [List.mem_toArray]
      exact List.mem_of_getElem? hg
    have := hE _ hm
    simpa using this
  · refine Or.inr ?_
    unfold leftOf at he
    simp only [Array.mem_toList_iff, Array.mem_filter] at he
    have he1 : e ∈ entR l c := by have := he.1; rwa [List.mem_toArray] at this
    obtain ⟨i, x, hx, rfl⟩ := entR_mem he1
    refine ⟨i, x, hx, by simpa using he.2, w1, hw, ?_⟩
    rw [h1]
    have e1 : (V.map (c + ·)).toArray.push (c + i) = ((V ++ [i]).map (c + ·)).toArray := by simp
    simp only [e1]
theorem entry_rps {P : Program} (w : World) (r b c i : Nat) (V : List Nat) (l : Rps) (x : Int × ByteArray) (hr : w.heap[r]? = some (.mapIter (some b) (c + l.length) ((V ++ [i]).map (c + ·)).toArray (c + l.length))) (hb : RMap w b l c) (hx : l[i]? = some x) :
    (Instr.entry (.pointer (some ⟨r, 0, none⟩))).run P w = .ok (.tuple #[.int .i64 x.1, .agg #[.string x.2]]) w := by
  have hb' : w.heap[b]? = some (.map (entR l c).toArray (c + l.length)) := hb
  have hg := entR_get l c i x hx
  have := run_entry_at (P := P) w r b (c + l.length) (V.map (c + ·)).toArray (entR l c).toArray (c + l.length) ⟨.int .i64 x.1, .agg #[.string x.2], c + i⟩ (by rw [hr]; simp) hb' (List.mem_of_getElem? hg) (entR_nodup l c)
  exact this
theorem iterSeenR {w : World} {r : Nat} {m : Option Nat} {s : Nat} {a : Array Nat} {c : Nat} (h : w.heap[r]? = some (.mapIter m s a c)) : w.iterSeen r = a := by
  unfold World.iterSeen; rw [h]

/-- How many told a text. -/
def alk (l : Rps) (t : ByteArray) : Nat := l.countP fun x => decide (x.2 = t)
def seen (l : Rps) (t : ByteArray) (V : List Nat) : Nat := V.countP fun i => decide ((l[i]?.map (·.2)) = some t)
theorem seen_snoc (l : Rps) (t : ByteArray) (V : List Nat) (i : Nat) (x : Int × ByteArray) (h : l[i]? = some x) : seen l t (V ++ [i]) = seen l t V + if x.2 = t then 1 else 0 := by
  unfold seen
  rw [List.countP_append]
  by_cases hx : x.2 = t
  · simp [h, hx]
  · simp [h, hx]
theorem seen_le (l : Rps) (t : ByteArray) (V : List Nat) : seen l t V ≤ V.length := List.countP_le_length
theorem seen_take (l : Rps) (t : ByteArray) : ∀ n, n ≤ l.length → seen l t (List.range n) = alk (l.take n) t
  | 0, _ => rfl
  | n + 1, h => by
    have hn : l[n]? = some l[n] := by simp
    rw [List.range_succ, seen_snoc l t (List.range n) n l[n] hn, seen_take l t n (by omega), List.take_add_one, hn]
    unfold alk
    rw [List.countP_append]
    by_cases hx : l[n].2 = t <;> simp [hx]
theorem seen_range (l : Rps) (t : ByteArray) : seen l t (List.range l.length) = alk l t := by
  have h := seen_take l t l.length (Nat.le_refl _)
  rwa [List.take_length] at h
theorem seen_all {l : Rps} {t : ByteArray} {V : List Nat} (hn : V.Nodup) (h1 : ∀ i ∈ V, i < l.length) (h2 : ∀ i, i < l.length → i ∈ V) : seen l t V = alk l t := by
  rw [← seen_range]
  unfold seen
  apply List.Perm.countP_eq
  rw [List.perm_ext_iff_of_nodup hn List.nodup_range]
  intro i
  rw [List.mem_range]
  exact ⟨h1 i, h2 i⟩
theorem nodup_short : ∀ {m : Nat} {V : List Nat}, V.Nodup → (∀ i ∈ V, i < m) → V.length ≤ m
  | 0, V, hn, h => by
    cases V with
    | nil => simp
    | cons x V => exact absurd (h x (by simp)) (by omega)
  | m + 1, V, hn, h => by
    have ih := nodup_short (m := m) (hn.erase m) (fun i hi => by
      have h2 := (List.Nodup.mem_erase_iff hn).1 hi
      have := h i h2.2
      have := h2.1
      omega)
    rw [List.length_erase] at ih
    split at ih <;> omega
end Go.Proofs.YtocphdikppeijaaGreat
