/- Votes in a map: the look-up, the note, the walk through it; messages in a row. -/
import Derived.Test.YtjpmnmgnbpecjaaVlP
import Derived.Test.YtjpmnmgnbpecjaaMem
import Derived.Test.YtjpmnmgnbpecjaaWpl
import Derived.MapKept
import Derived.Maps.RangeRun
namespace Go.Proofs.Ytjpmnmgnbpecjaa
open Go.RowKit
open Go.ChangeMaps (setBlock)
set_option linter.unusedSimpArgs false
set_option linter.unusedVariables false

/-- The entries of a map of votes, from i on. -/
def entL : Vts → Nat → List MapEntry
  | [], _ => []
  | x :: r, i => ⟨.int .i64 x.1, .agg (vC x.2).toArray, i⟩ :: entL r (i + 1)
def ents (l : Vts) : Array MapEntry := (entL l 0).toArray
theorem entL_len (l : Vts) (i : Nat) : (entL l i).length = l.length := by
  induction l generalizing i with
  | nil => rfl
  | cons x l ih => simp [entL, ih]
theorem entL_snoc (l : Vts) (x : Int × Vt) (i : Nat) : entL (l ++ [x]) i = entL l i ++ [⟨.int .i64 x.1, .agg (vC x.2).toArray, i + l.length⟩] := by
  induction l generalizing i with
  | nil => simp [entL]
  | cons y l ih =>
    have e : i + 1 + l.length = i + (l.length + 1) := by omega
    simp only [List.cons_append, entL, ih, List.length_cons, e]
theorem ents_snoc (l : Vts) (x : Int × Vt) : ents (l ++ [x]) = (ents l).push ⟨.int .i64 x.1, .agg (vC x.2).toArray, l.length⟩ := by
  unfold ents; rw [entL_snoc]; simp
theorem entL_get (l : Vts) (i j : Nat) (x : Int × Vt) (h : l[j]? = some x) : (entL l i)[j]? = some ⟨.int .i64 x.1, .agg (vC x.2).toArray, i + j⟩ := by
  induction l generalizing i j with
  | nil => simp at h
  | cons y l ih =>
    cases j with
    | zero => simp at h; subst h; simp [entL]
    | succ j =>
      simp only [List.getElem?_cons_succ] at h
      simp only [entL, List.getElem?_cons_succ, ih (i + 1) j h]
      congr 2
      omega
theorem entL_mem {l : Vts} {i : Nat} {e : MapEntry} (h : e ∈ entL l i) : ∃ j x, l[j]? = some x ∧ e = ⟨.int .i64 x.1, .agg (vC x.2).toArray, i + j⟩ := by
  obtain ⟨j, hj⟩ := List.getElem?_of_mem h
  have hl := (List.getElem?_eq_some_iff.1 hj).1
  rw [entL_len] at hl
  refine ⟨j, l[j], by simp [hl], ?_⟩
  have := entL_get l i j l[j] (by simp [hl])
  rw [hj] at this
  simpa using this
theorem entL_born (l : Vts) (i : Nat) : (entL l i).map (·.born) = List.range' i l.length := by
  induction l generalizing i with
  | nil => rfl
  | cons x l ih => simp [entL, ih, List.range'_succ]
theorem ents_nodup (l : Vts) : ((ents l).toList.map (·.born)).Nodup := by
  show ((entL l 0).map (·.born)).Nodup
  rw [entL_born]
  exact List.nodup_range'

/-- What is found of a key. -/
def vfind : Vts → Int → Nat → Option (Nat × Value)
  | [], _, _ => none
  | x :: r, k, i => if k = x.1 then some (i, .agg (vC x.2).toArray) else vfind r k (i + 1)
theorem findNow_vts (l : Vts) (k : Int) (i : Nat) : Instr.findNow (.int .i64) (.int .i64 k) (entL l i) i = some (vfind l k i) := by
  induction l generalizing i with
  | nil => rfl
  | cons x l ih =>
    simp only [entL, Instr.findNow, Instr.sameNow, vfind, if_true]
    by_cases h : k = x.1
    · have hb : (k == x.1) = true := by simp [h]
      rw [if_pos h, hb]
    · have hb : (k == x.1) = false := by simp [h]
      rw [if_neg h, hb]
      exact ih (i + 1)
theorem vfind_get (l : Vts) (k : Int) (i : Nat) : (vfind l k i).map (·.2) = (vget l k).map fun v => .agg (vC v).toArray := by
  induction l generalizing i with
  | nil => rfl
  | cons x l ih =>
    unfold vfind vget
    by_cases h : k = x.1
    · simp [h]
    · simp only [h, if_false]; exact ih (i + 1)
theorem vfind_none {l : Vts} {k : Int} {i : Nat} (h : vget l k = none) : vfind l k i = none := by
  have := vfind_get l k i
  rw [h] at this
  simpa using this
theorem findKey_vts {P : Program} {K : TypeId} (hu : P.underlying K = some (.int .i64)) (w : World) (l : Vts) (k : Int) : (Instr.findKey K (.int .i64 k) (ents l).toList).run P w = .ok (vfind l k 0) w := by
  show (Instr.findKey K (.int .i64 k) (entL l 0)).run P w = _
  simp only [Instr.findKey, Sem.run_bind, run_underlying hu, Result.andThen_ok, findNow_vts, Sem.run_pure]
theorem checkKey_int {P : Program} {K : TypeId} (hu : P.underlying K = some (.int .i64)) (b : Bool) (k : Int) (w : World) : (Instr.checkKey b 10000 K (.int .i64 k)).run P w = .ok () w := by
  show (Instr.checkKey b (Nat.succ 9999) K (.int .i64 k)).run P w = _
  generalize 9999 = n
  simp only [Instr.checkKey, Sem.run_bind, run_underlying hu, Result.andThen_ok, Sem.run_pure]

def zeroVt : Vt := (0, ⟨#[]⟩, (0, ⟨#[]⟩, ⟨#[]⟩))
def vgetZ (l : Vts) (k : Int) : Vt := (vget l k).getD zeroVt

/-- Votes in a map that may be nil. -/
def MapAt (w : World) (o : Option Nat) (l : Vts) : Prop :=
  match o with
  | none => l = []
  | some b => w.heap[b]? = some (.map (ents l) l.length)
theorem MapAt.lt {w : World} {b : Nat} {l : Vts} (h : MapAt w (some b) l) : b < w.heap.size := by
  rcases Nat.lt_or_ge b w.heap.size with h1 | h1
  · exact h1
  · unfold MapAt at h; simp only [Array.getElem?_eq_none h1] at h; cases h
theorem MapAt.keep {w w' : World} {o : Option Nat} {l : Vts} (h : MapAt w o l) (hk : ∀ b, o = some b → w'.heap[b]? = w.heap[b]?) : MapAt w' o l := by
  cases o with
  | none => exact h
  | some b => exact (hk b rfl).trans h
theorem MapAt.below {w w' : World} {o : Option Nat} {l : Vts} (h : MapAt w o l) (hb : Below w.heap.size w w') : MapAt w' o l := by
  cases o with
  | none => exact h
  | some b => exact (hb.block b (MapAt.lt h)).trans h
theorem MapAt.blk {w : World} {b k : Nat} {l : Vts} {cs : Array Value} {t : TypeId} (h : MapAt w (some b) l) (hB : Blk w k cs t) : b ≠ k := by
  intro e
  subst e
  unfold MapAt at h
  unfold Blk at hB
  simp only at h
  rw [h] at hB
  cases hB

section
variable {P : Program} {T K E : TypeId} (hT : P.underlying T = some (.map K E)) (hK : P.underlying K = some (.int .i64)) (hz : ∀ w, (zeroValue E).run P w = .ok (.agg (vC zeroVt).toArray) w)
theorem run_look {w : World} {o : Option Nat} {l : Vts} (hT : P.underlying T = some (.map K E)) (hK : P.underlying K = some (.int .i64)) (hz : ∀ w, (zeroValue E).run P w = .ok (.agg (vC zeroVt).toArray) w) (h : MapAt w o l) (k : Int) :
    (Instr.lookup T (.map o) (.int .i64 k) true).run P w = .ok (.tuple #[.agg (vC (vgetZ l k)).toArray, .bool (vget l k).isSome]) w := by
  have hg := vfind_get l k 0
  cases o with
  | none =>
    have e : l = [] := h
    subst e
    have hf : (Instr.findKey K (.int .i64 k) []).run P w = .ok none w := findKey_vts (P := P) hK w [] k
    simp only [Instr.lookup, Sem.run_bind, run_underlying hT, Result.andThen_ok, Sem.run_pure, checkKey_int hK]
    rw [hf]
    simp [hz, vgetZ, vget]
  | some b =>
    have h' : w.heap[b]? = some (.map (ents l) l.length) := h
    simp only [Instr.lookup, Sem.run_bind, run_underlying hT, Result.andThen_ok, MapKept.run_getObj_map h', Sem.run_pure, checkKey_int hK, findKey_vts hK]
    cases hv : vget l k with
    | none =>
      rw [hv] at hg
      simp only [Option.map_none, Option.map_eq_none_iff] at hg
      simp [hg, hz, vgetZ, hv]
    | some v =>
      rw [hv] at hg
      obtain ⟨y, hy, hy2⟩ : ∃ y, vfind l k 0 = some y ∧ y.2 = .agg (vC v).toArray := by
        cases hf : vfind l k 0 with
        | none => rw [hf] at hg; cases hg
        | some y => exact ⟨y, rfl, by rw [hf] at hg; simpa using hg⟩
      obtain ⟨y1, y2⟩ := y
      simp only at hy2
      subst hy2
      simp [hy, vgetZ, hv]
theorem run_look1 {w : World} {o : Option Nat} {l : Vts} (hT : P.underlying T = some (.map K E)) (hK : P.underlying K = some (.int .i64)) (hz : ∀ w, (zeroValue E).run P w = .ok (.agg (vC zeroVt).toArray) w) (h : MapAt w o l) (k : Int) :
    (Instr.lookup T (.map o) (.int .i64 k) false).run P w = .ok (.agg (vC (vgetZ l k)).toArray) w := by
  have hg := vfind_get l k 0
  cases o with
  | none =>
    have e : l = [] := h
    subst e
    have hf : (Instr.findKey K (.int .i64 k) []).run P w = .ok none w := findKey_vts (P := P) hK w [] k
    simp only [Instr.lookup, Sem.run_bind, run_underlying hT, Result.andThen_ok, Sem.run_pure, checkKey_int hK]
    rw [hf]
    simp [hz, vgetZ, vget]
  | some b =>
    have h' : w.heap[b]? = some (.map (ents l) l.length) := h
    simp only [Instr.lookup, Sem.run_bind, run_underlying hT, Result.andThen_ok, MapKept.run_getObj_map h', Sem.run_pure, checkKey_int hK, findKey_vts hK]
    cases hv : vget l k with
    | none =>
      rw [hv] at hg
      simp only [Option.map_none, Option.map_eq_none_iff] at hg
      simp [hg, hz, vgetZ, hv]
    | some v =>
      rw [hv] at hg
      obtain ⟨y, hy, hy2⟩ : ∃ y, vfind l k 0 = some y ∧ y.2 = .agg (vC v).toArray := by
        cases hf : vfind l k 0 with
        | none => rw [hf] at hg; cases hg
        | some y => exact ⟨y, rfl, by rw [hf] at hg; simpa using hg⟩
      obtain ⟨y1, y2⟩ := y
      simp only at hy2
      subst hy2
      simp [hy, vgetZ, hv]
/-- A key that is there: the list with its vote anew. -/
theorem vfind_some : ∀ (l : Vts) (k : Int) (i j : Nat) (u : Value), vfind l k i = some (j, u) → ∃ d, j = i + d ∧ d < l.length ∧ (entL l i)[d]?.map (·.key) = some (.int .i64 k) ∧ ∀ v, (entL l i).modify d (fun e => { e with key := .int .i64 k, val := .agg (vC v).toArray }) = entL (vput l k v) i ∧ (vput l k v).length = l.length
  | [], k, i, j, u, h => by cases h
  | x :: l, k, i, j, u, h => by
    unfold vfind at h
    by_cases e : k = x.1
    · rw [if_pos e] at h
      simp only [Option.some.injEq, Prod.mk.injEq] at h
      refine ⟨0, h.1.symm, by simp, by simp [entL, e], fun v => ?_⟩
      simp [entL, vput, e]
    · rw [if_neg e] at h
      obtain ⟨d, h1, h2, h3, h4⟩ := vfind_some l k (i + 1) j u h
      refine ⟨d + 1, by omega, by simp; exact h2, by simpa [entL] using h3, fun v => ?_⟩
      obtain ⟨h5, h6⟩ := h4 v
      simp [entL, vput, e, h5, h6]
theorem run_note {w : World} {b : Nat} {l : Vts} (hT : P.underlying T = some (.map K E)) (hK : P.underlying K = some (.int .i64)) (h : MapAt w (some b) l) (k : Int) (v : Vt) :
    (Instr.mapUpdate T (.map (some b)) (.int .i64 k) (.agg (vC v).toArray)).run P w = .ok () (setBlock w b (.map (ents (vput l k v)) (vput l k v).length)) := by
  have h' : w.heap[b]? = some (.map (ents l) l.length) := h
  simp only [Instr.mapUpdate, Sem.run_bind, run_underlying hT, Result.andThen_ok, MapKept.run_getObj_map h', Sem.run_pure, checkKey_int hK, findKey_vts hK]
  cases hf : vfind l k 0 with
  | none =>
    have hn : vget l k = none := by
      have := vfind_get l k 0
      rw [hf] at this
      simpa using this.symm
    simp only [MapKept.run_setObj_map _ h', vput_new l k v hn, ents_snoc, List.length_append, List.length_cons, List.length_nil]
    rfl
  | some y =>
    obtain ⟨j, u⟩ := y
    obtain ⟨d, h1, h2, h3, h4⟩ := vfind_some l k 0 j u hf
    obtain ⟨h5, h6⟩ := h4 v
    have hjd : j = d := by omega
    subst hjd
    have e1 : ((ents l)[j]?.map (·.key)).getD (.int .i64 k) = .int .i64 k := by
      have : (ents l)[j]? = (entL l 0)[j]? := by simp [ents]
      rw [this, h3]
      rfl
    have e2 : (Instr.keyThatStays (.int .i64 k) (.int .i64 k)).run P w = .ok (.int .i64 k) w := by
      have : Instr.sameBits 10000 (.int .i64 k) (.int .i64 k) = true := by simp [Instr.sameBits]
      simp [Instr.keyThatStays, this]
    have e3 : (ents l).modify j (fun e => { e with key := .int .i64 k, val := .agg (vC v).toArray }) = ents (vput l k v) := by
      unfold ents
      rw [← h5]
      simp
    simp only [e1, Sem.run_bind, e2, Result.andThen_ok, e3, MapKept.run_setObj_map _ h', h6]
    rfl
end
theorem setBlock_same {w : World} {b : Nat} (o : Obj) (h : b < w.heap.size) : (setBlock w b o).heap[b]? = some o := by simp [setBlock, h]
theorem setBlock_other {w : World} {b k : Nat} (o : Obj) (h : b ≠ k) : (setBlock w b o).heap[k]? = w.heap[k]? := by simp [setBlock, h]
theorem setBlock_size (w : World) (b : Nat) (o : Obj) : (setBlock w b o).heap.size = w.heap.size := by simp [setBlock]
theorem MapAt.set {w : World} {b : Nat} {l : Vts} (h : MapAt w (some b) l) (l' : Vts) : MapAt (setBlock w b (.map (ents l') l'.length)) (some b) l' := setBlock_same _ h.lt

theorem nodup_len {m : Nat} {V : List Nat} (hn : V.Nodup) (h : ∀ i ∈ V, i < m) : V.length ≤ m := by
  have := nodup_range (n := m) (V.map Int.ofNat) (List.pairwise_map.2 (hn.imp fun h e => h (Int.ofNat.inj e))) (fun x hx => by
    obtain ⟨y, hy, rfl⟩ := List.mem_map.1 hx
    have := h y hy
    simp
    omega)
  simpa using this
/-- What has been taken out of a map, by its places. -/
def outs (l : Vts) (c : Int × ByteArray) (V : List Nat) : List Sgn := V.filterMap fun i => match l[i]? with | some x => if says c x.2 = true then some x.2.2.2 else none | none => none
theorem outs_snoc_yes {l : Vts} {c : Int × ByteArray} {V : List Nat} {i : Nat} {x : Int × Vt} (h : l[i]? = some x) (hs : says c x.2 = true) : outs l c (V ++ [i]) = outs l c V ++ [x.2.2.2] := by
  simp [outs, List.filterMap_append, h, hs]
theorem outs_snoc_no {l : Vts} {c : Int × ByteArray} {V : List Nat} {i : Nat} {x : Int × Vt} (h : l[i]? = some x) (hs : says c x.2 = false) : outs l c (V ++ [i]) = outs l c V := by
  simp [outs, List.filterMap_append, h, hs]
theorem outs_len (l : Vts) (c : Int × ByteArray) (V : List Nat) : (outs l c V).length ≤ V.length := List.length_filterMap_le _ _
theorem outs_mem {l : Vts} {c : Int × ByteArray} {V : List Nat} (hV : ∀ i, i < l.length → i ∈ V) (m : Sgn) : m ∈ outs l c V ↔ ∃ x ∈ l, says c x.2 = true ∧ x.2.2.2 = m := by
  unfold outs
  rw [List.mem_filterMap]
  constructor
  · rintro ⟨i, _, hi⟩
    split at hi
    · rename_i x hx
      split at hi
      · rename_i hs
        cases hi
        exact ⟨x, List.mem_of_getElem? hx, hs, rfl⟩
      · cases hi
    · cases hi
  · rintro ⟨x, hx, hs, rfl⟩
    obtain ⟨i, hi⟩ := List.getElem?_of_mem hx
    refine ⟨i, hV i (List.getElem?_eq_some_iff.1 hi).1, ?_⟩
    rw [hi]
    simp [hs]
theorem outs_nodup {n : Nat} {l : Vts} {c : Int × ByteArray} (h : VOk n l) : ∀ (V : List Nat), V.Nodup → ((outs l c V).map (·.1)).Nodup
  | [], _ => by simp [outs]
  | i :: V, hn => by
    obtain ⟨h1, h2⟩ := List.nodup_cons.1 hn
    have ih := outs_nodup (c := c) h V h2
    cases hi : l[i]? with
    | none => simpa [outs, hi] using ih
    | some x =>
      cases hs : says c x.2 with
      | false => simpa [outs, hi, hs] using ih
      | true =>
        have e : outs l c (i :: V) = x.2.2.2 :: outs l c V := by simp [outs, hi, hs]
        rw [e, List.map_cons, List.nodup_cons]
        refine ⟨fun hm => ?_, ih⟩
        obtain ⟨m, hm1, hm2⟩ := List.mem_map.1 hm
        unfold outs at hm1
        obtain ⟨j, hj, hj2⟩ := List.mem_filterMap.1 hm1
        split at hj2
        · rename_i y hy
          split at hj2
          · cases hj2
            have hx := h.2 x (List.mem_of_getElem? hi)
            have hy2 := h.2 y (List.mem_of_getElem? hy)
            have hk : (l.map (·.1))[i]? = (l.map (·.1))[j]? := by
              simp only [List.getElem?_map, hi, hy, Option.map_some]
              congr 1
              have := hx.2.2
              have := hy2.2.2
              omega
            have hil := (List.getElem?_eq_some_iff.1 hi).1
            have := (List.getElem?_inj (by simpa using hil) h.1).1 hk
            subst this
            exact h1 hj
          · cases hj2
        · cases hj2

/-- The step of a walk through a map of votes: nothing is left, or one that is left comes, whichever. -/
theorem next_vts {P : Program} (w : World) (ty : TypeId) (r b c0 : Nat) (V : List Nat) (l : Vts) (hr : w.heap[r]? = some (.mapIter (some b) l.length V.toArray c0)) (hc : l.length ≤ c0) (hb : MapAt w (some b) l) :
    ((∀ i, i < l.length → i ∈ V) ∧ (Instr.next (.pointer (some ⟨r, 0, none⟩)) false ty).run P w = .ok (.tuple #[.bool false]) w) ∨
    ∃ i x, l[i]? = some x ∧ i ∉ V ∧ ∃ w1 : World, (w1 = w ∨ w1 = w.drew) ∧ (Instr.next (.pointer (some ⟨r, 0, none⟩)) false ty).run P w = .ok (.tuple #[.bool true, .int .i64 x.1, .agg (vC x.2).toArray]) (setBlock w1 r (.mapIter (some b) l.length (V ++ [i]).toArray l.length)) := by
  have hb' : w.heap[b]? = some (.map (ents l) l.length) := hb
  have hold : ∀ x ∈ (ents l).toList, x.born < l.length := by
    intro x hx
    obtain ⟨j, y, hy, rfl⟩ := entL_mem (l := l) (i := 0) hx
    have := (List.getElem?_eq_some_iff.1 hy).1
    show 0 + j < _
    omega
  rcases run_next_at (P := P) w ty r b l.length c0 V.toArray (ents l) l.length hr hb' hold hc with ⟨h0, h1⟩ | ⟨e, he, w1, hw, h1⟩
  · refine Or.inl ⟨fun i hi => ?_, h1⟩
    unfold leftOf at h0
    have hE : (ents l).filter (fun e => !V.toArray.contains e.born) = #[] := Array.eq_empty_of_size_eq_zero h0
    rw [Array.filter_eq_empty_iff] at hE
    have hg := entL_get l 0 i l[i] (by simp [hi])
    have hm : (⟨.int .i64 l[i].1, .agg (vC l[i].2).toArray, 0 + i⟩ : MapEntry) ∈ ents l := by
      unfold ents
      rw [List.mem_toArray]
      exact List.mem_of_getElem? hg
    have := hE _ hm
    simpa using this
  · refine Or.inr ?_
    unfold leftOf at he
    simp only [Array.mem_toList_iff, Array.mem_filter] at he
    have he1 : e ∈ entL l 0 := by have := he.1; unfold ents at this; rwa [List.mem_toArray] at this
    obtain ⟨i, x, hx, rfl⟩ := entL_mem he1
    refine ⟨i, x, hx, by simpa using he.2, w1, hw, ?_⟩
    rw [h1]
    have e1 : V.toArray.push (0 + i) = (V ++ [i]).toArray := by simp
    simp only [e1]
theorem entry_vts {P : Program} (w : World) (r b i : Nat) (V : List Nat) (l : Vts) (x : Int × Vt) (hr : w.heap[r]? = some (.mapIter (some b) l.length (V ++ [i]).toArray l.length)) (hb : MapAt w (some b) l) (hx : l[i]? = some x) :
    (Instr.entry (.pointer (some ⟨r, 0, none⟩))).run P w = .ok (.tuple #[.int .i64 x.1, .agg (vC x.2).toArray]) w := by
  have hb' : w.heap[b]? = some (.map (ents l) l.length) := hb
  have hg := entL_get l 0 i x hx
  have := run_entry_at (P := P) w r b l.length V.toArray (ents l) l.length ⟨.int .i64 x.1, .agg (vC x.2).toArray, 0 + i⟩ (by rw [hr]; simp) hb' (List.mem_of_getElem? hg) (ents_nodup l)
  exact this
theorem iterSeen_at {w : World} {r : Nat} {m : Option Nat} {s : Nat} {a : Array Nat} {c : Nat} (h : w.heap[r]? = some (.mapIter m s a c)) : w.iterSeen r = a := by
  unfold World.iterSeen; rw [h]
end Go.Proofs.Ytjpmnmgnbpecjaa
