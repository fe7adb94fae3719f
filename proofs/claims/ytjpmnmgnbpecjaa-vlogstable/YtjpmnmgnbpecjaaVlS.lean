/- Messages in a row of one's own; the sort of such a row by senders. -/
import Derived.Test.YtjpmnmgnbpecjaaVlM
import Derived.Test.YtjpmnmgnbpecjaaQtS
import Derived.Test.YtjpmnmgnbpecjaaRows
import Derived.Handy
import Derived.WalkLawsBesides
import Derived.Lib.Hide
import Derived.Shelf.SlSortCmp.KitK
import Derived.Deep.OwnRows
import Derived.Deep.AppendLies
namespace Go.Proofs.Ytjpmnmgnbpecjaa
open Go.Shelf Go.RowKit Go.Lib Go.Sort
set_option linter.unusedSimpArgs false
set_option linter.unusedVariables false

/-- Nothing but new blocks and draws. -/
def Gr (w w' : World) : Prop := ∃ q os, w' = grow (w.drewN q) os
theorem Gr.refl (w : World) : Gr w w := ⟨0, #[], by rw [grow_empty]; rfl⟩
theorem Gr.trans {a b c : World} (h : Gr a b) (k : Gr b c) : Gr a c := by
  obtain ⟨q, os, rfl⟩ := h
  obtain ⟨q', os', rfl⟩ := k
  exact ⟨q + q', os ++ os', by show grow (grow ((a.drewN q).drewN q') os) os' = _; rw [grow_grow, World.drewN_drewN]⟩
theorem Gr.alloc {w w' : World} (h : Gr w w') (o : Obj) : Gr w (w'.alloc o) := h.trans ⟨0, #[o], by rw [alloc_eq_grow]; rfl⟩
theorem flat_sL (d : Array Sgn) : (flatK sC 3 d).toList = sL d.toList := by
  apply List.ext_getElem?
  intro t
  rcases Nat.lt_or_ge t (d.size * 3) with h | h
  · have hi : t / 3 < d.size := by omega
    have hd : d.toList[t / 3]? = some d[t / 3]! := by rw [getElem!_pos d _ hi]; simp [hi]
    have hj : t % 3 < (sC d[t / 3]!).length := by rw [sC_len]; omega
    have := sL_get d.toList (t / 3) (t % 3) d[t / 3]! (sC d[t / 3]!)[t % 3]! hd (by rw [getElem!_pos (sC d[t / 3]!) _ hj]; simp [hj])
    rw [show t / 3 * 3 + t % 3 = t by omega] at this
    rw [this]
    have hs : t < (flatK sC 3 d).size := by rw [size_flatK]; exact h
    have e := get_flatK sC 3 d t h
    rw [getElem!_pos _ t hs] at e
    rw [Array.getElem?_toList, Array.getElem?_eq_getElem hs, e]
  · rw [List.getElem?_eq_none (by simp only [Array.length_toList, size_flatK]; exact h), List.getElem?_eq_none (by rw [sL_len]; simpa using h)]
theorem sort_heap {W : World} {g q : Nat} {t : TypeId} {cs : Array Value} {d : Array Sgn} {os : Array Obj} (hB : Blk W g cs t) (hs : d.size * 3 ≤ cs.size) :
    Blk (sortWorldK sC 3 W g 0 q d os) g (sL d.toList ++ cs.toList.drop (d.size * 3)).toArray t := by
  have hgl := hB.lt
  have hB' : W.heap[g]? = some (.cells cs t (0, 0)) := hB
  show (sortWorldK sC 3 W g 0 q d os).heap[g]? = some (.cells _ t (0, 0))
  unfold sortWorldK grow putRowK putRow mapBlock
  show (W.heap.modify g (onCells (putCells id 0 (flatK sC 3 d))) ++ os)[g]? = _
  rw [Array.getElem?_append_left (by simpa using hgl), Array.getElem?_modify, if_pos rfl, hB']
  simp only [Option.map_some, onCells]
  congr 2
  apply Array.ext_getElem?
  intro k
  have hf : (flatK sC 3 d).size = d.size * 3 := size_flatK ..
  have hfl : (sL d.toList).length = d.size * 3 := by rw [sL_len]; simp
  unfold putCells
  rcases Nat.lt_or_ge k (d.size * 3) with hk | hk
  · have h1 : k < cs.size := by omega
    have e : (sL d.toList)[k]? = some (flatK sC 3 d)[k]! := by
      rw [← flat_sL, Array.getElem?_toList, Array.getElem?_eq_getElem (by omega), getElem!_pos _ k (by omega)]
    have e2 : (sL d.toList ++ cs.toList.drop (d.size * 3)).toArray[k]? = some (flatK sC 3 d)[k]! := by
      rw [List.getElem?_toArray, List.getElem?_append_left (by omega), e]
    rw [e2]
    simp [h1, hf, hk]
  · have e2 : (sL d.toList ++ cs.toList.drop (d.size * 3)).toArray[k]? = cs.toList[k]? := by
      rw [List.getElem?_toArray, List.getElem?_append_right (by omega), hfl, List.getElem?_drop, show d.size * 3 + (k - d.size * 3) = k by omega]
    rw [e2]
    rcases Nat.lt_or_ge k cs.size with h1 | h1
    · simp [h1, hf]; omega
    · simp [h1]
theorem sort_off {W : World} {g q : Nat} {d : Array Sgn} {os : Array Obj} : Off g W (sortWorldK sC 3 W g 0 q d os) := by
  refine ⟨rfl, rfl, rfl, ?_, ?_⟩
  · unfold sortWorldK grow putRowK putRow mapBlock
    show W.heap.size ≤ (W.heap.modify g (onCells (putCells id 0 (flatK sC 3 d))) ++ os).size
    simp
  · intro k hk hg
    unfold sortWorldK grow putRowK putRow mapBlock
    show (W.heap.modify g (onCells (putCells id 0 (flatK sC 3 d))) ++ os)[k]? = W.heap[k]?
    rw [Array.getElem?_append_left (by simpa using hk), Array.getElem?_modify, if_neg (by omega)]
theorem holds_own {w : World} {g : Nat} {cs : Array Value} {t : TypeId} {d : Array Sgn} (hB : Blk w g cs t) (h : cs.toList.take (d.size * 3) = sL d.toList) : HoldsK sC 3 w g 0 d := by
  intro j hj
  rw [size_flatK] at hj
  have hs : j < (flatK sC 3 d).size := by rw [size_flatK]; exact hj
  refine ⟨?_, frozen_of_row w g _ cs t hB⟩
  rw [cell_of_row w g _ cs t (0, 0) hB, Nat.zero_add, getElem!_pos _ j hs]
  have e : (sL d.toList)[j]? = some (flatK sC 3 d)[j] := by rw [← flat_sL, Array.getElem?_toList, Array.getElem?_eq_getElem hs]
  rw [← h, List.getElem?_take, if_pos hj] at e
  simpa using e
theorem aggS (w : World) : (isAgg 38).run Try.prog w = .ok true w := by kernel_rfl
theorem sizS (w : World) : (Go.sizeOf 38).run Try.prog w = .ok 3 w := by kernel_rfl
theorem sC_one (x : Sgn) : ∀ v ∈ sC x, v.oneCell' = true := by
  intro v hv
  simp [sC] at hv
  rcases hv with rfl | rfl | rfl <;> rfl

def cmI (x y : Int) : Int := if x < y then -1 else if y < x then 1 else 0
def cfM (a b : Sgn) : Int := cmI a.1 b.1
theorem ltM (x y : Sgn) : ltOf cfM x y = decide (x.1 < y.1) := by
  unfold ltOf cfM cmI
  by_cases h1 : x.1 < y.1
  · simp [h1]
  · by_cases h2 : y.1 < x.1 <;> simp [h1, h2]
theorem swoM : SWO (ltOf cfM) where
  irrefl x := by rw [ltM]; simp
  trans x y z h1 h2 := by rw [ltM] at *; simp at *; omega
  ntrans x y z h1 h2 := by rw [ltM] at *; simp at *; omega
theorem isNaN_calls (x : Int) (w : World) : Calls Try.prog 55 #[.int .i64 x] w fun e w' => e = .returned (.bool false) ∧ w' = w := by
  have h : (x != x) = false := by simp
  go_enter Try.func55, Try.ntmps55
  go_wp2
  go_ret
  exact ⟨rfl, rfl⟩
theorem compare_calls (x y : Int) (w : World) : Calls Try.prog 52 #[.int .i64 x, .int .i64 y] w fun e w' => e = .returned (.int .i64 (cmI x y)) ∧ w' = w := by
  have hA : cmI x y = if x < y then -1 else if y < x then 1 else 0 := rfl
  generalize cmI x y = A at *
  have HA : Hid _ := hA
  clear hA
  rcases Int.lt_trichotomy x y with h | h | h
  · have d1 : decide (x < y) = true := decide_eq_true h
    rw [if_pos h] at HA
    go_enter Try.func52, Try.ntmps52
    go_wp2_with fail
    refine (isNaN_calls x _).mono ?_
    rintro e w1 ⟨rfl, rfl⟩
    go_wp2_with fail
    refine (isNaN_calls y _).mono ?_
    rintro e w1 ⟨rfl, rfl⟩
    go_wp2
    go_ret
    exact ⟨by rw [HA.out]; rfl, rfl⟩
  · subst h
    rw [if_neg (by omega), if_neg (by omega)] at HA
    have d1 : decide (x < x) = false := by simp
    go_enter Try.func52, Try.ntmps52
    go_wp2_with fail
    refine (isNaN_calls x _).mono ?_
    rintro e w1 ⟨rfl, rfl⟩
    go_wp2_with fail
    refine (isNaN_calls x _).mono ?_
    rintro e w1 ⟨rfl, rfl⟩
    go_wp2
    go_ret
    exact ⟨by rw [HA.out]; rfl, rfl⟩
  · have d1 : decide (x < y) = false := by simp only [decide_eq_false_iff_not]; omega
    have d2 : decide (y < x) = true := decide_eq_true h
    rw [if_neg (by omega), if_pos h] at HA
    go_enter Try.func52, Try.ntmps52
    go_wp2_with fail
    refine (isNaN_calls x _).mono ?_
    rintro e w1 ⟨rfl, rfl⟩
    go_wp2_with fail
    refine (isNaN_calls y _).mono ?_
    rintro e w1 ⟨rfl, rfl⟩
    go_wp2
    go_ret
    exact ⟨by rw [HA.out]; rfl, rfl⟩
set_option maxHeartbeats 4000000 in
set_option maxRecDepth 100000 in
theorem closure_calls (x y : Sgn) (w : World) : Calls Try.prog 51 #[.agg (sC x).toArray, .agg (sC y).toArray] w fun e w' => e = .returned (.int .i64 (cfM x y)) ∧ Gr w w' := by
  obtain ⟨x0, x1, x2⟩ := x
  obtain ⟨y0, y1, y2⟩ := y
  have HC : Hid (∀ w, Calls Try.prog 52 #[.int .i64 x0, .int .i64 y0] w fun e w' => e = .returned (.int .i64 (cfM (x0, x1, x2) (y0, y1, y2))) ∧ w' = w) := compare_calls x0 y0
  show Calls Try.prog 51 #[.agg #[.int .i64 x0, .string x1, .string x2], .agg #[.int .i64 y0, .string y1, .string y2]] w _
  generalize cfM (x0, x1, x2) (y0, y1, y2) = R at *
  go_enter Try.func51, Try.ntmps51
  go_wp2_with fail
  refine (HC.out _).mono ?_
  rintro e w1 ⟨rfl, rfl⟩
  go_wp2
  go_ret
  exact ⟨rfl, ((Gr.refl _).alloc _).alloc _⟩

/-- A sorted row of unlike senders rises. -/
theorem rises_of_sorted {d' : Array Sgn} (h1 : SortedIn (ltOf cfM) 0 d'.size d') (h2 : (d'.toList.map (·.1)).Nodup) : d'.toList.Pairwise (fun x y => x.1 < y.1) := by
  rw [List.pairwise_iff_getElem]
  intro i j hi hj hij
  have hi' : i < d'.size := by simpa using hi
  have hj' : j < d'.size := by simpa using hj
  have h3 := h1 i j (Nat.zero_le _) hij hj'
  rw [getElem!_pos d' i hi', getElem!_pos d' j hj', ltM] at h3
  have h4 : d'.toList[i].1 ≠ d'.toList[j].1 := by
    intro e
    have hk : (d'.toList.map (·.1))[i]? = (d'.toList.map (·.1))[j]? := by simp [hi', hj']; simpa using e
    have := (List.getElem?_inj (by simpa using hi') h2).1 hk
    omega
  simp only [decide_eq_false_iff_not] at h3
  simp only [Array.getElem_toList] at *
  omega
end Go.Proofs.Ytjpmnmgnbpecjaa
