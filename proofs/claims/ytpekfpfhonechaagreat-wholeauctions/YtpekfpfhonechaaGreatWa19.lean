/- Orders in memory; worlds that only grew; the sort at a row of one's own; small functions. -/
import Derived.Test.YtpekfpfhonechaaGreatWa18
import Derived.Test.YtpekfpfhonechaaGreatWa01
import Derived.Deep.OwnRows
import Derived.Deep.AppendLies
namespace Go.Proofs.YtpekfpfhonechaaGreat.Cal
open Go.Shelf Go.RowKit Go.Lib Go.Sort
set_option linter.unusedSimpArgs false
set_option linter.unusedVariables false

/-- Nothing but new blocks and draws. -/
def Gr (w w' : World) : Prop := ∃ q os, w' = grow (w.drewN q) os
theorem Gr.refl (w : World) : Gr w w := ⟨0, #[], by rw [grow_empty]; rfl⟩
theorem Gr.drew {w w' : World} (h : Gr w w') : Gr w w'.drew := by
  obtain ⟨q, os, rfl⟩ := h
  exact ⟨q + 1, os, rfl⟩
theorem Gr.trans {a b c : World} (h : Gr a b) (k : Gr b c) : Gr a c := by
  obtain ⟨q, os, rfl⟩ := h
  obtain ⟨q', os', rfl⟩ := k
  exact ⟨q + q', os ++ os', by show grow (grow ((a.drewN q).drewN q') os) os' = _; rw [grow_grow, World.drewN_drewN]⟩
theorem Gr.alloc {w w' : World} (h : Gr w w') (o : Obj) : Gr w (w'.alloc o) := h.trans ⟨0, #[o], by rw [alloc_eq_grow]; rfl⟩
theorem Gr.below {w w' : World} (h : Gr w w') : Below w.heap.size w w' := by
  obtain ⟨q, os, rfl⟩ := h
  refine ⟨rfl, rfl, rfl, by simp [grow, World.drewN], fun k hk => ?_⟩
  show (w.heap ++ os)[k]? = w.heap[k]?
  rw [Array.getElem?_append_left hk]
theorem Gr.cell {w w' : World} (h : Gr w w') {p : Addr} {v : Value} (hv : w.cell? p = some v) : w'.cell? p = some v := (h.below.cell (World.block_lt_of_cell? w _ hv)).trans hv

/-- Orders that can be read: a slice of them. -/
def Ods (w : World) (v : Value) (l : List Od) : Prop := ∃ p cap, v = .slice p l.length cap ∧ (l = [] ∨ ∃ g off, p = some ⟨g, off, none⟩ ∧ ∀ i o j u, l[i]? = some o → (oC o)[j]? = some u → w.cell? ⟨g, off + i * 6 + j, none⟩ = some u)
theorem Ods.below {w w' : World} {v : Value} {l : List Od} (h : Ods w v l) (hb : Below w.heap.size w w') : Ods w' v l := by
  obtain ⟨p, cap, h1, h2⟩ := h
  refine ⟨p, cap, h1, ?_⟩
  rcases h2 with h2 | ⟨g, off, h2, h3⟩
  · exact Or.inl h2
  · exact Or.inr ⟨g, off, h2, fun i o j u a b => (hb.cell (World.block_lt_of_cell? w _ (h3 i o j u a b))).trans (h3 i o j u a b)⟩
theorem ods_own {w : World} {base : Nat} {t : TypeId} {v : Value} {l : List Od} (h : w.ownsRow base t 6 v l.length (odL l)) : Ods w v l := by
  rcases h.2 with ⟨h1, h2⟩ | ⟨g, cap, cur, h1, h2, h3, h4, h5, h6, h7⟩
  · exact ⟨none, 0, by rw [h1, h2], Or.inl (List.eq_nil_of_length_eq_zero h2)⟩
  · refine ⟨_, cap, h1, Or.inr ⟨g, 0, rfl, fun i o j u a b => ?_⟩⟩
    have := h.cells (g := g) (by rw [h1]; rfl) (i * 6 + j) u (odL_get l i j o u a b)
    have e : (⟨g, 0, none⟩ : Addr).add (i * 6 + j) = ⟨g, 0 + i * 6 + j, none⟩ := by unfold Addr.add; split <;> simp_all
    rw [e] at this
    exact this
/-- Six cells of an order. -/
theorem Ods.six {w : World} {g off : Nat} {l : List Od} (h : ∀ i o j u, l[i]? = some o → (oC o)[j]? = some u → w.cell? ⟨g, off + i * 6 + j, none⟩ = some u) {i : Nat} {o : Od} (hi : l[i]? = some o) :
    w.cell? ⟨g, off + i * 6, none⟩ = some (.int .i64 o.id) ∧ w.cell? ⟨g, off + i * 6 + 1, none⟩ = some (.int .i64 o.own) ∧ w.cell? ⟨g, off + i * 6 + 2, none⟩ = some (.int .i64 o.pr) ∧ w.cell? ⟨g, off + i * 6 + 3, none⟩ = some (.int .i64 o.am) ∧ w.cell? ⟨g, off + i * 6 + 4, none⟩ = some (.int .i64 o.pl) ∧ w.cell? ⟨g, off + i * 6 + 5, none⟩ = some (.bool o.by) :=
  ⟨h i o 0 _ hi rfl, h i o 1 _ hi rfl, h i o 2 _ hi rfl, h i o 3 _ hi rfl, h i o 4 _ hi rfl, h i o 5 _ hi rfl⟩

/-- What a sort leaves of a row of one's own. -/
theorem flat_odL (d : Array Od) : (flatK oC 6 d).toList = odL d.toList := by
  apply List.ext_getElem?
  intro t
  rcases Nat.lt_or_ge t (d.size * 6) with h | h
  · have hi : t / 6 < d.size := by omega
    have hd : d.toList[t / 6]? = some d[t / 6]! := by rw [getElem!_pos d _ hi]; simp [hi]
    have hj : t % 6 < (oC d[t / 6]!).length := by rw [oC_len]; omega
    have := odL_get d.toList (t / 6) (t % 6) d[t / 6]! (oC d[t / 6]!)[t % 6]! hd (by rw [getElem!_pos (oC d[t / 6]!) _ hj]; simp [hj])
    rw [show t / 6 * 6 + t % 6 = t by omega] at this
    rw [this]
    have hs : t < (flatK oC 6 d).size := by rw [size_flatK]; exact h
    have e := get_flatK oC 6 d t h
    rw [getElem!_pos _ t hs] at e
    rw [Array.getElem?_toList, Array.getElem?_eq_getElem hs, e]
  · rw [List.getElem?_eq_none (by simp only [Array.length_toList, size_flatK]; exact h), List.getElem?_eq_none (by rw [odL_len]; simpa using h)]
theorem sort_heap {W : World} {g q : Nat} {t : TypeId} {cs : Array Value} {d : Array Od} {os : Array Obj} (hB : Blk W g cs t) (hs : d.size * 6 ≤ cs.size) :
    Blk (sortWorldK oC 6 W g 0 q d os) g (odL d.toList ++ cs.toList.drop (d.size * 6)).toArray t := by
  have hgl := hB.lt
  have hB' : W.heap[g]? = some (.cells cs t (0, 0)) := hB
  show (sortWorldK oC 6 W g 0 q d os).heap[g]? = some (.cells _ t (0, 0))
  unfold sortWorldK grow putRowK putRow mapBlock
  show (W.heap.modify g (onCells (putCells id 0 (flatK oC 6 d))) ++ os)[g]? = _
  rw [Array.getElem?_append_left (by simpa using hgl), Array.getElem?_modify, if_pos rfl, hB']
  simp only [Option.map_some, onCells]
  congr 2
  apply Array.ext_getElem?
  intro k
  have hf : (flatK oC 6 d).size = d.size * 6 := size_flatK ..
  have hfl : (odL d.toList).length = d.size * 6 := by rw [odL_len]; simp
  unfold putCells
  rcases Nat.lt_or_ge k (d.size * 6) with hk | hk
  · have h1 : k < cs.size := by omega
    have e : (odL d.toList)[k]? = some (flatK oC 6 d)[k]! := by
      rw [← flat_odL, Array.getElem?_toList, Array.getElem?_eq_getElem (by omega), getElem!_pos _ k (by omega)]
    have e2 : (odL d.toList ++ cs.toList.drop (d.size * 6)).toArray[k]? = some (flatK oC 6 d)[k]! := by
      rw [List.getElem?_toArray, List.getElem?_append_left (by omega), e]
    rw [e2]
    simp [h1, hf, hk]
  · have e2 : (odL d.toList ++ cs.toList.drop (d.size * 6)).toArray[k]? = cs.toList[k]? := by
      rw [List.getElem?_toArray, List.getElem?_append_right (by omega), hfl, List.getElem?_drop, show d.size * 6 + (k - d.size * 6) = k by omega]
    rw [e2]
    rcases Nat.lt_or_ge k cs.size with h1 | h1
    · simp [h1, hf]; omega
    · simp [h1]
theorem sort_off {W : World} {g q : Nat} {d : Array Od} {os : Array Obj} : Off g W (sortWorldK oC 6 W g 0 q d os) := by
  refine ⟨rfl, rfl, rfl, ?_, ?_⟩
  · unfold sortWorldK grow putRowK putRow mapBlock
    show W.heap.size ≤ (W.heap.modify g (onCells (putCells id 0 (flatK oC 6 d))) ++ os).size
    simp
  · intro k hk hg
    unfold sortWorldK grow putRowK putRow mapBlock
    show (W.heap.modify g (onCells (putCells id 0 (flatK oC 6 d))) ++ os)[k]? = W.heap[k]?
    rw [Array.getElem?_append_left (by simpa using hk), Array.getElem?_modify, if_neg (by omega)]
theorem holds_own {w : World} {g : Nat} {cs : Array Value} {t : TypeId} {d : Array Od} (hB : Blk w g cs t) (h : cs.toList.take (d.size * 6) = odL d.toList) : HoldsK oC 6 w g 0 d := by
  intro j hj
  rw [size_flatK] at hj
  have hs : j < (flatK oC 6 d).size := by rw [size_flatK]; exact hj
  refine ⟨?_, frozen_of_row w g _ cs t hB⟩
  rw [cell_of_row w g _ cs t (0, 0) hB, Nat.zero_add, getElem!_pos _ j hs]
  have e : (odL d.toList)[j]? = some (flatK oC 6 d)[j] := by rw [← flat_odL, Array.getElem?_toList, Array.getElem?_eq_getElem hs]
  rw [← h, List.getElem?_take, if_pos hj] at e
  simpa using e

theorem aggO (w : World) : (isAgg 51).run Tryz.prog w = .ok true w := by
  kernel_rfl
theorem sizO (w : World) : (Go.sizeOf 51).run Tryz.prog w = .ok 6 w := by
  kernel_rfl

set_option maxHeartbeats 4000000 in
set_option maxRecDepth 100000 in
theorem insNil_calls (fv : Value) (w : World) : Calls Tryz.prog 156 #[.slice none 0 0, .int .i64 0, .int .i64 0, fv] w fun e w' => e = .returned (.tuple #[]) ∧ w' = w := by
  go_enter Tryz.func156, Tryz.ntmps156
  go_wp2
  refine wp_loop_rounds 1 ?_
  rw [rounds_succ]
  go_wp2
  go_end0
  exact ⟨rfl, rfl⟩
set_option maxHeartbeats 4000000 in
set_option maxRecDepth 100000 in
theorem stableNil_calls (fv : Value) (w : World) : Calls Tryz.prog 155 #[.slice none 0 0, .int .i64 0, fv] w fun e w' => e = .returned (.tuple #[]) ∧ w' = w := by
  have h := insNil_calls fv w
  go_enter Tryz.func155, Tryz.ntmps155
  go_wp2
  refine wp_loop_rounds 1 ?_
  rw [rounds_succ]
  go_wp2_with fail
  refine h.mono ?_
  rintro e w1 ⟨rfl, rfl⟩
  go_wp2
  refine wp_loop_rounds 1 ?_
  rw [rounds_succ]
  go_wp2
  go_end0
  exact ⟨rfl, rfl⟩
set_option maxHeartbeats 4000000 in
set_option maxRecDepth 100000 in
/-- slices.SortStableFunc at a row of one's own. -/
theorem sortStable_calls (cf : Od → Od → Int) (hO : SWO (ltOf cf)) (g : Nat) (cb : Array Value) (base : Nat) (v : Value) (l : List Od) (w : World) (eg : ∀ args w, (callFunc g args).run Tryz.prog w = .ok (.enter g args) w)
    (hcmp : ∀ x y wx, (∀ r, v.ownBlock = some r → Off r w wx) → (v.ownBlock = none → Below w.heap.size w wx) → Calls Tryz.prog g (#[.agg (oC x).toArray, .agg (oC y).toArray] ++ cb) wx fun e w' => e = .returned (.int .i64 (cf x y)) ∧ Gr wx w')
    (hown : w.ownsRow base 51 6 v l.length (odL l)) (hl : l.length < 1000000) :
    Calls Tryz.prog 148 #[v, .func (.func g) #[] cb] w fun e w' => e = .returned (.tuple #[]) ∧ w'.ownsRow base 51 6 v l.length (odL (stab (ltOf cf) l)) ∧ (v.ownBlock = none → w' = w) ∧ (∀ r, v.ownBlock = some r → Off r w w') := by
  rcases hown.2 with ⟨rfl, h0⟩ | ⟨r, cap, cur, rfl, hb, hB, hnc, hcm, hcs, ht⟩
  · have hl0 : l = [] := List.eq_nil_of_length_eq_zero h0
    subst hl0
    have h := stableNil_calls (.func (.func g) #[] cb) w
    go_enter Tryz.func148, Tryz.ntmps148
    go_wp2_with fail
    refine h.mono ?_
    rintro e w1 ⟨rfl, rfl⟩
    go_wp2
    go_end0
    exact ⟨rfl, hown, fun _ => rfl, fun r hr => by cases hr⟩
  · have hBl : Blk w r cur 51 := hB
    have hd : (l.toArray).toList = l := by simp
    have hds : (l.toArray).size = l.length := by simp
    have R : RowK oC 6 w r 0 l.toArray := ⟨oC_len, oC_one, holds_own hBl (by rw [hds, ht, hd]), hBl.lt⟩
    have hC : CmpLays Tryz.prog g cb oC 6 cf r 0 l.toArray.size w := by
      intro m os dk hdk x y
      refine (hcmp x y _ (fun r' hr' => ?_) (fun h => by cases h)).mono fun e w' h => ⟨h.1, h.2⟩
      injection hr' with hr'
      rw [← hr']; exact sort_off
    have h := stable_calls 6 aggO sizO cf hO g cb r 0 cap l.toArray w eg hC R (by rw [hds]; exact hl)
    rw [hds] at h
    have H : Hid _ := h
    have HO : Hid _ := hown
    clear h hC R hown hB hBl hcs ht
    go_enter Tryz.func148, Tryz.ntmps148
    go_wp2_with fail
    refine Calls.mono H.out ?_
    rintro e w1 ⟨rfl, d', hd', S⟩
    go_wp2
    go_end0
    obtain ⟨q, os, rfl⟩ := S
    rcases HO.out.2 with ⟨h1, _⟩ | ⟨r', cap', cur', h1, hb', hB', hnc', hcm', hcs', ht'⟩
    · cases h1
    · injection h1 with h1 h2 h3
      injection h1 with h1
      injection h1 with h1
      subst h1 h3
      have hsz : d'.size = l.length := by rw [size_of hd', stab_len]
      refine ⟨rfl, ⟨by rw [odL_len, stab_len], Or.inr ⟨r, cap, _, rfl, hb', sort_heap (cs := cur') hB' (by rw [hsz, hcs']; exact Nat.mul_le_mul_right _ hnc'), hnc', hcm', ?_, ?_⟩⟩, (fun h => by cases h), fun r' hr' => ?_⟩
      · have : (l.length) * 6 ≤ cap * 6 := Nat.mul_le_mul_right _ hnc'
        simp only [List.size_toArray, List.length_append, odL_len, List.length_drop, Array.length_toList, hsz]
        omega
      · rw [hd']
        rw [List.take_left' (by rw [odL_len, stab_len])]
      · injection hr' with hr'
        rw [← hr']; exact sort_off

set_option maxRecDepth 100000 in
theorem withinC_calls (n x y : Int) (w : World) : Calls Tryz.prog 129 #[.int .i64 n, .int .i64 x, .int .i64 y] w fun e w' => e = .returned (.bool (decide (x ≤ n ∧ n ≤ y))) ∧ w' = w := by
  by_cases h0 : x ≤ n
  · have h1 : decide (x ≤ n) = true := decide_eq_true h0
    go_enter Tryz.func129, Tryz.ntmps129
    go_wp2
    go_ret
    exact ⟨by simp [h0], rfl⟩
  · have h1 : decide (x ≤ n) = false := decide_eq_false h0
    go_enter Tryz.func129, Tryz.ntmps129
    go_wp2
    go_ret
    exact ⟨by simp [h0], rfl⟩
theorem mayBe_calls (o : Od) (w : World) : Calls Tryz.prog 110 #[.agg (oC o).toArray] w fun e w' => e = .returned (.bool (mayB o)) ∧ Gr w w' := by
  have h1 := fun w => withinC_calls o.id 0 9007199254740992 w
  have h2 := fun w => withinC_calls o.own 0 15 w
  have h3 := fun w => withinC_calls o.pr 0 1099511627776 w
  have h4 := fun w => withinC_calls o.am 1 1048576 w
  have HM : Hid (mayB o = (decide (0 ≤ o.id ∧ o.id ≤ 9007199254740992) && decide (0 ≤ o.own ∧ o.own ≤ 15) && decide (0 ≤ o.pr ∧ o.pr ≤ 1099511627776) && decide (1 ≤ o.am ∧ o.am ≤ 1048576))) := rfl
  unfold oC
  generalize decide (0 ≤ o.id ∧ o.id ≤ 9007199254740992) = K1 at *
  generalize decide (0 ≤ o.own ∧ o.own ≤ 15) = K2 at *
  generalize decide (0 ≤ o.pr ∧ o.pr ≤ 1099511627776) = K3 at *
  generalize decide (1 ≤ o.am ∧ o.am ≤ 1048576) = K4 at *
  generalize mayB o = M at *
  generalize o.id = x1 at *
  generalize o.own = x2 at *
  generalize o.pr = x3 at *
  generalize o.am = x4 at *
  generalize o.pl = x5 at *
  generalize o.by = x6 at *
  cases K1
  · go_enter Tryz.func110, Tryz.ntmps110
    go_wp2_with fail
    refine (h1 _).mono ?_
    rintro e w1 ⟨rfl, rfl⟩
    go_wp2
    go_ret
    exact ⟨by rw [HM.out]; rfl, (Gr.refl _).alloc _⟩
  · cases K2
    · go_enter Tryz.func110, Tryz.ntmps110
      go_wp2_with fail
      refine (h1 _).mono ?_
      rintro e w1 ⟨rfl, rfl⟩
      go_wp2_with fail
      refine (h2 _).mono ?_
      rintro e w1 ⟨rfl, rfl⟩
      go_wp2
      go_ret
      exact ⟨by rw [HM.out]; rfl, (Gr.refl _).alloc _⟩
    · cases K3
      · go_enter Tryz.func110, Tryz.ntmps110
        go_wp2_with fail
        refine (h1 _).mono ?_
        rintro e w1 ⟨rfl, rfl⟩
        go_wp2_with fail
        refine (h2 _).mono ?_
        rintro e w1 ⟨rfl, rfl⟩
        go_wp2_with fail
        refine (h3 _).mono ?_
        rintro e w1 ⟨rfl, rfl⟩
        go_wp2
        go_ret
        exact ⟨by rw [HM.out]; rfl, (Gr.refl _).alloc _⟩
      · go_enter Tryz.func110, Tryz.ntmps110
        go_wp2_with fail
        refine (h1 _).mono ?_
        rintro e w1 ⟨rfl, rfl⟩
        go_wp2_with fail
        refine (h2 _).mono ?_
        rintro e w1 ⟨rfl, rfl⟩
        go_wp2_with fail
        refine (h3 _).mono ?_
        rintro e w1 ⟨rfl, rfl⟩
        go_wp2_with fail
        refine (h4 _).mono ?_
        rintro e w1 ⟨rfl, rfl⟩
        go_wp2
        go_ret
        exact ⟨by rw [HM.out]; simp, (Gr.refl _).alloc _⟩
end Go.Proofs.YtpekfpfhonechaaGreat.Cal

namespace Go.Proofs.YtpekfpfhonechaaGreat.Cal
open Go.Shelf Go.RowKit Go.Lib Go.Sort
set_option linter.unusedSimpArgs false
set_option linter.unusedVariables false

theorem ownB {w w' : World} {base : Nat} {e : TypeId} {sz : Nat} {v : Value} {n : Nat} {xs : List Value} (ho : w.ownsRow base e sz v n xs) (hb : Below w.heap.size w w') : w'.ownsRow base e sz v n xs :=
  ho.kept (row := none) ⟨hb.os, hb.tape, hb.output, hb.size, fun k hk _ => hb.block k hk⟩ (by cases v.ownBlock <;> simp)
theorem belG {B : Nat} {z w w' : World} {row : Option Nat} (h : Below B z w) (hg : w.grownBy w' row) (hr : ∀ k, row = some k → B ≤ k) (hbs : B ≤ w.heap.size) : Below B z w' :=
  h.trans ⟨hg.os, hg.tape, hg.output, hg.size, fun k hk => hg.block k (by omega) (fun e => by have := hr k e.symm; omega)⟩
theorem own_form {w : World} {base : Nat} {e : TypeId} {sz : Nat} {v : Value} {n : Nat} {xs : List Value} (ho : w.ownsRow base e sz v n xs) : ∃ c cap, v = .slice c n cap := by
  rcases ho.2 with ⟨rfl, h⟩ | ⟨g, cap, cur, rfl, _⟩
  · rw [h]; exact ⟨none, 0, rfl⟩
  · exact ⟨_, _, rfl⟩
theorem infoO : (Tryz.prog.info? 51).map (fun i => (i.zero, i.size, i.bytes)) = some (some (.agg #[.int .i64 0, .int .i64 0, .int .i64 0, .int .i64 0, .int .i64 0, .bool false]), 6, 48) := by kernel_rfl
theorem infoO6 (o : Od) : (Tryz.prog.info? 51).map (·.size) = some (oC o).toArray.size := by
  have h : (Tryz.prog.info? 51).map (·.size) = some 6 := by kernel_rfl
  rw [h]; rfl

set_option maxRecDepth 100000 in
theorem buysAt_calls (p : Int) (w : World) : Calls Tryz.prog 136 #[.int .i64 p] w fun e w' => e = .returned (.func (.func 151) #[] #[.pointer (some ⟨w.heap.size, 0, none⟩)]) ∧ w'.cell? ⟨w.heap.size, 0, none⟩ = some (.int .i64 p) ∧ Gr w w' := by
  go_enter Tryz.func136, Tryz.ntmps136
  go_wp2
  go_ret
  exact ⟨rfl, by simp, (Gr.refl _).alloc _⟩
set_option maxRecDepth 100000 in
theorem sellsAt_calls (p : Int) (w : World) : Calls Tryz.prog 139 #[.int .i64 p] w fun e w' => e = .returned (.func (.func 153) #[] #[.pointer (some ⟨w.heap.size, 0, none⟩)]) ∧ w'.cell? ⟨w.heap.size, 0, none⟩ = some (.int .i64 p) ∧ Gr w w' := by
  go_enter Tryz.func139, Tryz.ntmps139
  go_wp2
  go_ret
  exact ⟨rfl, by simp, (Gr.refl _).alloc _⟩
set_option maxRecDepth 100000 in
theorem buysAt1_calls (o : Od) (p : Int) (bx : Nat) (w : World) (c : w.cell? ⟨bx, 0, none⟩ = some (.int .i64 p)) : Calls Tryz.prog 151 #[.agg (oC o).toArray, .pointer (some ⟨bx, 0, none⟩)] w fun e w' => e = .returned (.bool (bAt p o)) ∧ Gr w w' := by
  have hb := World.block_lt_of_cell? w _ c
  have hlt : bx < w.heap.size := hb
  have c2 := fun ob => (((Below.refl w.heap.size w).alloc (Nat.le_refl _) ob).cell (p := ⟨bx, 0, none⟩) hb).trans c
  unfold oC bAt
  generalize o.id = x1 at *
  generalize o.own = x2 at *
  generalize o.pr = x3 at *
  generalize o.am = x4 at *
  generalize o.pl = x5 at *
  generalize o.by = x6 at *
  cases x6
  · go_enter Tryz.func151, Tryz.ntmps151
    go_wp2
    go_ret
    exact ⟨by simp, (Gr.refl _).alloc _⟩
  · go_enter Tryz.func151, Tryz.ntmps151
    go_wp2
    go_ret
    exact ⟨by simp, (Gr.refl _).alloc _⟩
set_option maxRecDepth 100000 in
theorem sellsAt1_calls (o : Od) (p : Int) (bx : Nat) (w : World) (c : w.cell? ⟨bx, 0, none⟩ = some (.int .i64 p)) : Calls Tryz.prog 153 #[.agg (oC o).toArray, .pointer (some ⟨bx, 0, none⟩)] w fun e w' => e = .returned (.bool (sAt p o)) ∧ Gr w w' := by
  have hb := World.block_lt_of_cell? w _ c
  have hlt : bx < w.heap.size := hb
  have c2 := fun ob => (((Below.refl w.heap.size w).alloc (Nat.le_refl _) ob).cell (p := ⟨bx, 0, none⟩) hb).trans c
  unfold oC sAt
  generalize o.id = x1 at *
  generalize o.own = x2 at *
  generalize o.pr = x3 at *
  generalize o.am = x4 at *
  generalize o.pl = x5 at *
  generalize o.by = x6 at *
  cases x6
  · go_enter Tryz.func153, Tryz.ntmps153
    go_wp2
    go_ret
    exact ⟨by simp, (Gr.refl _).alloc _⟩
  · go_enter Tryz.func153, Tryz.ntmps153
    go_wp2
    go_ret
    exact ⟨by simp, (Gr.refl _).alloc _⟩

theorem take_odd {l : List Od} {k : Nat} {o : Od} (h : l[k]? = some o) : l.take (k + 1) = l.take k ++ [o] := by
  have hk := (List.getElem?_eq_some_iff.1 h)
  rw [List.take_succ_eq_append_getElem hk.1, hk.2]

set_option maxHeartbeats 4000000 in
set_option maxRecDepth 100000 in
/-- The orders that are chosen, in memory of their own. -/
theorem pick_calls (f : Od → Bool) (g : Nat) (cb : Array Value) (v : Value) (l : List Od) (w : World) (eg : ∀ args w, (callFunc g args).run Tryz.prog w = .ok (.enter g args) w) (hl : Ods w v l) (hn : l.length ≤ 2932031007402)
    (hf : ∀ o wx, Below w.heap.size w wx → Calls Tryz.prog g (#[.agg (oC o).toArray] ++ cb) wx fun e w' => e = .returned (.bool (f o)) ∧ Below wx.heap.size wx w') :
    Calls Tryz.prog 146 #[v, .func (.func g) #[] cb] w fun e w' => ∃ v', e = .returned v' ∧ w'.ownsRow w.heap.size 51 6 v' (l.filter f).length (odL (l.filter f)) ∧ Below w.heap.size w w' := by
  obtain ⟨i0, hi, hz0, hz1, hz2⟩ := info_parts infoO
  obtain ⟨p, cap, rfl, hc⟩ := hl
  have hun := Tryz.underlying51
  have HC : Hid _ := hc
  have HF : Hid _ := hf
  clear hc hf
  go_enter Tryz.func146, Tryz.ntmps146
  go_wp2
  go_loopw [5, 10] (fun ov i wr => ∃ k : Nat, k ≤ l.length ∧ i = .int .i64 k ∧ Hid (wr.ownsRow w.heap.size 51 6 ov ((l.take k).filter f).length (odL ((l.take k).filter f))) ∧ Below w.heap.size w wr) (fun _ i _ => l.length - (intOf i).toNat)
  case atStart => exact ⟨0, Nat.zero_le _, rfl, World.ownsRow_nil _ _ _ _, Below.refl _ _⟩
  case round =>
    obtain ⟨k, hk, rfl, HO, hb⟩ := hrel
    have hz := hb.size
    obtain ⟨oc, ocap, rfl⟩ := own_form HO.out
    by_cases hlt : k < l.length
    · have hd : decide ((k : Int) < l.length) = true := by simp only [decide_eq_true_eq]; omega
      obtain ⟨o, ho⟩ : ∃ o, l[k]? = some o := ⟨l[k], by simp [hlt]⟩
      rcases HC.out with hnil | ⟨gb, off, hp, hcs⟩
      · exfalso; rw [hnil] at hlt; simp at hlt
      subst hp
      obtain ⟨c0, c1, c2, c3, c4, c5⟩ := Ods.six hcs ho
      have hbl := World.block_lt_of_cell? w _ c0
      have d0 := (hb.cell (p := ⟨gb, off + k * 6, none⟩) hbl).trans c0
      have d1 := (hb.cell (p := ⟨gb, off + k * 6 + 1, none⟩) hbl).trans c1
      have d2 := (hb.cell (p := ⟨gb, off + k * 6 + 2, none⟩) hbl).trans c2
      have d3 := (hb.cell (p := ⟨gb, off + k * 6 + 3, none⟩) hbl).trans c3
      have d4 := (hb.cell (p := ⟨gb, off + k * 6 + 4, none⟩) hbl).trans c4
      have d5 := (hb.cell (p := ⟨gb, off + k * 6 + 5, none⟩) hbl).trans c5
      have HT : Hid _ := take_odd ho
      have hfl : ((l.take k).filter f).length ≤ k := Nat.le_trans (List.length_filter_le _ _) (by simp; omega)
      have h6 := infoO6 o
      obtain ⟨W1, hW1, XM, B1, Z1⟩ : ∃ W1, (wr.alloc (.cells #[.int .i64 o.id, .int .i64 o.own, .int .i64 o.pr, .int .i64 o.am, .int .i64 o.pl, .bool o.by] 51)) = W1 ∧ Blk W1 wr.heap.size (oC o).toArray 51 ∧ Below wr.heap.size wr W1 ∧ W1.heap.size = wr.heap.size + 1 :=
        ⟨_, rfl, blk_new _ _ _ _ rfl, by go_grown, by simp⟩
      have HF1 : Hid _ := HF.out o W1 (hb.trans (B1.mono hz))
      have HOC : Hid (oC o = [.int .i64 o.id, .int .i64 o.own, .int .i64 o.pr, .int .i64 o.am, .int .i64 o.pl, .bool o.by]) := rfl
      clear c0 c1 c2 c3 c4 c5 hcs ho HF
      cases hfo : f o
      · rw [hfo] at HF1
        go_wp2_with ((with_reducible refine rd_row (ty := 51) XM hun rfl h6 ?_ ?_); rfl)
        go_at_fn g
        refine Calls.mono HF1.out ?_
        rintro e w2 ⟨rfl, b2⟩
        go_wp2
        refine ⟨⟨k + 1, by omega, by norm_cast, ?_, hb.trans ((B1.trans (b2.mono (by omega))).mono hz)⟩, by simp [intOf]; omega⟩
        show World.ownsRow _ _ _ _ _ _ _
        rw [HT.out, List.filter_append]
        simp only [List.filter_cons, hfo, List.filter_nil, Bool.false_eq_true, if_false, List.append_nil]
        exact ownB (ownB HO.out B1) b2
      · rw [hfo] at HF1
        go_wp2_with ((with_reducible refine rd_row (ty := 51) XM hun rfl h6 ?_ ?_); rfl)
        go_at_fn g
        refine Calls.mono HF1.out ?_
        rintro e w2 ⟨rfl, b2⟩
        have X2 : Blk w2 wr.heap.size #[.int .i64 o.id, .int .i64 o.own, .int .i64 o.pr, .int .i64 o.am, .int .i64 o.pl, .bool o.by] 51 := XM.below b2
        have h7 : (Tryz.prog.info? 51).map (·.size) = some (#[Value.int .i64 o.id, .int .i64 o.own, .int .i64 o.pr, .int .i64 o.am, .int .i64 o.pl, .bool o.by]).size := h6
        have z2 := b2.size
        have HO2 : Hid _ := ownB (ownB HO.out B1) b2
        have B2 := hb.trans ((B1.trans (b2.mono (by omega))).mono hz)
        clear XM hW1 d0 d1 d2 d3 d4 d5
        go_wp2_with (first | ((with_reducible refine rd_row (ty := 51) X2 hun rfl h7 ?_ ?_); rfl) | (at_builtin; refine wpList_append_own _ rfl (.tmp 17) (.tmp 19) 48 rfl w.heap.size 51 i0 (.agg #[.int .i64 0, .int .i64 0, .int .i64 0, .int .i64 0, .int .i64 0, .bool false]) 6 48 Tryz.underlying48 hi hz0 hz1 hz2 rfl (by decide) _ _ _ rfl (World.ownsRow.alloc HO2.out _) ⟨w2.heap.size, 0, none⟩ 1 1 (oC o) rfl rfl ?c1 ?c2 ?c3 ?c4 ?c5 ?_))
        case c1 =>
          intro j u hj
          rw [Addr.add_lit]
          refine (blk_new w2 w2.heap.size _ _ rfl).cell ?_
          simpa [oC] using hj
        case c2 => exact oC_one o
        case c3 => unfold maxLen; omega
        case c4 => omega
        case c5 => simp; omega
        intro v' w4 ho' hg' _
        go_wp2
        refine ⟨⟨k + 1, by omega, by norm_cast, ?_, ?_⟩, by simp [intOf]; omega⟩
        · show World.ownsRow _ _ _ _ _ _ _
          rw [HT.out, List.filter_append]
          simp only [List.filter_cons, hfo, List.filter_nil, if_true, odL_app, List.length_append, List.length_cons, List.length_nil, Nat.zero_add]
          rw [show odL [o] = oC o by simp [odL]]
          exact ho'
        · exact belG (B2.alloc (by omega) _) hg' (fun q hq => (World.ownsRow.lt HO2.out q hq).1) (by simp; omega)
    · have hd : decide ((k : Int) < l.length) = false := by simp only [decide_eq_false_iff_not]; omega
      go_wp2
      go_ret
      have htk : l.take k = l := List.take_of_length_le (by omega)
      refine ⟨.slice oc ((l.take k).filter f).length ocap, rfl, ?_, hb⟩
      have := HO.out
      rw [htk] at this ⊢
      exact this
end Go.Proofs.YtpekfpfhonechaaGreat.Cal
