/- A tree's records as lists: a record laid at its place, or taken away. -/
import Derived.Test.YtpcafjbebhcilaaGreatTm36
import Derived.Test.YtpcafjbebhcilaaGreatTm12
import Derived.Deep.RegionHeldLaw
import Derived.Deep.RegionHeld3
namespace Go.Proofs.YtpcafjbebhcilaaGreat
open Go.RowKit
set_option linter.unusedSimpArgs false
set_option linter.unusedVariables false

def putL (l : List Rc) (r : Nat) (m : Rc) : List Rc := if hasAt l r m.key = true then l.set r m else l.take r ++ m :: l.drop r
def dropL (l : List Rc) (r : Nat) (key : ByteArray) : List Rc := if hasAt l r key = true then l.eraseIdx r else l

theorem has_iff {l : List Rc} {r : Nat} {key : ByteArray} : hasAt l r key = true ↔ ∃ h : r < l.length, l[r].key = key := by
  unfold hasAt
  by_cases h : r < l.length
  · rw [List.getElem?_eq_getElem h]
    simp only [decide_eq_true_eq]
    exact ⟨fun e => ⟨h, e⟩, fun ⟨_, e⟩ => e⟩
  · rw [List.getElem?_eq_none (by omega)]
    exact ⟨fun e => (by cases e), fun ⟨e, _⟩ => absurd e h⟩
theorem Spot.same {l : List Rc} {key : ByteArray} {r s : Nat} (h : Spot l key r) (k : Spot l key s) : r = s := by
  have aux : ∀ {r s : Nat}, Spot l key r → Spot l key s → ¬ r < s := fun {r s} h k hlt => by
    have hr : r < l.length := Nat.lt_of_lt_of_le hlt k.le
    have h1 := k.lo r hr hlt
    rw [h.hi r hr (Nat.le_refl _)] at h1
    cases h1
  have h1 := aux h k
  have h2 := aux k h
  omega
theorem rising_iff (l : List Rc) : Rising l ↔ l.Pairwise (fun a c => lsB a.key c.key = true) := by
  rw [List.pairwise_iff_getElem]
  exact ⟨fun h i j hi hj hij => h i j hij hj, fun h a c hac hc => h a c (Nat.lt_trans hac hc) hc hac⟩
theorem Rising.nil : Rising [] := (rising_iff []).2 List.Pairwise.nil
theorem Spot.above {l : List Rc} {key : ByteArray} {r : Nat} (h : Spot l key r) (hri : Rising l) (hn : hasAt l r key = false) : ∀ c (hc : c < l.length), r ≤ c → lsB key l[c].key = true := by
  intro c hc hrc
  refine lsB_flip' _ _ (h.hi c hc hrc) (fun e => ?_)
  rcases Nat.eq_or_lt_of_le hrc with rfl | hlt
  · rw [has_iff.2 ⟨hc, e⟩] at hn; cases hn
  · have h1 := hri r c hlt hc
    rw [e, h.hi r (Nat.lt_trans hlt hc) (Nat.le_refl _)] at h1
    cases h1
theorem mem_take_get {l : List Rc} {r : Nat} {m : Rc} (h : m ∈ l.take r) : ∃ (c : Nat) (hc : c < l.length), c < r ∧ l[c] = m := by
  obtain ⟨c, hc, e⟩ := List.getElem_of_mem h
  rw [List.length_take] at hc
  rw [List.getElem_take] at e
  exact ⟨c, by omega, by omega, e⟩
theorem mem_drop_get {l : List Rc} {r : Nat} {m : Rc} (h : m ∈ l.drop r) : ∃ (c : Nat) (hc : c < l.length), r ≤ c ∧ l[c] = m := by
  obtain ⟨c, hc, e⟩ := List.getElem_of_mem h
  rw [List.length_drop] at hc
  rw [List.getElem_drop] at e
  exact ⟨r + c, by omega, by omega, e⟩
theorem set_keys {l : List Rc} {r : Nat} {m : Rc} (h : r < l.length) (e : l[r].key = m.key) : (l.set r m).map Rc.key = l.map Rc.key := by
  rw [List.map_set, ← e]
  apply List.ext_getElem?
  intro i
  rw [List.getElem?_set]
  split
  · rename_i hi
    subst hi
    simp [h]
  · rfl
theorem rising_keys (l : List Rc) : Rising l ↔ (l.map Rc.key).Pairwise (fun a c => lsB a c = true) := by
  rw [rising_iff, List.pairwise_map]
theorem putL_rising {l : List Rc} {r : Nat} {m : Rc} (hri : Rising l) (hs : Spot l m.key r) : Rising (putL l r m) := by
  unfold putL
  split
  · rename_i hh
    obtain ⟨h1, h2⟩ := has_iff.1 hh
    rw [rising_keys, set_keys h1 h2, ← rising_keys]
    exact hri
  · rename_i hh
    have hn : hasAt l r m.key = false := by simpa using hh
    have hp := (rising_iff l).1 hri
    rw [rising_iff, List.pairwise_append, List.pairwise_cons]
    refine ⟨hp.sublist (List.take_sublist _ _), ⟨fun c hc => ?_, hp.sublist (List.drop_sublist _ _)⟩, fun a ha c hc => ?_⟩
    · obtain ⟨i, hi, hri2, rfl⟩ := mem_drop_get hc
      exact hs.above hri hn i hi hri2
    · obtain ⟨i, hi, hir, rfl⟩ := mem_take_get ha
      rcases List.mem_cons.1 hc with rfl | hc
      · exact hs.lo i hi hir
      · obtain ⟨j, hj, hrj, rfl⟩ := mem_drop_get hc
        exact hri i j (by omega) hj
theorem dropL_rising {l : List Rc} {r : Nat} {key : ByteArray} (hri : Rising l) : Rising (dropL l r key) := by
  unfold dropL
  split
  · rw [rising_iff] at hri ⊢
    exact hri.sublist (List.eraseIdx_sublist _ _)
  · exact hri
theorem putL_mem {l : List Rc} {r : Nat} {m q : Rc} (h : q ∈ putL l r m) : q = m ∨ q ∈ l := by
  unfold putL at h
  split at h
  · exact (List.mem_or_eq_of_mem_set h).symm
  · rcases List.mem_append.1 h with h | h
    · exact Or.inr (List.mem_of_mem_take h)
    · rcases List.mem_cons.1 h with h | h
      · exact Or.inl h
      · exact Or.inr (List.mem_of_mem_drop h)
theorem dropL_mem {l : List Rc} {r : Nat} {key : ByteArray} {q : Rc} (h : q ∈ dropL l r key) : q ∈ l := by
  unfold dropL at h
  split at h
  · exact List.mem_of_mem_eraseIdx h
  · exact h
theorem putL_len (l : List Rc) (r : Nat) (m : Rc) : (putL l r m).length ≤ l.length + 1 := by
  unfold putL
  split
  · rw [List.length_set]; omega
  · rw [List.length_append, List.length_cons, List.length_take, List.length_drop]; omega
theorem dropL_len (l : List Rc) (r : Nat) (key : ByteArray) : (dropL l r key).length ≤ l.length := by
  unfold dropL
  split
  · exact (List.eraseIdx_sublist _ _).length_le
  · exact Nat.le_refl _
/-- Behind a new record: where it stands. -/
theorem putL_spot {l : List Rc} {r : Nat} {m : Rc} (hri : Rising l) (hs : Spot l m.key r) (hn : hasAt l r m.key = false) : Spot (putL l r m) m.key r ∧ hasAt (putL l r m) r m.key = true ∧ dropL (putL l r m) r m.key = l ∧ (putL l r m).length = l.length + 1 := by
  have e : putL l r m = l.take r ++ m :: l.drop r := by unfold putL; rw [hn]; rfl
  have hr := hs.le
  have hl : (l.take r).length = r := by rw [List.length_take]; omega
  have hlen : (l.take r ++ m :: l.drop r).length = l.length + 1 := by rw [List.length_append, List.length_cons, List.length_drop, hl]; omega
  have hat : (l.take r ++ m :: l.drop r)[r]? = some m := by rw [List.getElem?_append_right (by omega), hl, Nat.sub_self]; rfl
  have hrl : r < (l.take r ++ m :: l.drop r).length := by omega
  have hh : hasAt (l.take r ++ m :: l.drop r) r m.key = true := by
    unfold hasAt; rw [hat]; simp
  have hri2 := putL_rising hri hs
  rw [e] at hri2 ⊢
  have hrm : (l.take r ++ m :: l.drop r)[r] = m := by rw [List.getElem?_eq_getElem hrl] at hat; exact Option.some.inj hat
  refine ⟨⟨by omega, fun a ha har => ?_, fun a ha har => ?_⟩, hh, ?_, hlen⟩
  · have := hri2 a r har hrl
    rw [hrm] at this
    exact this
  · rcases Nat.eq_or_lt_of_le har with rfl | hlt
    · rw [hrm]; exact lsB_irr _
    · have h1 := hri2 r a hlt ha
      rw [hrm] at h1
      cases h2 : lsB (l.take r ++ m :: l.drop r)[a].key m.key
      · rfl
      · have := lsB_trans h1 h2
        rw [lsB_irr] at this
        cases this
  · unfold dropL
    rw [if_pos hh, List.eraseIdx_append_of_length_le (by omega), hl, Nat.sub_self, List.eraseIdx_cons_zero, List.take_append_drop]

theorem rcCells_app (a b : List Rc) : rcCells (a ++ b) = rcCells a ++ rcCells b := by unfold rcCells; rw [List.flatMap_append]
theorem rcCells_take (l : List Rc) (r : Nat) (hr : r ≤ l.length) : (rcCells l).take (r * 2) = rcCells (l.take r) := by
  conv => lhs; rw [← List.take_append_drop r l, rcCells_app]
  exact List.take_left' (by rw [rcCells_len, List.length_take]; omega)
theorem rcCells_drop (l : List Rc) (r : Nat) (hr : r ≤ l.length) : (rcCells l).drop (r * 2) = rcCells (l.drop r) := by
  conv => lhs; rw [← List.take_append_drop r l, rcCells_app]
  exact List.drop_left' (by rw [rcCells_len, List.length_take]; omega)
theorem rcCells_ins (l : List Rc) (r : Nat) (m : Rc) (hr : r ≤ l.length) : (rcCells l).take (r * 2) ++ [.string m.key, .string m.dat] ++ (rcCells l).drop (r * 2) = rcCells (l.take r ++ m :: l.drop r) := by
  rw [rcCells_take l r hr, rcCells_drop l r hr, rcCells_app, List.append_assoc]
  rfl
theorem rcCells_del (l : List Rc) (r : Nat) (hr : r < l.length) : (rcCells l).take (r * 2) ++ (rcCells l).drop (r * 2 + 2) = rcCells (l.eraseIdx r) := by
  rw [rcCells_take l r (by omega), show r * 2 + 2 = (r + 1) * 2 by omega, rcCells_drop l (r + 1) hr, List.eraseIdx_eq_take_drop_succ, rcCells_app]
theorem rcCells_set (l : List Rc) (r : Nat) (m : Rc) (hr : r < l.length) : ((rcCells l).set (r * 2) (.string m.key)).set (r * 2 + 1) (.string m.dat) = rcCells (l.set r m) := by
  have e : rcCells l = rcCells (l.take r) ++ (.string l[r].key :: .string l[r].dat :: rcCells (l.drop (r + 1))) := by
    conv => lhs; rw [← List.take_append_drop r l, rcCells_app, List.drop_eq_getElem_cons hr]
    rfl
  have hl : (rcCells (l.take r)).length = r * 2 := by rw [rcCells_len, List.length_take]; omega
  have e2 : l.set r m = l.take r ++ m :: l.drop (r + 1) := by rw [List.set_eq_take_append_cons_drop, if_pos hr]
  rw [e, e2, List.set_append_right _ _ (by omega), List.set_append_right _ _ (by omega), hl, Nat.sub_self, show r * 2 + 1 - r * 2 = 1 by omega, rcCells_app]
  rfl
theorem rcCells_one (l : List Rc) : ∀ u ∈ rcCells l, u.oneCell' = true := by
  intro u hu
  unfold rcCells at hu
  rw [List.mem_flatMap] at hu
  obtain ⟨m, _, hm⟩ := hu
  simp only [List.mem_cons, List.not_mem_nil, or_false] at hm
  rcases hm with rfl | rfl <;> rfl
theorem txC_one (l : List ByteArray) : ∀ u ∈ txC l, u.oneCell' = true := by
  intro u hu
  unfold txC at hu
  rw [List.mem_map] at hu
  obtain ⟨m, _, rfl⟩ := hu
  rfl
theorem Lvs.put {T T' : List ByteArray} (e : Ext T T') {l : List Rc} {ls : List ByteArray} (h : Lvs T l ls) (r : Nat) (m : Rc) (hm : leafT m ∈ T') : Lvs T' (l.take r ++ m :: l.drop r) (ls.take r ++ dig T' (leafT m) :: ls.drop r) := by
  have h' := h.ext e
  refine ⟨?_, fun q hq => ?_⟩
  · rw [h'.1]; simp
  · rcases List.mem_append.1 hq with hq | hq
    · exact h'.2 q (List.mem_of_mem_take hq)
    · rcases List.mem_cons.1 hq with rfl | hq
      · exact hm
      · exact h'.2 q (List.mem_of_mem_drop hq)
theorem Lvs.set {T T' : List ByteArray} (e : Ext T T') {l : List Rc} {ls : List ByteArray} (h : Lvs T l ls) (r : Nat) (m : Rc) (hm : leafT m ∈ T') : Lvs T' (l.set r m) (ls.set r (dig T' (leafT m))) := by
  have h' := h.ext e
  refine ⟨?_, fun q hq => ?_⟩
  · rw [h'.1, List.map_set]
  · rcases List.mem_or_eq_of_mem_set hq with hq | rfl
    · exact h'.2 q hq
    · exact hm
theorem Lvs.del {T : List ByteArray} {l : List Rc} {ls : List ByteArray} (h : Lvs T l ls) (r : Nat) : Lvs T (l.eraseIdx r) (ls.take r ++ ls.drop (r + 1)) :=
  ⟨by rw [h.1, List.eraseIdx_eq_take_drop_succ, List.map_append, List.map_take, List.map_drop], fun q hq => h.2 q (List.mem_of_mem_eraseIdx hq)⟩
end Go.Proofs.YtpcafjbebhcilaaGreat

namespace Go.Proofs.YtpcafjbebhcilaaGreat
open Go.RowKit
set_option linter.unusedSimpArgs false
set_option linter.unusedVariables false

/-! A store of a whole row as the next step of a held region. -/
theorem step_ifC {P : Program} {ops : Array Oper} {o : Oper} {a : Act} {w : World} {K : Act → World → Prop} {Q : Exit → Act → World → Prop} {E : Prop} (hg : o.guard = none) (h : Oper.wp P o a w K Q) :
    if Region.wanted o (yielded ops a.tmps) = true then Oper.wp P o a w K Q else E := by
  have hw : Region.wanted o (yielded ops a.tmps) = true := by simp [Region.wanted, hg]
  rw [if_pos hw]; exact h

theorem wp_store_rowN {P : Program} {type : TypeId} {pos : String} {after : Array Edge} {guard : Option (Nat × Bool)} {a : Act} {w : World} {K : Act → World → Prop} {Q : Exit → Act → World → Prop} {ty : TypeId} {x y : Operand} (g : Nat) (cells : Array Value) (hx : a.eval x = .pointer (some ⟨g, 0, none⟩)) (hy : a.eval y = .agg cells) (t : TypeId) (old : Array Value) (hg : w.heap[g]? = some (.cells old t (0, 0))) (hi : (P.info? ty).map (·.size) = some cells.size) (hold : old.size = cells.size) (h1 : cells.all (·.oneCell') = true) (h : K a (w.setRow g cells)) : Oper.wp P { dst := none, op := .store ty x y, type := type, pos := pos, after := after, guard := guard } a w K Q :=
  wp_store_row ty x y rfl g cells hx hy t old hg hi hold h1 h
theorem readyH_rowC {P : Program} {md : Region.Mode} {ops : Array Oper} {Q : Exit → Act → World → Prop} {S : World → Prop} {fuel : Nat} {listed : Array Bool} {a : Act} {w : World} (i : Nat) {o : Oper} (ho : ops[i]? = some o) {ty : TypeId} {x y : Operand} (hop : o.op = .store ty x y) (hd : o.dst = none) (hgd : o.guard = none) (g : Nat) (cells : Array Value) (hx : a.eval x = .pointer (some ⟨g, 0, none⟩)) (hy : a.eval y = .agg cells) (t : TypeId) (old : Array Value) (hg : w.heap[g]? = some (.cells old t (0, 0))) (hi : (P.info? ty).map (·.size) = some cells.size) (hold : old.size = cells.size) (h1 : cells.all (·.oneCell') = true) (hS : S (w.setRow g cells)) (h : S (w.setRow g cells) → wpAnyH P md ops Q S fuel (listed.setIfInBounds i true) a (w.setRow g cells)) : AllReadyH P md ops Q S fuel listed a w [i] := by
  obtain ⟨dst, op, type, pos, after, guard⟩ := o
  simp only at hop hd hgd
  subst hop hd hgd
  exact AllReadyH.cons ho (fun K hK => step_ifC rfl (wp_store_rowN g cells hx hy t old hg hi hold h1 (hK.out _ _ hS h))) AllReadyH.nil
end Go.Proofs.YtpcafjbebhcilaaGreat
