/- A log behind a store into one of its slots, and behind a note into one of its maps. -/
import Derived.Test.YtjpmnmgnbpecjaaVlE
namespace Go.Proofs.Ytjpmnmgnbpecjaa
open Go.Shelf Go.RowKit Go.Lib Go.Sort
open Go.ChangeMaps (setBlock)
set_option linter.unusedSimpArgs false
set_option linter.unusedVariables false

theorem heap_setCells_other (b : Nat) : ∀ (vs : List Value) (o : Nat) (w : World) (k : Nat), k ≠ b → (w.setCells b o vs).heap[k]? = w.heap[k]?
  | [], o, w, k, h => rfl
  | v :: r, o, w, k, h => by
    show ((w.setCell ⟨b, o, none⟩ v).setCells b (o + 1) r).heap[k]? = _
    rw [heap_setCells_other b r (o + 1) _ k h]
    exact heap_setCell_other w ⟨b, o, none⟩ k v h
theorem size_setCells (b : Nat) : ∀ (vs : List Value) (o : Nat) (w : World), (w.setCells b o vs).heap.size = w.heap.size
  | [], o, w => rfl
  | v :: r, o, w => by
    show ((w.setCell ⟨b, o, none⟩ v).setCells b (o + 1) r).heap.size = _
    rw [size_setCells b r (o + 1)]
    simp [World.setCell]
theorem rest_setCells (b : Nat) : ∀ (vs : List Value) (o : Nat) (w : World), (w.setCells b o vs).os = w.os ∧ (w.setCells b o vs).tape = w.tape ∧ (w.setCells b o vs).output = w.output
  | [], o, w => ⟨rfl, rfl, rfl⟩
  | v :: r, o, w => rest_setCells b r (o + 1) (w.setCell ⟨b, o, none⟩ v)
theorem Blk.setCells {k : Nat} {t : TypeId} : ∀ (vs : List Value) (o : Nat) {w : World} {cs : Array Value}, Blk w k cs t → ∃ cs', Blk (w.setCells k o vs) k cs' t ∧ cs'.size = cs.size
  | [], o, w, cs, h => ⟨cs, h, rfl⟩
  | v :: r, o, w, cs, h => by
    obtain ⟨cs', h1, h2⟩ := Blk.setCells r (o + 1) (h.set o v)
    exact ⟨cs', h1, by rw [h2]; simp⟩
theorem there_blk {w : World} {k : Nat} {cs : Array Value} {t : TypeId} (h : Blk w k cs t) {o n : Nat} (hn : o + n ≤ cs.size) : w.there k o n := fun j hj => by
  refine ⟨?_, h.frozen⟩
  rw [h.cell (o := o + j) (v := cs[o + j]'(by omega)) (by simp [show o + j < cs.size by omega])]
  rfl
/-- A range behind a store inside it. -/
theorem rangeAt_in {w : World} {b o i : Nat} {cs vs : List Value} (h : w.rangeAt b o cs) (ht : w.there b (o + i) vs.length) (hi : i + vs.length ≤ cs.length) :
    (w.setCells b (o + i) vs).rangeAt b o (cs.take i ++ (vs ++ cs.drop (i + vs.length))) := by
  intro j v hv
  rcases Nat.lt_or_ge j i with h1 | h1
  · rw [List.getElem?_append_left (by simp; omega), List.getElem?_take, if_pos h1] at hv
    rw [World.cell?_setCells_out b vs (o + i) w ⟨b, o + j, none⟩ (fun _ _ => Or.inl (by show o + j < o + i; omega))]
    exact h j v hv
  · rw [List.getElem?_append_right (by simp; omega)] at hv
    have e1 : (cs.take i).length = i := by simp; omega
    rw [e1] at hv
    rcases Nat.lt_or_ge (j - i) vs.length with h2 | h2
    · rw [List.getElem?_append_left h2] at hv
      have := World.rangeAt_setCells_same w b (o + i) vs ht (j - i) v hv
      rwa [show o + i + (j - i) = o + j by omega] at this
    · rw [List.getElem?_append_right h2, List.getElem?_drop, show i + vs.length + (j - i - vs.length) = j by omega] at hv
      rw [World.cell?_setCells_out b vs (o + i) w ⟨b, o + j, none⟩ (fun _ _ => Or.inr (by show o + i + vs.length ≤ o + j; omega))]
      exact h j v hv

section
variable {w : World} {p : Nat} {mp : Nat → Option Nat} {L : Lv}
theorem Lv.set_self (L : Lv) (k : Nat) : L.set k (L.sl k) = L := by
  unfold Lv.set
  have : (fun j => if j = k then L.sl k else L.sl j) = L.sl := by funext j; split <;> simp_all
  rw [this]
theorem set_vts {L : Lv} {k : Nat} {s : Slot} (hp : s.pr = (L.sl k).pr) (hc : s.co = (L.sl k).co) (j : Nat) : (L.set k s).vts j = L.vts j := by
  unfold Lv.vts Lv.set
  simp only
  by_cases e : j / 2 = k
  · subst e; simp [hp, hc]
  · simp [e]
theorem Lg.pmap (h : Lg w p mp L) {j b : Nat} (hj : j < 17) (hb : mp j = some b) : b ≠ p := by
  obtain ⟨cs, hB, _⟩ := h.blk
  have := h.maps j hj
  rw [hb] at this
  exact this.blk hB
theorem Lg.there (h : Lg w p mp L) {o n : Nat} (hn : o + n ≤ 108) : w.there p o n := by
  obtain ⟨cs, hB, hs⟩ := h.blk
  exact there_blk hB (by omega)
theorem Lg.sne (h : Lg w p mp L) {g : Nat} {cs : Array Value} (hB : Blk w g cs 38) : g ≠ p := by
  obtain ⟨cs2, hB2, _⟩ := h.blk
  intro e
  subst e
  unfold Blk at hB hB2
  rw [hB] at hB2
  simp at hB2
theorem Lg.smn (h : Lg w p mp L) {g : Nat} {cs : Array Value} (hB : Blk w g cs 38) {j b : Nat} (hj : j < 17) (hb : mp j = some b) : g ≠ b := by
  have hm := h.maps j hj
  rw [hb] at hm
  exact fun e => hm.blk hB e.symm
/-- A store into a slot that leaves its maps. -/
theorem Lg.store (h : Lg w p mp L) {k i : Nat} (hk : k < 8) {vs : List Value} (hi : i + vs.length ≤ 13) {s' : Slot} {lv lv' : Value} (hr : w.rangeAt p (3 + k * 13) (slC (L.sl k) (mp (2 * k)) (mp (2 * k + 1)) lv))
    (hnew : slC s' (mp (2 * k)) (mp (2 * k + 1)) lv' = (slC (L.sl k) (mp (2 * k)) (mp (2 * k + 1)) lv).take i ++ (vs ++ (slC (L.sl k) (mp (2 * k)) (mp (2 * k + 1)) lv).drop (i + vs.length))) (hlv : Sgr w 0 lv' s'.fl) (hpr : s'.pr = (L.sl k).pr) (hco : s'.co = (L.sl k).co) :
    Lg (w.setCells p (3 + k * 13 + i) vs) p mp (L.set k s') where
  blk := by
    obtain ⟨cs, hB, hs⟩ := h.blk
    obtain ⟨cs', h1, h2⟩ := hB.setCells vs (3 + k * 13 + i)
    exact ⟨cs', h1, by omega⟩
  head := World.rangeAt_setCells_apart h.head _ _ _ (Or.inr (Or.inl (by simp; omega)))
  slot := fun j hj => by
    by_cases e : j = k
    · subst e
      have e2 : (L.set j s').sl j = s' := by simp [Lv.set]
      rw [e2]
      refine ⟨lv', ?_, hlv.keep fun g cs hB => heap_setCells_other p vs _ w g (h.sne hB)⟩
      have := rangeAt_in (i := i) hr (vs := vs) (h.there (by omega)) (by show i + vs.length ≤ 13; exact hi)
      rw [← hnew] at this
      exact this
    · obtain ⟨lv2, h1, h2⟩ := h.slot j hj
      have e2 : (L.set k s').sl j = L.sl j := by simp [Lv.set, e]
      rw [e2]
      refine ⟨lv2, World.rangeAt_setCells_apart h1 _ _ _ (Or.inr ?_), h2.keep fun g cs hB => heap_setCells_other p vs _ w g (h.sne hB)⟩
      rcases Nat.lt_or_ge j k with h3 | h3
      · exact Or.inl (by show 3 + j * 13 + 13 ≤ _; omega)
      · exact Or.inr (by omega)
  last := World.rangeAt_setCells_apart h.last _ _ _ (Or.inr (Or.inr (by omega)))
  maps := fun j hj => by
    rw [set_vts hpr hco]
    exact (h.maps j hj).keep fun b hb => heap_setCells_other _ _ _ _ _ (h.pmap hj hb)
  inj := h.inj
theorem stp_setCells (p : Nat) (mp : Nat → Option Nat) (w : World) (o : Nat) (vs : List Value) : Stp p mp w mp (w.setCells p o vs) :=
  ⟨(rest_setCells p vs o w).1, (rest_setCells p vs o w).2.1, (rest_setCells p vs o w).2.2, by rw [size_setCells]; exact Nat.le_refl _, fun k _ hk _ => heap_setCells_other _ _ _ _ _ hk, fun j b hj hb => Or.inl ⟨j, hj, hb⟩⟩

/-- A log with other votes in one of its maps. -/
def Lv.setv (L : Lv) (j : Nat) (l : Vts) : Lv := if j = 16 then { L with ck := l } else L.set (j / 2) (if j % 2 = 0 then { L.sl (j / 2) with pr := l } else { L.sl (j / 2) with co := l })
theorem setv_vts (L : Lv) (j : Nat) (l : Vts) (hj : j < 17) (i : Nat) (hi : i < 17) : (L.setv j l).vts i = if i = j then l else L.vts i := by
  unfold Lv.setv
  by_cases h1 : j = 16
  · subst h1
    unfold Lv.vts
    simp only [if_true]
    by_cases h2 : i = 16 <;> simp [h2]
  · rw [if_neg h1]
    unfold Lv.vts Lv.set
    simp only
    by_cases h2 : i = 16
    · have : ¬ i = j := by omega
      simp [h2, this]
      intro e; omega
    · simp only [h2, if_false]
      by_cases e : i / 2 = j / 2
      · by_cases p1 : j % 2 = 0 <;> by_cases p2 : i % 2 = 0
        · have : i = j := by omega
          simp [e, p1, p2, this]
        · have : ¬ i = j := by omega
          simp [e, p1, p2, this]
        · have : ¬ i = j := by omega
          simp [e, p1, p2, this]
        · have : i = j := by omega
          simp [e, p1, p2, this]
      · have : ¬ i = j := by omega
        simp [e, this]
theorem setv_slC (L : Lv) (j : Nat) (l : Vts) (k : Nat) (a b : Option Nat) (lv : Value) : slC ((L.setv j l).sl k) a b lv = slC (L.sl k) a b lv ∧ ((L.setv j l).sl k).fl = (L.sl k).fl ∧ (L.setv j l).n = L.n ∧ (L.setv j l).vw = L.vw ∧ (L.setv j l).lo = L.lo := by
  unfold Lv.setv
  split
  · exact ⟨rfl, rfl, rfl, rfl, rfl⟩
  · unfold Lv.set
    simp only
    refine ⟨?_, ?_, trivial, trivial, trivial⟩ <;> split <;> (try split) <;> simp_all [slC]
theorem Lg.put_old (h : Lg w p mp L) {w' : World} {j b : Nat} (hj : j < 17) (hb : mp j = some b) (l' : Vts) (h1 : w'.heap[b]? = some (.map (ents l') l'.length)) (h2 : ∀ k, k < w.heap.size → k ≠ b → w'.heap[k]? = w.heap[k]?) : Lg w' p mp (L.setv j l') where
  blk := by obtain ⟨cs, hB, hs⟩ := h.blk; exact ⟨cs, (h2 p h.lt (fun e => h.pmap hj hb e.symm)).trans hB, hs⟩
  head := by
    obtain ⟨_, _, e1, e2, e3⟩ := setv_slC L j l' 0 none none (.slice none 0 0)
    rw [e1, e2, e3]
    exact rangeAt_block h.head (h2 p h.lt (fun e => h.pmap hj hb e.symm))
  slot := fun k hk => by
    obtain ⟨lv, h3, h4⟩ := h.slot k hk
    obtain ⟨e1, e2, _⟩ := setv_slC L j l' k (mp (2 * k)) (mp (2 * k + 1)) lv
    refine ⟨lv, by rw [e1]; exact rangeAt_block h3 (h2 p h.lt (fun e => h.pmap hj hb e.symm)), by rw [e2]; exact h4.keep fun g cs hB => h2 g hB.lt (h.smn hB hj hb)⟩
  last := rangeAt_block h.last (h2 p h.lt (fun e => h.pmap hj hb e.symm))
  maps := fun i hi => by
    rw [setv_vts L j l' hj i hi]
    by_cases e : i = j
    · subst e
      rw [if_pos rfl, hb]
      exact h1
    · rw [if_neg e]
      exact (h.maps i hi).keep fun c hc => h2 c (h.mlt hi hc) (fun e2 => e (h.inj i j c hi hj hc (e2 ▸ hb)))
  inj := h.inj
/-- Where the cell of a map lies. -/
def cellOf (j : Nat) : Nat := if j = 16 then 107 else 3 + j / 2 * 13 + (3 + j % 2)
theorem Lg.mcell (h : Lg w p mp L) {j : Nat} (hj : j < 17) : w.cell? ⟨p, cellOf j, none⟩ = some (.map (mp j)) := by
  unfold cellOf
  by_cases e : j = 16
  · rw [if_pos e]; subst e; exact h.cl
  · rw [if_neg e]
    obtain ⟨lv, h1, _⟩ := h.slot (j / 2) (by omega)
    rcases Nat.mod_two_eq_zero_or_one j with m | m
    · rw [m]
      have := h1 3 _ rfl
      rwa [show 2 * (j / 2) = j by omega] at this
    · rw [m]
      have := h1 4 _ rfl
      rwa [show 2 * (j / 2) + 1 = j by omega] at this
theorem Lg.put_new (h : Lg w p mp L) {w' : World} {j b : Nat} (hj : j < 17) (hn : mp j = none) (hb : w.heap.size ≤ b) (l' : Vts) (h1 : w'.heap[b]? = some (.map (ents l') l'.length)) (h2 : ∀ k, k < w.heap.size → k ≠ p → w'.heap[k]? = w.heap[k]?) (h3 : w'.heap[p]? = (w.setCells p (cellOf j) [.map (some b)]).heap[p]?) : Lg w' p (fun i => if i = j then some b else mp i) (L.setv j l') where
  blk := by
    obtain ⟨cs, hB, hs⟩ := h.blk
    obtain ⟨cs', h4, h5⟩ := hB.setCells [.map (some b)] (cellOf j)
    exact ⟨cs', h3.trans h4, by omega⟩
  head := by
    obtain ⟨_, _, e1, e2, e3⟩ := setv_slC L j l' 0 none none (.slice none 0 0)
    rw [e1, e2, e3]
    exact rangeAt_block (World.rangeAt_setCells_apart h.head _ _ _ (Or.inr (Or.inl (by unfold cellOf; simp; split <;> omega)))) h3
  slot := fun k hk => by
    obtain ⟨lv, h5, h6⟩ := h.slot k hk
    obtain ⟨e1, e2, _⟩ := setv_slC L j l' k (if 2 * k = j then some b else mp (2 * k)) (if 2 * k + 1 = j then some b else mp (2 * k + 1)) lv
    refine ⟨lv, ?_, by rw [e2]; exact h6.keep fun g cs hB => h2 g hB.lt (h.sne hB)⟩
    · rw [e1]
      refine rangeAt_block ?_ h3
      by_cases ej : j = 16
      · rw [if_neg (by omega), if_neg (by omega)]
        exact World.rangeAt_setCells_apart h5 _ _ _ (Or.inr (Or.inl (by unfold cellOf; rw [if_pos ej]; show 3 + k * 13 + 13 ≤ _; omega)))
      · unfold cellOf
        rw [if_neg ej]
        by_cases ek : j / 2 = k
        · rw [ek]
          have hth := h.there (o := 3 + k * 13 + (3 + j % 2)) (n := 1) (by omega)
          have := rangeAt_in (i := 3 + j % 2) (vs := [.map (some b)]) h5 hth (by show 3 + j % 2 + 1 ≤ 13; omega)
          rcases Nat.mod_two_eq_zero_or_one j with m | m
          · rw [if_pos (by omega), if_neg (by omega)]
            rw [m] at this ⊢
            exact this
          · rw [if_neg (by omega), if_pos (by omega)]
            rw [m] at this ⊢
            exact this
        · rw [if_neg (by omega), if_neg (by omega)]
          refine World.rangeAt_setCells_apart h5 _ _ _ (Or.inr ?_)
          rcases Nat.lt_or_ge k (j / 2) with h7 | h7
          · exact Or.inl (by show 3 + k * 13 + 13 ≤ _; omega)
          · exact Or.inr (by show 3 + j / 2 * 13 + (3 + j % 2) + 1 ≤ _; omega)
  last := by
    refine rangeAt_block ?_ h3
    by_cases ej : j = 16
    · subst ej
      exact World.rangeAt_setCells_same w p 107 [.map (some b)] (h.there (by simp))
    · rw [if_neg (by omega)]
      exact World.rangeAt_setCells_apart h.last _ _ _ (Or.inr (Or.inr (by unfold cellOf; rw [if_neg ej]; simp; omega)))
  maps := fun i hi => by
    rw [setv_vts L j l' hj i hi]
    by_cases e : i = j
    · subst e
      rw [if_pos rfl, if_pos rfl]
      exact h1
    · rw [if_neg e, if_neg e]
      exact (h.maps i hi).keep fun c hc => h2 c (h.mlt hi hc) (h.pmap hi hc)
  inj := fun x y c hx hy e1 e2 => by
    by_cases ex : x = j <;> by_cases ey : y = j
    · omega
    · rw [if_pos ex] at e1
      rw [if_neg ey] at e2
      have := h.mlt hy e2
      simp at e1
      omega
    · rw [if_neg ex] at e1
      rw [if_pos ey] at e2
      have := h.mlt hx e1
      simp at e2
      omega
    · rw [if_neg ex] at e1
      rw [if_neg ey] at e2
      exact h.inj x y c hx hy e1 e2
end
end Go.Proofs.Ytjpmnmgnbpecjaa
