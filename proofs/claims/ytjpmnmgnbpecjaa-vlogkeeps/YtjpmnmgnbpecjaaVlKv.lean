/- The kept proofs as they lie in a row; rows of bools; what keeps them. -/
import Derived.Test.YtjpmnmgnbpecjaaVlSb
import Derived.Test.YtjpmnmgnbpecjaaVlKi
namespace Go.Proofs.Ytjpmnmgnbpecjaa
open Go.Shelf Go.RowKit Go.Lib Go.Sort
set_option linter.unusedSimpArgs false
set_option linter.unusedVariables false
variable {w w' : World} {p : Nat} {mp mp' : Nat → Option Nat} {L : Lv}
def KRow (w : World) (kv : Value) (ks : List (Slot × Value)) : Prop :=
  ∃ a cap, kv = .slice a ks.length cap ∧ ∀ i x, ks[i]? = some x → ∃ g cs, a = some ⟨g, 0, none⟩ ∧ Blk w g cs 34 ∧ ∀ j u, (bodyC x.1 x.2)[j]? = some u → cs[i * 8 + j]? = some u
/-- The proofs of a list of slots in a row. -/
def KV (w : World) (kv : Value) (l : List Slot) : Prop := ∃ ks : List (Slot × Value), ks.map (·.1) = l ∧ KRow w kv ks ∧ ∀ x ∈ ks, Sgr w 0 x.2 x.1.fl
theorem kbL_get : ∀ (ks : List (Slot × Value)) (i j : Nat) (x : Slot × Value) (u : Value), ks[i]? = some x → (bodyC x.1 x.2)[j]? = some u → (kbL ks)[i * 8 + j]? = some u
  | [], i, j, x, u, h, _ => by simp at h
  | y :: ks, i, j, x, u, h, hu => by
    have hj : j < 8 := (List.getElem?_eq_some_iff.1 hu).1
    show (bodyC y.1 y.2 ++ kbL ks)[i * 8 + j]? = some u
    have hl : (bodyC y.1 y.2).length = 8 := rfl
    cases i with
    | zero =>
      simp only [List.getElem?_cons_zero, Option.some.injEq] at h
      subst h
      rw [List.getElem?_append_left (by rw [hl]; omega)]
      simpa using hu
    | succ i =>
      simp only [List.getElem?_cons_succ] at h
      rw [List.getElem?_append_right (by rw [hl]; omega), hl, show (i + 1) * 8 + j - 8 = i * 8 + j by omega]
      exact kbL_get ks i j x u h hu
theorem KeptV.kv {base : Nat} {v : Value} {l : List Slot} (h : KeptV w base v l) : KV w v l := by
  obtain ⟨ks, h1, h2, h3⟩ := h
  refine ⟨ks, h1, ?_, fun x hx => (h3 x hx).mono (Nat.zero_le _)⟩
  obtain ⟨a, cap, e⟩ := own_form h2
  refine ⟨a, cap, e, fun i x hx => ?_⟩
  have hi : i < ks.length := (List.getElem?_eq_some_iff.1 hx).1
  rcases h2.2 with ⟨_, k2⟩ | ⟨g, cap', cur, k1, k2, k3, k4, k5, k6, k7⟩
  · omega
  · rw [e] at k1
    injection k1 with q1 q2 q3
    refine ⟨g, cur, q1, k3, fun j u hu => ?_⟩
    have hj : j < 8 := (List.getElem?_eq_some_iff.1 hu).1
    have e2 := kbL_get ks i j x u hx hu
    rw [← k7, List.getElem?_take, if_pos (by omega)] at e2
    simpa using e2
theorem KV.keep {v : Value} {l : List Slot} (h : KV w v l) (hb : ∀ g cs, Blk w g cs 34 → w'.heap[g]? = w.heap[g]?) (hs : ∀ g cs, Blk w g cs 38 → w'.heap[g]? = w.heap[g]?) : KV w' v l := by
  obtain ⟨ks, h1, ⟨a, cap, e, h2⟩, h3⟩ := h
  refine ⟨ks, h1, ⟨a, cap, e, fun i x hx => ?_⟩, fun x hx => (h3 x hx).keep hs⟩
  obtain ⟨g, cs, q1, q2, q3⟩ := h2 i x hx
  exact ⟨g, cs, q1, (hb g cs q2).trans q2, q3⟩
theorem KV.below {v : Value} {l : List Slot} (h : KV w v l) (hb : Below w.heap.size w w') : KV w' v l := h.keep (fun g cs X => hb.block g X.lt) (fun g cs X => hb.block g X.lt)
theorem blk_unlike {w : World} {x y : Nat} {c1 c2 : Array Value} {t1 t2 : TypeId} (h1 : Blk w x c1 t1) (h2 : Blk w y c2 t2) (ht : t1 ≠ t2) : x ≠ y := by
  intro e
  subst e
  have h : w.heap[x]? = some (.cells c1 t1) := h1
  have k : w.heap[x]? = some (.cells c2 t2) := h2
  rw [h] at k
  injection k with k
  injection k with _ k
  exact ht k
theorem KV.stp {v : Value} {l : List Slot} (h : KV w v l) (hl : Lg w p mp L) (hs : Stp p mp w mp' w') : KV w' v l := by
  obtain ⟨ls, hB, _⟩ := hl.blk
  exact h.keep (fun g cs X => (hs.keep hl X (blk_unlike X hB (by decide))).trans X.symm) (fun g cs X => (hs.keep hl X (blk_unlike X hB (by decide))).trans X.symm)
theorem KV.cell {v : Value} {l : List Slot} (h : KV w v l) {bw o : Nat} {cs : Array Value} {t : TypeId} (X : Blk w bw cs t) (h1 : t ≠ 34) (h2 : t ≠ 38) (u : Value) : KV (w.setCell ⟨bw, o, none⟩ u) v l := by
  have hk : ∀ k, k ≠ bw → (w.setCell ⟨bw, o, none⟩ u).heap[k]? = w.heap[k]? := fun k hk => heap_setCell_other _ _ _ _ (by show k ≠ bw; exact hk)
  exact h.keep (fun g cs' Y => hk g (fun e => blk_unlike X Y h1 e.symm)) (fun g cs' Y => hk g (fun e => blk_unlike X Y h2 e.symm))
theorem KV.len {v : Value} {l : List Slot} (h : KV w v l) : ∃ a cap, v = .slice a l.length cap := by
  obtain ⟨ks, h1, ⟨a, cap, e, _⟩, _⟩ := h
  exact ⟨a, cap, by rw [e, ← h1, List.length_map]⟩
/-- The cells of one of them. -/
theorem KV.at_ {v : Value} {l : List Slot} (h : KV w v l) {i : Nat} {s : Slot} (hi : l[i]? = some s) : ∃ g cap lv, v = .slice (some ⟨g, 0, none⟩) l.length cap ∧ g < w.heap.size ∧ Sgr w 0 lv s.fl ∧ ∀ j u, (bodyC s lv)[j]? = some u → w.cell? ⟨g, i * 8 + j, none⟩ = some u := by
  obtain ⟨ks, h1, ⟨a, cap, e, h2⟩, h3⟩ := h
  rw [← h1, List.getElem?_map] at hi
  cases hx : ks[i]? with
  | none => rw [hx] at hi; cases hi
  | some x =>
    rw [hx] at hi
    simp only [Option.map_some, Option.some.injEq] at hi
    subst hi
    obtain ⟨g, cs, q1, q2, q3⟩ := h2 i x hx
    exact ⟨g, cap, x.2, by rw [e, q1, ← h1, List.length_map], q2.lt, h3 x (List.mem_of_getElem? hx), fun j u hu => q2.cell (q3 j u hu)⟩
/-- A row of bools, as far as it was noted. -/
def Bls (w : World) (b : Nat) (f : Nat → Bool) (k : Nat) : Prop := ∃ cs, Blk w b cs 51 ∧ cs.size = 9 ∧ ∀ j : Nat, j < k → cs[j]? = some (.bool (f j))
theorem Bls.below {b : Nat} {f : Nat → Bool} {k : Nat} (h : Bls w b f k) (hb : Below w.heap.size w w') : Bls w' b f k := by
  obtain ⟨cs, h1, h2, h3⟩ := h
  exact ⟨cs, h1.below hb, h2, h3⟩
theorem Bls.stp {b : Nat} {f : Nat → Bool} {k : Nat} (h : Bls w b f k) (hl : Lg w p mp L) (hs : Stp p mp w mp' w') (hp : b ≠ p) : Bls w' b f k := by
  obtain ⟨cs, h1, h2, h3⟩ := h
  exact ⟨cs, hs.keep hl h1 hp, h2, h3⟩
theorem Bls.note {b : Nat} {f : Nat → Bool} {k : Nat} (h : Bls w b f k) (hk : k < 9) {x : Bool} (hx : f k = x) : Bls (w.setCell ⟨b, k, none⟩ (.bool x)) b f (k + 1) := by
  obtain ⟨cs, h1, h2, h3⟩ := h
  refine ⟨_, h1.set k _, by simpa using h2, fun j hj => ?_⟩
  rw [set_at _ (by omega)]
  by_cases e : j = k
  · subst e
    rw [if_pos rfl, hx]
  · rw [if_neg e]
    exact h3 j (by omega)
theorem Bls.other {b b2 o : Nat} {f : Nat → Bool} {k : Nat} (h : Bls w b f k) (hb : b ≠ b2) (u : Value) : Bls (w.setCell ⟨b2, o, none⟩ u) b f k := by
  obtain ⟨cs, h1, h2, h3⟩ := h
  exact ⟨cs, (heap_setCell_other _ _ _ _ (by show b ≠ b2; exact hb)).trans h1, h2, h3⟩
theorem Bls.cellAt {b : Nat} {f : Nat → Bool} {k : Nat} (h : Bls w b f k) {j : Nat} (hj : j < k) : w.cell? ⟨b, j, none⟩ = some (.bool (f j)) := by
  obtain ⟨cs, h1, h2, h3⟩ := h
  exact h1.cell (h3 j hj)
theorem Bls.any {b : Nat} {f : Nat → Bool} {k : Nat} (h : Bls w b f k) {j : Nat} (hj : j < 9) : ∃ u, w.cell? ⟨b, j, none⟩ = some u := by
  obtain ⟨cs, h1, h2, h3⟩ := h
  exact ⟨_, h1.cell (Array.getElem?_eq_getElem (by omega))⟩
theorem Bls.froz {b : Nat} {f : Nat → Bool} {k : Nat} (h : Bls w b f k) (o : Nat) : w.frozen? ⟨b, o, none⟩ = false := by
  obtain ⟨cs, h1, h2, h3⟩ := h
  exact h1.frozen
end Go.Proofs.Ytjpmnmgnbpecjaa
