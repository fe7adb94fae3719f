/- A store of a whole row as the next step of a held region. -/
import Derived.Test.YtmcafgmjfgfaeaaDoorLr10
import Derived.Deep.RegionHeldLaw
import Derived.Deep.RegionHeld3
import Derived.Test.YtmcafgmjfgfaeaaDoorLr22
import Derived.Deep.DeepCutAuto
import Derived.Deep.CutBlock
namespace Go.Proofs.YtmcafgmjfgfaeaaDoor
open Go.RowKit
set_option linter.unusedSimpArgs false
set_option linter.unusedVariables false

/-! A store of a whole row as the next step of a held region. -/
theorem step_ifC {P : Program} {ops : Array Oper} {o : Oper} {a : Act} {w : World} {K : Act → World → Prop} {Q : Exit → Act → World → Prop} {E : Prop} (hg : o.guard = none) (h : Oper.wp P o a w K Q) :
    if Region.wanted o (yielded ops a.tmps) = true then Oper.wp P o a w K Q else E := by
  have hw : Region.wanted o (yielded ops a.tmps) = true := by simp [Region.wanted, hg]
  rw [if_pos hw]; exact h

theorem wp_store_rowN {P : Program} {type : TypeId} {pos : String} {after : Array Edge} {guard : Option (Nat × Bool)} {a : Act} {w : World} {K : Act → World → Prop} {Q : Exit → Act → World → Prop} {ty : TypeId} {x y : Operand} (g : Nat) (cells : Array Value) (hx : a.eval x = .pointer (some ⟨g, 0, none⟩)) (hy : a.eval y = .agg cells) (t : TypeId) (old : Array Value) (hg : w.heap[g]? = some (.cells old t (0, 0))) (hi : (P.info? ty).map (·.size) = some cells.size) (hold : old.size = cells.size) (h1 : cells.all (·.oneCell') = true) (h : K a (w.setRow g cells)) : Oper.wp P { dst := none, op := .store ty x y, type := type, pos := pos, after := after, guard := guard } a w K Q :=
  wp_store_row ty x y rfl g cells hx hy t old hg hi hold h1 h
theorem readyH_rowC {P : Program} {md : Region.Mode} {ops : Array Oper} {Q : Exit → Act → World → Prop} {S : World → Prop} {fuel : Nat} {listed : Array Bool} {a : Act} {w : World} (i : Nat) {o : Oper} (ho : ops[i]? = some o) {ty : TypeId} {x y : Operand} (hop : o.op = .store ty x y) (hd : o.dst = none) (hgd : o.guard = none) (g : Nat) (cells : Array Value) (hx : a.eval x = .pointer (some ⟨g, 0, none⟩)) (hy : a.eval y = .agg cells) (t : TypeId) (old : Array Value) (hg : w.heap[g]? = some (.cells old t (0, 0))) (hi : (P.info? ty).map (·.size) = some cells.size) (hold : old.size = cells.size) (h1 : cells.all (·.oneCell') = true) (hS : S (w.setRow g cells)) (h : S (w.setRow g cells) → wpAnyH P md ops Q S fuel (listed.setIfInBounds i true) a (w.setRow g cells)) : AllReadyH P md ops Q S fuel listed a w [i] := by
  obtain ⟨dst, op, type, pos, after, guard⟩ := o
  simp only at hop hd hgd
  subst hop hd hgd
  exact AllReadyH.cons ho (fun K hK => step_ifC rfl (wp_store_rowN g cells hx hy t old hg hi hold h1 (hK.out _ _ hS h))) AllReadyH.nil
end Go.Proofs.YtmcafgmjfgfaeaaDoor

namespace Go.Proofs.YtmcafgmjfgfaeaaDoor
open Go.RowKit
set_option linter.unusedSimpArgs false
set_option linter.unusedVariables false

/-- Which number goes to a place, if any. -/
def idx (g f : Nat) : Option Nat := if f = 10 then some 0 else if f = 0 then some 1 else if f = 1 then some 2 else if f < 6 then (if f - 2 < g then some (f + 1) else none) else if f < 10 then (if f - 6 < g then some (f + g - 3) else none) else none
/-- Where the number j goes. -/
def fld (g j : Nat) : Nat := if j = 0 then 10 else if j = 1 then 0 else if j = 2 then 1 else if j < 3 + g then j - 1 else j + 3 - g
theorem idx_fld1 : ∀ g, g < 5 → ∀ j, j < 11 → j < 3 + 2 * g → idx g (fld g j) = some j := by decide
theorem idx_fld2 : ∀ g, g < 5 → ∀ f, f < 11 → ∀ j, j < 11 → idx g f = some j → f = fld g j := by decide
theorem idx_big {g f : Nat} (h : 10 < f) : idx g f = none := by
  unfold idx
  rw [if_neg (by omega), if_neg (by omega), if_neg (by omega), if_neg (by omega), if_neg (by omega)]
/-- What numbers make of an account that has so many goods. -/
def kOf (g : Nat) (ms : List Int) (r : ByteArray) : Kt := ⟨fun f => match idx g f with | some i => ms.getD i 0 | none => 0, r⟩
theorem getD_snoc (ms : List Int) (x : Int) (i : Nat) : (ms ++ [x]).getD i 0 = if i = ms.length then x else ms.getD i 0 := by
  simp only [List.getD_eq_getElem?_getD]
  by_cases h : i = ms.length
  · rw [if_pos h, h, List.getElem?_append_right (Nat.le_refl _)]; simp
  · rw [if_neg h]
    rcases Nat.lt_or_ge i ms.length with h2 | h2
    · rw [List.getElem?_append_left h2]
    · rw [List.getElem?_eq_none (by simp; omega), List.getElem?_eq_none h2]
theorem kOf_snoc {g : Nat} (hg : g ≤ 4) (ms : List Int) (x : Int) (r : ByteArray) (hj : ms.length < 3 + 2 * g) : kOf g (ms ++ [x]) r = (kOf g ms r).put (fld g ms.length) x := by
  unfold kOf Kt.put
  congr 1
  funext f
  simp only [getD_snoc]
  by_cases h : f = fld g ms.length
  · rw [if_pos h, h, idx_fld1 g (by omega) ms.length (by omega) hj]
    simp
  · rw [if_neg h]
    cases hi : idx g f with
    | none => rfl
    | some i =>
      have hf : f < 11 := by
        rcases Nat.lt_or_ge f 11 with h1 | h1
        · exact h1
        · rw [idx_big (by omega)] at hi; cases hi
      have hne : i ≠ ms.length := fun e => h (by
        rw [e] at hi
        exact idx_fld2 g (by omega) f hf ms.length (by omega) hi)
      show (if i = ms.length then x else ms.getD i 0) = ms.getD i 0
      rw [if_neg hne]
theorem fld_lt {g j : Nat} (hg : g ≤ 4) (hj : j < 3 + 2 * g) : fld g j < 11 := by unfold fld; split <;> (try omega); split <;> (try omega); split <;> (try omega); split <;> omega
theorem kOf_nil (g : Nat) : kOf g [] ⟨#[]⟩ = Kt.zero := by
  unfold kOf Kt.zero
  congr 1
  funext f
  cases idx g f with
  | none => rfl
  | some i => simp
/-- Behind so many numbers. -/
structure Kst (w0 w : World) (s : ByteArray) (g j sb kb rb ab ob : Nat) : Prop where
  kn : Knx w s (nxs s j).1.1 (nxs s j).1.2 sb ab ob
  kk : Blk w kb (kOf g (nxs s j).2 ⟨#[]⟩).cells.toArray 67
  rr : Blk w rb Kt.zero.cells.toArray 67
  lo : Below w0.heap.size w0 w
  n1 : kb ≠ rb
  g1 : w0.heap.size ≤ kb ∧ w0.heap.size ≤ ab ∧ w0.heap.size ≤ ob
theorem kept_unlike {w : World} {k b : Nat} {cs cs' : Array Value} {t t' : TypeId} (h : Blk w k cs t) (h' : Blk w b cs' t') (ht : t ≠ t') : k ≠ b := fun e => by
  unfold Blk at h h'
  rw [e, h'] at h
  injection h with h
  injection h with _ h
  exact ht h.symm
theorem Kst.call {w0 w : World} {s : ByteArray} {g j sb kb rb ab ob : Nat} (h : Kst w0 w s g j sb kb rb ab ob) (hs : s.size ≤ maxLen) (hg : g ≤ 4) (hj : j < 3 + 2 * g) (f : Nat) (hf : fld g j = f) :
    ∃ x : Int, Calls Tryd.prog 63 #[.pointer (some ⟨sb, 0, none⟩), .pointer (some ⟨ab, 0, none⟩), .pointer (some ⟨ob, 0, none⟩)] w fun e w' => e = .returned (.int .i64 x) ∧ (∃ y : Int, w'.cell? ⟨kb, f, none⟩ = some (.int .i64 y)) ∧ w'.frozen? ⟨kb, f, none⟩ = false ∧ Kst w0 (w'.setCell ⟨kb, f, none⟩ (.int .i64 x)) s g (j + 1) sb kb rb ab ob := by
  subst hf
  refine ⟨(nxt s (nxs s j).1).1, (next_calls s _ _ sb ab ob w hs h.kn).mono ?_⟩
  rintro e w2 ⟨rfl, k2, o2⟩
  have ka : kb ≠ ab := kept_unlike h.kk h.kn.xa (by decide)
  have ko : kb ≠ ob := kept_unlike h.kk h.kn.xo (by decide)
  have ks : kb ≠ sb := kept_unlike h.kk h.kn.xs (by decide)
  have ra : rb ≠ ab := kept_unlike h.rr h.kn.xa (by decide)
  have ro : rb ≠ ob := kept_unlike h.rr h.kn.xo (by decide)
  have kk2 := Blk.ofn h.kk o2 ka ko
  have rr2 := Blk.ofn h.rr o2 ra ro
  have hfl := fld_lt hg hj
  have hlo : Below w0.heap.size w0 w2 := h.lo.trans ⟨o2.os, o2.tape, o2.output, o2.size, fun k hk => o2.block k (by have := h.lo.size; have := h.kk.lt; have := h.kn.xa.lt; omega) (by have := h.g1; omega) (by have := h.g1; omega)⟩
  refine ⟨rfl, ⟨_, kk2.cell (by rw [List.getElem?_toArray]; exact Kt.num _ _ hfl)⟩, kk2.frozen, ⟨⟨k2.xs.setOther (p := ⟨kb, _, none⟩) (Ne.symm ks) _, k2.xa.setOther (p := ⟨kb, _, none⟩) (Ne.symm ka) _, k2.xo.setOther (p := ⟨kb, _, none⟩) (Ne.symm ko) _, k2.le⟩, ?_, rr2.setOther (p := ⟨kb, _, none⟩) (Ne.symm h.n1) _, ?_, h.n1, h.g1⟩⟩
  · have e1 : (nxs s (j + 1)).2 = (nxs s j).2 ++ [(nxt s (nxs s j).1).1] := rfl
    have e2 := kOf_snoc hg (nxs s j).2 (nxt s (nxs s j).1).1 ⟨#[]⟩ (by rw [nxs_len]; exact hj)
    rw [nxs_len] at e2
    rw [e1, e2, ← Kt.set _ _ hfl]
    have := kk2.set (fld g j) (.int .i64 (nxt s (nxs s j).1).1)
    rw [List.setIfInBounds_toArray] at this
    exact this
  · exact hlo.trans ⟨rfl, rfl, rfl, by simp [World.setCell], fun k hk => Below.heap_setCell _ _ _ _ (by have := h.g1; show k ≠ kb; omega)⟩
end Go.Proofs.YtmcafgmjfgfaeaaDoor
