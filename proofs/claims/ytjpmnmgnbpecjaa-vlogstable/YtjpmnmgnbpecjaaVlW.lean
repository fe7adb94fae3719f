/- A slot is wiped; Enter. -/
import Derived.Test.YtjpmnmgnbpecjaaVlO
namespace Go.Proofs.Ytjpmnmgnbpecjaa
open Go.Shelf Go.RowKit Go.Lib Go.Sort
open Go.ChangeMaps (setBlock)
set_option linter.unusedSimpArgs false
set_option linter.unusedVariables false
variable {w : World} {p : Nat} {mp : Nat → Option Nat} {L : Lv}

/-- The maps but those of a slot. -/
def mpx (mp : Nat → Option Nat) (k : Nat) : Nat → Option Nat := fun j => if j / 2 = k ∧ j < 16 then none else mp j
theorem Lg.wipe (h : Lg w p mp L) {k : Nat} (hk : k < 8) {vs : List Value} (hl : vs.length ≤ 13) {s' : Slot} {lv lv' : Value} (hr : w.rangeAt p (3 + k * 13) (slC (L.sl k) (mp (2 * k)) (mp (2 * k + 1)) lv))
    (hnew : slC s' none none lv' = vs ++ (slC (L.sl k) (mp (2 * k)) (mp (2 * k + 1)) lv).drop vs.length) (hlv : Sgr w 0 lv' s'.fl) (hpr : s'.pr = []) (hco : s'.co = []) :
    Lg (w.setCells p (3 + k * 13) vs) p (mpx mp k) (L.set k s') where
  blk := by
    obtain ⟨cs, hB, hs⟩ := h.blk
    obtain ⟨cs', h1, h2⟩ := hB.setCells vs (3 + k * 13)
    exact ⟨cs', h1, by omega⟩
  head := World.rangeAt_setCells_apart h.head _ _ _ (Or.inr (Or.inl (by simp)))
  slot := fun j hj => by
    by_cases e : j = k
    · subst e
      have e2 : (L.set j s').sl j = s' := by simp [Lv.set]
      rw [e2]
      refine ⟨lv', ?_, hlv.keep fun g cs hB => heap_setCells_other p vs _ w g (h.sne hB)⟩
      have := rangeAt_in (i := 0) hr (vs := vs) (h.there (by omega)) (by show 0 + vs.length ≤ 13; omega)
      rw [Nat.zero_add, List.take_zero, List.nil_append, ← hnew, Nat.add_zero] at this
      have m1 : mpx mp j (2 * j) = none := by unfold mpx; rw [if_pos (by omega)]
      have m2 : mpx mp j (2 * j + 1) = none := by unfold mpx; rw [if_pos (by omega)]
      rw [m1, m2]
      exact this
    · obtain ⟨lv2, h1, h2⟩ := h.slot j hj
      have e2 : (L.set k s').sl j = L.sl j := by simp [Lv.set, e]
      rw [e2]
      have m1 : mpx mp k (2 * j) = mp (2 * j) := by unfold mpx; rw [if_neg (by omega)]
      have m2 : mpx mp k (2 * j + 1) = mp (2 * j + 1) := by unfold mpx; rw [if_neg (by omega)]
      rw [m1, m2]
      refine ⟨lv2, World.rangeAt_setCells_apart h1 _ _ _ (Or.inr ?_), h2.keep fun g cs hB => heap_setCells_other p vs _ w g (h.sne hB)⟩
      rcases Nat.lt_or_ge j k with h3 | h3
      · exact Or.inl (by show 3 + j * 13 + 13 ≤ _; omega)
      · exact Or.inr (by omega)
  last := by
    have m : mpx mp k 16 = mp 16 := by unfold mpx; rw [if_neg (by omega)]
    rw [m]
    exact World.rangeAt_setCells_apart h.last _ _ _ (Or.inr (Or.inr (by omega)))
  maps := fun j hj => by
    unfold mpx
    by_cases e : j / 2 = k ∧ j < 16
    · rw [if_pos e]
      show Lv.vts _ j = []
      unfold Lv.vts Lv.set
      rw [if_neg (by omega)]
      simp [e.1, hpr, hco]
    · rw [if_neg e]
      have e2 : (L.set k s').vts j = L.vts j := by
        unfold Lv.vts Lv.set
        by_cases e3 : j = 16
        · rw [if_pos e3, if_pos e3]
        · rw [if_neg e3, if_neg e3]
          have e4 : ¬ j / 2 = k := fun x => e ⟨x, by omega⟩
          simp only [e4, if_false]
      rw [e2]
      exact (h.maps j hj).keep fun b hb => heap_setCells_other _ _ _ _ _ (h.pmap hj hb)
  inj := fun i j b hi hj e1 e2 => by
    unfold mpx at e1 e2
    split at e1
    · cases e1
    · split at e2
      · cases e2
      · exact h.inj i j b hi hj e1 e2
theorem stp_wipe (p : Nat) (mp : Nat → Option Nat) (w : World) (o : Nat) (vs : List Value) (k : Nat) : Stp p mp w (mpx mp k) (w.setCells p o vs) :=
  ⟨(rest_setCells p vs o w).1, (rest_setCells p vs o w).2.1, (rest_setCells p vs o w).2.2, by rw [size_setCells]; exact Nat.le_refl _, fun k _ hk _ => heap_setCells_other _ _ _ _ _ hk, fun j b hj hb => Or.inl ⟨j, hj, by
    unfold mpx at hb
    split at hb
    · cases hb
    · exact hb⟩⟩
/-- Which place comes when, by rising numbers. -/
def Lv.idx (L : Lv) (j : Nat) : Nat := (((j : Int) - (L.lo + 1)) % 8).toNat
theorem idx_pla (L : Lv) {i : Nat} (hi : i < 8) : L.idx (pla (L.lo + 1 + (i : Int))) = i := by unfold Lv.idx pla; omega
theorem pla_idx (L : Lv) {j : Nat} (hj : j < 8) : pla (L.lo + 1 + (L.idx j : Int)) = j := by unfold Lv.idx pla; omega
theorem idx_lt (L : Lv) (j : Nat) : L.idx j < 8 := by unfold Lv.idx; omega
/-- The log behind k rounds of forgetting. -/
def Lv.fgt (L : Lv) (k : Nat) : Lv := { L with sl := fun j => if j < 8 ∧ L.idx j < k then (L.sl j).forget else L.sl j }
theorem Lg.congr {L' : Lv} (h : Lg w p mp L) (hn : L'.n = L.n) (hv : L'.vw = L.vw) (hl : L'.lo = L.lo) (hc : L'.ck = L.ck) (hs : ∀ k, k < 8 → L'.sl k = L.sl k) : Lg w p mp L' where
  blk := h.blk
  head := by rw [hn, hv, hl]; exact h.head
  slot := fun k hk => by rw [hs k hk]; exact h.slot k hk
  last := h.last
  maps := fun j hj => by
    have e : L'.vts j = L.vts j := by
      unfold Lv.vts
      split
      · exact hc
      · rw [hs (j / 2) (by omega)]
    rw [e]
    exact h.maps j hj
  inj := h.inj
theorem fgt_zero (L : Lv) : L.fgt 0 = L := by
  unfold Lv.fgt
  have : (fun j => if j < 8 ∧ L.idx j < 0 then (L.sl j).forget else L.sl j) = L.sl := by
    funext j
    rw [if_neg (by omega)]
  rw [this]
theorem fgt_succ (L : Lv) {k : Nat} (hk : k < 8) : (L.fgt k).set (pla (L.lo + 1 + (k : Int))) ((L.sl (pla (L.lo + 1 + (k : Int)))).forget) = L.fgt (k + 1) := by
  unfold Lv.fgt Lv.set
  simp only [Lv.mk.injEq, true_and, and_true]
  funext j
  have e1 := idx_pla L hk
  have e2 := pla_lt (L.lo + 1 + (k : Int))
  by_cases e : j = pla (L.lo + 1 + (k : Int))
  · subst e
    rw [if_pos rfl, if_pos ⟨e2, by omega⟩]
  · rw [if_neg e]
    by_cases h8 : j < 8
    · have e3 := pla_idx L h8
      have e4 : L.idx j ≠ k := fun e4 => e (by rw [← e3, e4])
      by_cases e5 : L.idx j < k
      · rw [if_pos ⟨h8, e5⟩, if_pos ⟨h8, by omega⟩]
      · rw [if_neg (fun x => e5 x.2), if_neg (fun x => by have := x.2; omega)]
    · rw [if_neg (fun x => h8 x.1), if_neg (fun x => h8 x.1)]
theorem fgt_sl (L : Lv) {k : Nat} (hk : k < 8) : (L.fgt k).sl (pla (L.lo + 1 + (k : Int))) = L.sl (pla (L.lo + 1 + (k : Int))) := by
  unfold Lv.fgt
  simp only
  rw [if_neg (fun x => by have := x.2; rw [idx_pla L hk] at this; omega)]
theorem forget_pr (s : Slot) : s.forget.pr = [] ∧ s.forget.co = [] ∧ s.forget.fl = s.fl := ⟨rfl, rfl, rfl⟩
/-- The view is written. -/
theorem Lg.setView (h : Lg w p mp L) (v : Int) : Lg (w.setCell ⟨p, 1, none⟩ (.int .i64 v)) p mp { L with vw := v } where
  blk := by
    obtain ⟨cs, hB, hs⟩ := h.blk
    exact ⟨_, hB.set 1 (.int .i64 v), by simpa using hs⟩
  head := by
    have := rangeAt_in (i := 1) (vs := [.int .i64 v]) h.head (h.there (by simp)) (by simp)
    exact this
  slot := fun k hk => by
    obtain ⟨lv, h1, h2⟩ := h.slot k hk
    exact ⟨lv, World.rangeAt_setCells_apart h1 p 1 [.int .i64 v] (Or.inr (Or.inr (by simp; omega))), h2.keep fun g cs hB => heap_setCells_other p [.int .i64 v] 1 w g (h.sne hB)⟩
  last := World.rangeAt_setCells_apart h.last p 1 [.int .i64 v] (Or.inr (Or.inr (by simp)))
  maps := fun j hj => (h.maps j hj).keep fun b hb => heap_setCells_other p [.int .i64 v] 1 w b (h.pmap hj hb)
  inj := h.inj
theorem Lg.setLow (h : Lg w p mp L) (v : Int) : Lg (w.setCell ⟨p, 2, none⟩ (.int .i64 v)) p mp { L with lo := v } where
  blk := by
    obtain ⟨cs, hB, hs⟩ := h.blk
    exact ⟨_, hB.set 2 (.int .i64 v), by simpa using hs⟩
  head := by
    have := rangeAt_in (i := 2) (vs := [.int .i64 v]) h.head (h.there (by simp)) (by simp)
    exact this
  slot := fun k hk => by
    obtain ⟨lv, h1, h2⟩ := h.slot k hk
    exact ⟨lv, World.rangeAt_setCells_apart h1 p 2 [.int .i64 v] (Or.inr (Or.inr (by simp))), h2.keep fun g cs hB => heap_setCells_other p [.int .i64 v] 2 w g (h.sne hB)⟩
  last := World.rangeAt_setCells_apart h.last p 2 [.int .i64 v] (Or.inr (Or.inr (by simp)))
  maps := fun j hj => (h.maps j hj).keep fun b hb => heap_setCells_other p [.int .i64 v] 2 w b (h.pmap hj hb)
  inj := h.inj
end Go.Proofs.Ytjpmnmgnbpecjaa
