/- The document's Sum and Shares; numbers. -/
import Derived.Test.YteinfckkpkbnlaaCkR
import Derived.OwnWalk
import Derived.Handy
import Derived.Laws.AppendOwn
import Derived.Deep.OwnRows
import Derived.Maps.AppendAt
namespace Go.Proofs.Yteinfckkpkbnlaa
open Go.RowKit
set_option linter.unusedSimpArgs false
set_option linter.unusedVariables false

theorem below_grownC {B : Nat} {z w w' : World} {row : Option Nat} (h : Below B z w) (hg : w.grownBy w' row) (hr : ∀ k, row = some k → B ≤ k) (hbs : B ≤ w.heap.size) : Below B z w' :=
  ⟨hg.os.trans h.os, hg.tape.trans h.tape, hg.output.trans h.output, Nat.le_trans h.size hg.size, fun k hk => (hg.block k (by omega) (fun e => by have := hr k e.symm; omega)).trans (h.block k hk)⟩
def iL (l : List Int) : List Value := l.map (Value.int .i64)
theorem iL_snoc (l : List Int) (x : Int) : iL (l ++ [x]) = iL l ++ [.int .i64 x] := by simp [iL]
/-- Numbers in a row of one's own. -/
def Rwn (w : World) (B : Nat) (v : Value) (l : List Int) : Prop :=
  (v = .slice none 0 0 ∧ l = []) ∨ ∃ g cap cur, v = .slice (some ⟨g, 0, none⟩) l.length cap ∧ B ≤ g ∧ Blk w g cur 3 ∧ ∀ i, i < l.length → cur[i]? = some (.int .i64 (gAt l i))
theorem rwn_own {w : World} {B : Nat} {v : Value} {l : List Int} (h : w.ownsRow B 3 1 v l.length (iL l)) : Rwn w B v l := by
  obtain ⟨h1, h2⟩ := h
  rcases h2 with ⟨rfl, h3⟩ | ⟨g, cap, cur, rfl, hb, hg, hcap, hm, hs, ht⟩
  · exact Or.inl ⟨rfl, List.eq_nil_of_length_eq_zero h3⟩
  · refine Or.inr ⟨g, cap, cur, rfl, hb, hg, fun i hi => ?_⟩
    have : (cur.toList.take (l.length * 1))[i]? = (iL l)[i]? := by rw [ht]
    rw [List.getElem?_take_of_lt (by omega)] at this
    rw [Array.getElem?_toList] at this
    rw [this, gAt_eq hi]
    simp [iL, hi]
theorem Rwn.rd {w : World} {B : Nat} {v : Value} {l : List Int} (h : Rwn w B v l) : Rd w v l := by
  rcases h with ⟨rfl, rfl⟩ | ⟨g, cap, cur, rfl, hb, X, hc⟩
  · exact rd_nil w
  · exact ⟨_, _, rfl, fun i hi => ⟨g, 0, rfl, X.lt, by rw [Nat.zero_add]; exact X.cell (hc i hi)⟩⟩
theorem Rwn.below {w w' : World} {B : Nat} {v : Value} {l : List Int} (h : Rwn w B v l) (hb : Below w.heap.size w w') : Rwn w' B v l := by
  rcases h with h | ⟨g, cap, cur, rfl, hB, X, hc⟩
  · exact Or.inl h
  · exact Or.inr ⟨g, cap, cur, rfl, hB, X.below hb, hc⟩
theorem Rwn.drew {w : World} {B : Nat} {v : Value} {l : List Int} (h : Rwn w B v l) (n : Nat) : Rwn (w.drewN n) B v l := by
  rcases h with h | ⟨g, cap, cur, rfl, hB, X, hc⟩
  · exact Or.inl h
  · exact Or.inr ⟨g, cap, cur, rfl, hB, X, hc⟩
/-- One of them: its cell, and what is there when another number is written. -/
theorem Rwn.at_ {w : World} {B : Nat} {v : Value} {l : List Int} (h : Rwn w B v l) {i : Nat} (hi : i < l.length) :
    ∃ g cap, v = .slice (some ⟨g, 0, none⟩) l.length cap ∧ B ≤ g ∧ g < w.heap.size ∧ w.cell? ⟨g, i, none⟩ = some (.int .i64 (gAt l i)) ∧ w.frozen? ⟨g, i, none⟩ = false ∧ ∀ x, Rwn (w.setCell ⟨g, i, none⟩ (.int .i64 x)) B v (l.set i x) := by
  rcases h with ⟨rfl, rfl⟩ | ⟨g, cap, cur, rfl, hB, X, hc⟩
  · exact absurd hi (Nat.not_lt_zero _)
  · refine ⟨g, cap, rfl, hB, X.lt, X.cell (hc i hi), X.frozen, fun x => Or.inr ⟨g, cap, cur.setIfInBounds i (.int .i64 x), by rw [List.length_set], hB, X.set i _, fun j hj => ?_⟩⟩
    rw [List.length_set] at hj
    have hjc : i < cur.size := by
      rcases Nat.lt_or_ge i cur.size with h | h
      · exact h
      · have := hc i hi; rw [Array.getElem?_eq_none h] at this; cases this
    rw [Array.getElem?_setIfInBounds]
    by_cases e : i = j
    · subst e
      rw [if_pos rfl, if_pos hjc]
      unfold gAt
      rw [List.getElem?_set_self hi]
      rfl
    · rw [if_neg e, hc j hj]
      unfold gAt
      rw [List.getElem?_set_ne e]

set_option maxRecDepth 100000 in
theorem sum_calls (v : Value) (l : List Int) (w : World) (hv : Rd w v l) (hz : l.length ≤ 140737488351232) (hb : ∀ k, k ≤ l.length → -4611686018427387904 ≤ sumTo (gAt l) k ∧ sumTo (gAt l) k ≤ 4611686018427387904) :
    Calls Try.prog 19 #[v] w fun e w' => e = .returned (.int .i64 (sumL l)) ∧ w' = w := by
  obtain ⟨c, cap, rfl, hc⟩ := hv
  have HC : Hid _ := hc
  have HB : Hid _ := hb
  clear hc hb
  go_enter Try.func19, Try.ntmps19
  go_wp2
  go_loopw [3, 4] (fun s i wr => ∃ k : Nat, k ≤ l.length ∧ i = .int .i64 k ∧ s = .int .i64 (sumTo (gAt l) k) ∧ wr = w) (fun _ i _ => l.length - (intOf i).toNat)
  case atStart => exact ⟨0, Nat.zero_le _, rfl, rfl, rfl⟩
  case round =>
    obtain ⟨k, hk, rfl, rfl, rfl⟩ := hrel
    by_cases hlt : k < l.length
    · have hd : decide ((k : Int) < l.length) = true := by simp only [decide_eq_true_eq]; omega
      obtain ⟨g, off, rfl, hg, hx⟩ := HC.out k hlt
      have h1 := HB.out (k + 1) hlt
      have HT : Hid (sumTo (gAt l) (k + 1) = sumTo (gAt l) k + gAt l k) := rfl
      rw [HT.out] at h1
      generalize sumTo (gAt l) k = s at *
      generalize gAt l k = y at *
      go_wp2
      refine ⟨⟨k + 1, by omega, by norm_cast, by rw [HT.out], by trivial⟩, ?_⟩
      simp [intOf]; omega
    · have hd : decide ((k : Int) < l.length) = false := by simp only [decide_eq_false_iff_not]; omega
      have hkk : k = l.length := by omega
      have HK : Hid (sumTo (gAt l) k = sumL l) := by show _ = _; rw [hkk]; rfl
      clear hkk
      generalize sumTo (gAt l) k = s at *
      go_wp2
      go_ret
      exact ⟨by rw [← HK.out]; rfl, rfl⟩
theorem sumSmall {l : List Int} (hl : l.length ≤ 1000) (h : ∀ i, i < l.length → 0 ≤ gAt l i ∧ gAt l i ≤ 1099511627776) : ∀ k, k ≤ l.length → -4611686018427387904 ≤ sumTo (gAt l) k ∧ sumTo (gAt l) k ≤ 4611686018427387904 := by
  intro k hk
  have h1 := sumTo_nonneg (f := gAt l) (k := k) fun i hi => (h i (by omega)).1
  have h2 := sumTo_le (f := gAt l) (m := 1099511627776) (k := k) fun i hi => (h i (by omega)).2
  constructor
  · omega
  · have : (k : Int) ≤ 1000 := by omega
    omega
set_option maxRecDepth 100000 in
theorem numbers_true (v u : Value) (l : List Int) (w : World) (hv : Rd w v l) (hu : Rd w u l) (hz : l.length ≤ 140737488351232) :
    Calls Try.prog 27 #[v, u] w fun e w' => e = .returned (.bool true) ∧ Below w.heap.size w w' := by
  obtain ⟨c, cap, rfl, hc⟩ := hv
  obtain ⟨d, cap2, rfl, hdd⟩ := hu
  have HC : Hid _ := hc
  have HD : Hid _ := hdd
  clear hc hdd
  go_enter Try.func27, Try.ntmps27
  go_wp2
  go_loopw [5] (fun i wr => ∃ k : Nat, k ≤ l.length ∧ i = .int .i64 k ∧ Below w.heap.size w wr) (fun i _ => l.length - (intOf i).toNat)
  case atStart => exact ⟨0, Nat.zero_le _, rfl, Below.refl _ _⟩
  case round =>
    obtain ⟨k, hk, rfl, br⟩ := hrel
    by_cases hlt : k < l.length
    · have hd : decide ((k : Int) < l.length) = true := by simp only [decide_eq_true_eq]; omega
      have hki : (k : Int) < l.length := by omega
      obtain ⟨g, off, rfl, hg, hx0⟩ := HC.out k hlt
      obtain ⟨g2, off2, rfl, hg2, hy0⟩ := HD.out k hlt
      have hx := (br.cell (p := ⟨g, off + k, none⟩) hg).trans hx0
      have hy := (br.cell (p := ⟨g2, off2 + k, none⟩) hg2).trans hy0
      clear hx0 hy0
      generalize gAt l k = y at *
      go_wp2
      go_quiet (fail)
      go_wp2
      refine ⟨⟨k + 1, by omega, by norm_cast, br.trans (drewN_below _ _ _)⟩, ?_⟩
      simp [intOf]; omega
    · have hd : decide ((k : Int) < l.length) = false := by simp only [decide_eq_false_iff_not]; omega
      go_wp2
      go_ret
      exact ⟨rfl, br⟩
end Go.Proofs.Yteinfckkpkbnlaa
