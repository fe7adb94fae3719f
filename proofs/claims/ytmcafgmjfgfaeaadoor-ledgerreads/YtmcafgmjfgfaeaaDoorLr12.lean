/- What each call leaves is a ledger's. No program is named here. -/
import Derived.Test.YtmcafgmjfgfaeaaDoorLr09
import Derived.Test.YtmcafgmjfgfaeaaDoorLr10
namespace Go.Proofs.YtmcafgmjfgfaeaaDoor
open Go.RowKit
set_option linter.unusedSimpArgs false
set_option linter.unusedVariables false
variable {g : Nat} {l : List Kt}
theorem Part.lt {a h : Nat} (p : Part a h) : a < 10 ∧ h < 10 := by rcases p with ⟨rfl, rfl⟩ | ⟨_, _, rfl⟩ <;> omega
theorem Part.one {a h a' h' : Nat} (p : Part a h) (p' : Part a' h') (e : a = a') : h = h' := by
  rcases p with ⟨rfl, rfl⟩ | ⟨_, _, rfl⟩ <;> rcases p' with ⟨rfl, rfl⟩ | ⟨_, _, rfl⟩ <;> omega
theorem Part.two {a h a' h' : Nat} (p : Part a h) (p' : Part a' h') (e : h = h') : a = a' := by
  rcases p with ⟨rfl, rfl⟩ | ⟨_, _, rfl⟩ <;> rcases p' with ⟨rfl, rfl⟩ | ⟨_, _, rfl⟩ <;> omega
theorem Part.ne {a h a' h' : Nat} (p : Part a h) (p' : Part a' h') : a ≠ h' := by
  rcases p with ⟨rfl, rfl⟩ | ⟨_, _, rfl⟩ <;> rcases p' with ⟨rfl, rfl⟩ | ⟨_, _, rfl⟩ <;> omega
theorem Inv.addA (H : Inv g l) {a h i : Nat} {n : Int} (p : Part a h) (ha : a < g + 2) (hi : i < l.length) (hn : 0 ≤ n) (ht : tot l a + n ≤ 1099511627776) : Inv g (upd l i a ((kAt l i).n a + n)) := by
  refine H.updI hi p.lt.1 ?_ ?_ ?_ ?_
  · intro a' h' p' e
    have := p.one p' e
    subst e this
    have := H.held i hi a h p; omega
  · intro a' h' p' e; exact absurd e (p.ne p')
  · intro a' h' p' e; subst e; omega
  · intro h1 h2; omega
theorem Inv.subA (H : Inv g l) {a h i : Nat} {n : Int} (p : Part a h) (ha : a < g + 2) (hi : i < l.length) (hn : 0 ≤ n) (ht : n ≤ (kAt l i).n a - (kAt l i).n h) : Inv g (upd l i a ((kAt l i).n a - n)) := by
  refine H.updI hi p.lt.1 ?_ ?_ ?_ ?_
  · intro a' h' p' e
    have := p.one p' e
    subst e this
    omega
  · intro a' h' p' e; exact absurd e (p.ne p')
  · intro a' h' p' e; subst e
    have := H.all a h' p'; omega
  · intro h1 h2; omega
theorem Inv.setH (H : Inv g l) {a h i : Nat} {v : Int} (p : Part a h) (hi : i < l.length) (h0 : 0 ≤ v) (h1 : v ≤ (kAt l i).n a) : Inv g (upd l i h v) := by
  refine H.updI hi p.lt.2 ?_ ?_ ?_ ?_
  · intro a' h' p' e; exact absurd e.symm (p'.ne p)
  · intro a' h' p' e
    have := p.two p' e
    subst e this
    exact ⟨h0, h1⟩
  · intro a' h' p' e; exact absurd e.symm (p'.ne p)
  · intro h1 h2; rcases p with ⟨rfl, rfl⟩ | ⟨_, _, rfl⟩ <;> omega

/-- What is held of the one goes over to the other one, free: three steps, each of which leaves a ledger. -/
theorem Inv.ov1 (H : Inv g l) {a h i : Nat} {n : Int} (p : Part a h) (hi : i < l.length) (hn : 0 ≤ n) (ht : n ≤ (kAt l i).n h) : Inv g (over1 l i h n) := by
  have := H.held i hi a h p
  exact H.setH p hi (by omega) (by omega)
theorem over1_a {a h i j : Nat} {n : Int} (p : Part a h) (hi : i < l.length) : (kAt (over1 l i h n) j).n a = (kAt l j).n a := by
  unfold over1; rw [upd_at _ _ hi, if_neg (fun e => p.ne p e.2)]
theorem over1_h {a h i : Nat} {n : Int} (p : Part a h) (hi : i < l.length) : (kAt (over1 l i h n) i).n h = (kAt l i).n h - n := by
  unfold over1; rw [upd_at _ _ hi, if_pos ⟨rfl, rfl⟩]
theorem Inv.ov2 (H : Inv g l) {a h i : Nat} {n : Int} (p : Part a h) (ha : a < g + 2) (hi : i < l.length) (hn : 0 ≤ n) (ht : n ≤ (kAt l i).n h) : Inv g (over2 l i a h n) := by
  refine (H.ov1 p hi hn ht).subA p ha (by unfold over1; rw [upd_len]; exact hi) hn ?_
  rw [over1_a p hi, over1_h p hi]
  have := H.held i hi a h p; omega
theorem over2_len {a h i : Nat} {n : Int} : (over2 l i a h n).length = l.length := by unfold over2 over1; rw [upd_len, upd_len]
theorem over1_len {h i : Nat} {n : Int} : (over1 l i h n).length = l.length := by unfold over1; rw [upd_len]
theorem over2_tot {a h i : Nat} {n : Int} (p : Part a h) (hi : i < l.length) (x : Nat) : tot (over2 l i a h n) x = tot l x - (if x = h then n else 0) - (if x = a then n else 0) := by
  unfold over2
  rw [tot_upd _ _ _ (by rw [over1_len]; exact hi)]
  unfold over1
  rw [tot_upd _ _ _ hi]
  have hne := p.ne p
  by_cases h1 : x = a
  · subst h1; simp [hne]; omega
  · by_cases h2 : x = h
    · subst h2; simp [h1]; omega
    · simp [h1, h2]
theorem Inv.ov3 (H : Inv g l) {a h i j : Nat} {n : Int} (p : Part a h) (ha : a < g + 2) (hi : i < l.length) (hj : j < l.length) (hn : 0 ≤ n) (ht : n ≤ (kAt l i).n h) : Inv g (over3 l i j a h n) := by
  refine (H.ov2 p ha hi hn ht).addA p ha (by rw [over2_len]; exact hj) hn ?_
  rw [over2_tot p hi]
  have h1 := H.all a h p
  have hne := p.ne p
  simp [hne]; omega

theorem refE_one {c : Nat} {n z : Int} (h : refE c n [z] = 0) : ∃ i : Nat, z = i ∧ i < c ∧ 1 ≤ n ∧ n ≤ 1099511627776 := by
  unfold refE at h
  split at h
  · cases h
  · next h1 =>
    split at h
    · cases h
    · next h2 =>
      simp at h1
      exact ⟨z.toNat, by omega, by omega, by omega, by omega⟩
theorem refE_two {c : Nat} {n z y : Int} (h : refE c n [z, y] = 0) : ∃ i j : Nat, z = i ∧ y = j ∧ i < c ∧ j < c ∧ 1 ≤ n ∧ n ≤ 1099511627776 := by
  unfold refE at h
  split at h
  · cases h
  · next h1 =>
    split at h
    · cases h
    · next h2 =>
      simp at h1
      exact ⟨z.toNat, y.toNat, by omega, by omega, by omega, by omega, by omega, by omega⟩
end Go.Proofs.YtmcafgmjfgfaeaaDoor

namespace Go.Proofs.YtmcafgmjfgfaeaaDoor
open Go.RowKit
set_option linter.unusedSimpArgs false
set_option linter.unusedVariables false
variable {p b g : Nat} {l : List Kt}
theorem nms_one (w : World) (z : Int) : ∃ W1, (w.alloc (.cells #[.int .i64 z] 3)) = W1 ∧ Nms W1 w.heap.size [z] ∧ Below w.heap.size w W1 ∧ W1.heap.size = w.heap.size + 1 :=
  ⟨_, rfl, fun i hi => by
    have : i = 0 := by simp at hi; omega
    subst this
    exact (blk_new w w.heap.size #[.int .i64 z] 3 rfl).cell rfl, by go_grown, by simp⟩
theorem nms_two (w : World) (z y : Int) : ∃ W1, (w.alloc (.cells #[.int .i64 z, .int .i64 y] 3)) = W1 ∧ Nms W1 w.heap.size [z, y] ∧ Below w.heap.size w W1 ∧ W1.heap.size = w.heap.size + 1 :=
  ⟨_, rfl, fun i hi => by
    have : i = 0 ∨ i = 1 := by simp at hi; omega
    rcases this with rfl | rfl
    · exact (blk_new w w.heap.size #[.int .i64 z, .int .i64 y] 3 rfl).cell rfl
    · exact (blk_new w w.heap.size #[.int .i64 z, .int .i64 y] 3 rfl).cell rfl, by go_grown, by simp⟩
theorem Lg.set0 {w : World} (h : Lg w p b g l) {i : Nat} (v : Int) (hi : i < l.length) (hv : Inv g (upd l i 0 v)) : Lg (w.setCell ⟨b, i * 12, none⟩ (.int .i64 v)) p b g (upd l i 0 v) := h.set (j := 0) v hi (by omega) hv
theorem Lg.setL {w : World} (h : Lg w p b g l) {i q : Nat} (v : Int) (hi : i < l.length) (hq : q < 4) (hv : Inv g (upd l i (6 + q) v)) : Lg (w.setCell ⟨b, i * 12 + 6 + q, none⟩ (.int .i64 v)) p b g (upd l i (6 + q) v) := by
  have := h.set (j := 6 + q) v hi (by omega) hv
  rw [← Nat.add_assoc] at this
  exact this
theorem drewN_below (B : Nat) (w : World) (n : Nat) : Below B w (w.drewN n) := ⟨rfl, rfl, rfl, Nat.le_refl _, fun _ _ => rfl⟩
end Go.Proofs.YtmcafgmjfgfaeaaDoor
