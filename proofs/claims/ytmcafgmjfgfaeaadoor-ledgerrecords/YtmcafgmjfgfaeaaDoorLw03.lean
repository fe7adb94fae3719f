/- What each call leaves is a ledger's. No program is named here. -/
import Derived.Test.YtmcafgmjfgfaeaaDoorLw02
namespace Go.Proofs.YtmcafgmjfgfaeaaDoor
open Go.RowKit
set_option linter.unusedSimpArgs false
set_option linter.unusedVariables false
variable {g : Nat} {l : List Kt}
theorem partG (q : Nat) (h : q < 4) : Part (2 + q) (6 + q) := Or.inr ⟨by omega, by omega, by omega⟩
theorem Part.lt {a h : Nat} (p : Part a h) : a < 10 ∧ h < 10 := by rcases p with ⟨rfl, rfl⟩ | ⟨_, _, rfl⟩ <;> omega
theorem Part.one {a h a' h' : Nat} (p : Part a h) (p' : Part a' h') (e : a = a') : h = h' := by
  rcases p with ⟨rfl, rfl⟩ | ⟨_, _, rfl⟩ <;> rcases p' with ⟨rfl, rfl⟩ | ⟨_, _, rfl⟩ <;> omega
theorem Part.two {a h a' h' : Nat} (p : Part a h) (p' : Part a' h') (e : h = h') : a = a' := by
  rcases p with ⟨rfl, rfl⟩ | ⟨_, _, rfl⟩ <;> rcases p' with ⟨rfl, rfl⟩ | ⟨_, _, rfl⟩ <;> omega
theorem Part.ne {a h a' h' : Nat} (p : Part a h) (p' : Part a' h') : a ≠ h' := by
  rcases p with ⟨rfl, rfl⟩ | ⟨_, _, rfl⟩ <;> rcases p' with ⟨rfl, rfl⟩ | ⟨_, _, rfl⟩ <;> omega
theorem Inv.addA (H : Inv g l) {a h i : Nat} {n : Int} (p : Part a h) (ha : a < g + 2) (hi : i < l.length) (hn : 0 ≤ n) (ht : tot l a + n ≤ 1099511627776) : Inv g (upd l i a ((kAt l i).n a + n)) := by
  refine H.updI hi p.lt.1 ?_ ?_ ?_ ?_
  · intro a' h' p' e
    have := p.one p' e
    subst e this
    have := H.held i hi a h p; omega
  · intro a' h' p' e; exact absurd e (p.ne p')
  · intro a' h' p' e; subst e; omega
  · intro h1 h2; omega
theorem Inv.subA (H : Inv g l) {a h i : Nat} {n : Int} (p : Part a h) (ha : a < g + 2) (hi : i < l.length) (hn : 0 ≤ n) (ht : n ≤ (kAt l i).n a - (kAt l i).n h) : Inv g (upd l i a ((kAt l i).n a - n)) := by
  refine H.updI hi p.lt.1 ?_ ?_ ?_ ?_
  · intro a' h' p' e
    have := p.one p' e
    subst e this
    omega
  · intro a' h' p' e; exact absurd e (p.ne p')
  · intro a' h' p' e; subst e
    have := H.all a h' p'; omega
  · intro h1 h2; omega
theorem Inv.setH (H : Inv g l) {a h i : Nat} {v : Int} (p : Part a h) (hi : i < l.length) (h0 : 0 ≤ v) (h1 : v ≤ (kAt l i).n a) : Inv g (upd l i h v) := by
  refine H.updI hi p.lt.2 ?_ ?_ ?_ ?_
  · intro a' h' p' e; exact absurd e.symm (p'.ne p)
  · intro a' h' p' e
    have := p.two p' e
    subst e this
    exact ⟨h0, h1⟩
  · intro a' h' p' e; exact absurd e.symm (p'.ne p)
  · intro h1 h2; rcases p with ⟨rfl, rfl⟩ | ⟨_, _, rfl⟩ <;> omega

/-- What is held of the one goes over to the other one, free: three steps, each of which leaves a ledger. -/
theorem Inv.ov1 (H : Inv g l) {a h i : Nat} {n : Int} (p : Part a h) (hi : i < l.length) (hn : 0 ≤ n) (ht : n ≤ (kAt l i).n h) : Inv g (over1 l i h n) := by
  have := H.held i hi a h p
  exact H.setH p hi (by omega) (by omega)
theorem over1_a {a h i j : Nat} {n : Int} (p : Part a h) (hi : i < l.length) : (kAt (over1 l i h n) j).n a = (kAt l j).n a := by
  unfold over1; rw [upd_at _ _ hi, if_neg (fun e => p.ne p e.2)]
theorem over1_h {a h i : Nat} {n : Int} (p : Part a h) (hi : i < l.length) : (kAt (over1 l i h n) i).n h = (kAt l i).n h - n := by
  unfold over1; rw [upd_at _ _ hi, if_pos ⟨rfl, rfl⟩]
theorem Inv.ov2 (H : Inv g l) {a h i : Nat} {n : Int} (p : Part a h) (ha : a < g + 2) (hi : i < l.length) (hn : 0 ≤ n) (ht : n ≤ (kAt l i).n h) : Inv g (over2 l i a h n) := by
  refine (H.ov1 p hi hn ht).subA p ha (by unfold over1; rw [upd_len]; exact hi) hn ?_
  rw [over1_a p hi, over1_h p hi]
  have := H.held i hi a h p; omega
theorem over2_len {a h i : Nat} {n : Int} : (over2 l i a h n).length = l.length := by unfold over2 over1; rw [upd_len, upd_len]
theorem over1_len {h i : Nat} {n : Int} : (over1 l i h n).length = l.length := by unfold over1; rw [upd_len]
theorem over3_len {a h i j : Nat} {n : Int} : (over3 l i j a h n).length = l.length := by unfold over3; rw [upd_len, over2_len]
theorem over2_tot {a h i : Nat} {n : Int} (p : Part a h) (hi : i < l.length) (x : Nat) : tot (over2 l i a h n) x = tot l x - (if x = h then n else 0) - (if x = a then n else 0) := by
  unfold over2
  rw [tot_upd _ _ _ (by rw [over1_len]; exact hi)]
  unfold over1
  rw [tot_upd _ _ _ hi]
  have hne := p.ne p
  by_cases h1 : x = a
  · subst h1; simp [hne]; omega
  · by_cases h2 : x = h
    · subst h2; simp [h1]; omega
    · simp [h1, h2]
theorem Inv.ov3 (H : Inv g l) {a h i j : Nat} {n : Int} (p : Part a h) (ha : a < g + 2) (hi : i < l.length) (hj : j < l.length) (hn : 0 ≤ n) (ht : n ≤ (kAt l i).n h) : Inv g (over3 l i j a h n) := by
  refine (H.ov2 p ha hi hn ht).addA p ha (by rw [over2_len]; exact hj) hn ?_
  rw [over2_tot p hi]
  have h1 := H.all a h p
  have hne := p.ne p
  simp [hne]; omega

theorem refE_one {c : Nat} {n z : Int} (h : refE c n [z] = 0) : ∃ i : Nat, z = i ∧ i < c ∧ 1 ≤ n ∧ n ≤ 1099511627776 := by
  unfold refE at h
  split at h
  · cases h
  · next h1 =>
    split at h
    · cases h
    · next h2 =>
      simp at h1
      exact ⟨z.toNat, by omega, by omega, by omega, by omega⟩
theorem refE_two {c : Nat} {n z y : Int} (h : refE c n [z, y] = 0) : ∃ i j : Nat, z = i ∧ y = j ∧ i < c ∧ j < c ∧ 1 ≤ n ∧ n ≤ 1099511627776 := by
  unfold refE at h
  split at h
  · cases h
  · next h1 =>
    split at h
    · cases h
    · next h2 =>
      simp at h1
      exact ⟨z.toNat, y.toNat, by omega, by omega, by omega, by omega, by omega, by omega⟩
theorem refG_ok {g c : Nat} {good n : Int} {m : List Int} (h : refG g c good n m = 0) : refE c n m = 0 ∧ ∃ q : Nat, good = q ∧ q < g := by
  unfold refG at h
  split at h
  · next h1 =>
    split at h
    · cases h
    · exact ⟨h1, good.toNat, by omega, by omega⟩
  · next h1 => exact absurd h h1
end Go.Proofs.YtmcafgmjfgfaeaaDoor

namespace Go.Proofs.YtmcafgmjfgfaeaaDoor
open Go.RowKit
set_option linter.unusedSimpArgs false
set_option linter.unusedVariables false
theorem gate_len {e : Int} {l : List Kt} {r : Int × List Kt} (h : r.2.length = l.length) : (gate e l r).2.length = l.length := by
  unfold gate; split
  · exact h
  · rfl
theorem act_len (g : Nat) (l : List Kt) (a : Ac) : (act g l a).2.length = l.length := by
  unfold act
  split
  all_goals first | (refine gate_len ?_) | skip
  all_goals first | unfold inR | unfold outR | unfold keepR | unfold looseR | unfold overR | unfold markR
  all_goals (repeat' split)
  all_goals first | rfl | exact upd_len _ _ _ _ | exact over3_len | exact markL_len _ _ _ _
theorem foldl_len (g : Nat) (ls : List Ac) (l : List Kt) : (ls.foldl (fun l a => (act g l a).2) l).length = l.length := by
  induction ls generalizing l with
  | nil => rfl
  | cons a ls ih => rw [List.foldl_cons, ih, act_len]
end Go.Proofs.YtmcafgmjfgfaeaaDoor
