/- The document's ledger beside the program's: what is free and kept, by parts. No program is named here. -/
import Derived.Test.YtmcafgmjfgfaeaaDoorLr31
namespace Go.Proofs.YtmcafgmjfgfaeaaDoor
open Go.RowKit
set_option linter.unusedSimpArgs false
set_option linter.unusedVariables false

/-- A part's number among what a client has, and among what of it is held. -/
def apf (p : Nat) : Nat := if p = 0 then 0 else p + 1
def hpf (p : Nat) : Nat := if p = 0 then 1 else p + 5
theorem part_of {p : Nat} (h : p ≤ 4) : Part (apf p) (hpf p) := by
  unfold apf hpf
  by_cases h0 : p = 0
  · rw [if_pos h0, if_pos h0]; exact Or.inl ⟨rfl, rfl⟩
  · rw [if_neg h0, if_neg h0]; exact Or.inr ⟨by omega, by omega, by omega⟩
theorem apf_lt {p g : Nat} (h : p ≤ g) (hg : 1 ≤ g) : apf p < g + 2 := by unfold apf; split <;> omega
theorem apf_inj {p q : Nat} : apf p = apf q ↔ p = q := by unfold apf; repeat' split
                                                          all_goals omega
theorem hpf_inj {p q : Nat} : hpf p = hpf q ↔ p = q := by unfold hpf; repeat' split
                                                          all_goals omega
theorem apf_hpf {p q : Nat} (hp : p ≤ 4) (hq : q ≤ 4) : apf p ≠ hpf q := (part_of hp).ne (part_of hq)
theorem apf_ten {p : Nat} (hp : p ≤ 4) : apf p ≠ 10 := by unfold apf; split <;> omega
theorem hpf_ten {p : Nat} (hp : p ≤ 4) : hpf p ≠ 10 := by unfold hpf; split <;> omega

/-- The document's accounts (0 to 4 free, 5 to 9 kept, 10 the stamp) tell what the program's have. -/
structure Sim (m l : List Kt) : Prop where
  len : m.length = l.length
  free : ∀ i, i < l.length → ∀ p, p ≤ 4 → (kAt m i).n p = (kAt l i).n (apf p) - (kAt l i).n (hpf p)
  kept : ∀ i, i < l.length → ∀ p, p ≤ 4 → (kAt m i).n (5 + p) = (kAt l i).n (hpf p)
  stamp : ∀ i, i < l.length → (kAt m i).n 10 = (kAt l i).n 10
  reply : ∀ i, i < l.length → (kAt m i).reply = (kAt l i).reply
variable {m l : List Kt} {g : Nat}
theorem Sim.zero (c : Nat) : Sim (List.replicate c Kt.zero) (List.replicate c Kt.zero) := by
  have e : ∀ i, kAt (List.replicate c Kt.zero) i = Kt.zero := fun i => by
    unfold kAt
    rw [List.getElem?_replicate]
    split <;> rfl
  exact ⟨rfl, fun i _ p _ => by rw [e]; rfl, fun i _ p _ => by rw [e]; rfl, fun _ _ => rfl, fun _ _ => rfl⟩
/-- More or less is free. -/
theorem Sim.addFree (S : Sim m l) {i p : Nat} (d : Int) (hi : i < l.length) (hp : p ≤ 4) : Sim (upd m i p ((kAt m i).n p + d)) (upd l i (apf p) ((kAt l i).n (apf p) + d)) := by
  have hm : i < m.length := by rw [S.len]; exact hi
  refine ⟨by rw [upd_len, upd_len]; exact S.len, ?_, ?_, ?_, ?_⟩
  · intro j hj q hq
    rw [upd_len] at hj
    rw [upd_at _ _ hm, upd_at _ _ hi, upd_at _ _ hi]
    have h1 := S.free j hj q hq
    have h2 := S.free i hi p hp
    have h3 := apf_hpf hp hq
    by_cases e : j = i
    · subst e
      by_cases e2 : q = p
      · subst e2
        simp only [and_self, if_true, and_true, true_and, Ne.symm h3, if_false]; omega
      · have e3 : ¬ apf q = apf p := fun h => e2 (apf_inj.1 h)
        simp only [e2, e3, Ne.symm h3, and_false, if_false]; exact h1
    · simp only [e, false_and, if_false]; exact h1
  · intro j hj q hq
    rw [upd_len] at hj
    rw [upd_at _ _ hm, upd_at _ _ hi, if_neg (by omega), if_neg (fun e => apf_hpf hp hq e.2.symm)]
    exact S.kept j hj q hq
  · intro j hj
    rw [upd_len] at hj
    rw [upd_at _ _ hm, upd_at _ _ hi, if_neg (by omega), if_neg (fun e => apf_ten hp e.2.symm)]
    exact S.stamp j hj
  · intro j hj
    rw [upd_len] at hj
    rw [upd_reply _ _ hm, upd_reply _ _ hi]
    exact S.reply j hj
/-- What was held is free, or the other way: so much less is kept, so much more is free. -/
theorem Sim.shift (S : Sim m l) {i p : Nat} (d : Int) (hi : i < l.length) (hp : p ≤ 4) : Sim (upd (upd m i (5 + p) ((kAt m i).n (5 + p) - d)) i p ((kAt m i).n p + d)) (upd l i (hpf p) ((kAt l i).n (hpf p) - d)) := by
  have hm : i < m.length := by rw [S.len]; exact hi
  have hm2 : i < (upd m i (5 + p) ((kAt m i).n (5 + p) - d)).length := by rw [upd_len]; exact hm
  refine ⟨by rw [upd_len, upd_len, upd_len]; exact S.len, ?_, ?_, ?_, ?_⟩
  · intro j hj q hq
    rw [upd_len] at hj
    rw [upd_at _ _ hm2, upd_at _ _ hm, upd_at _ _ hi, upd_at _ _ hi]
    have h1 := S.free j hj q hq
    have h2 := S.free i hi p hp
    have h3 := apf_hpf hq hp
    by_cases e : j = i
    · subst e
      by_cases e2 : q = p
      · subst e2
        simp only [and_self, if_true, and_true, true_and, h3, if_false]; omega
      · have e3 : ¬ hpf q = hpf p := fun h => e2 (hpf_inj.1 h)
        have e4 : ¬ q = 5 + p := by omega
        simp only [e2, e3, e4, h3, and_false, if_false]; exact h1
    · simp only [e, false_and, if_false]; exact h1
  · intro j hj q hq
    rw [upd_len] at hj
    rw [upd_at _ _ hm2, upd_at _ _ hm, upd_at _ _ hi, if_neg (by omega)]
    have h1 := S.kept j hj q hq
    have h2 := S.kept i hi p hp
    by_cases e : j = i
    · subst e
      by_cases e2 : q = p
      · subst e2
        simp only [and_self, if_true]; omega
      · have e3 : ¬ hpf q = hpf p := fun h => e2 (hpf_inj.1 h)
        have e4 : ¬ 5 + q = 5 + p := by omega
        simp only [e3, e4, and_false, if_false]; exact h1
    · simp only [e, false_and, if_false]; exact h1
  · intro j hj
    rw [upd_len] at hj
    rw [upd_at _ _ hm2, upd_at _ _ hm, upd_at _ _ hi, if_neg (by omega), if_neg (by omega), if_neg (fun e => hpf_ten hp e.2.symm)]
    exact S.stamp j hj
  · intro j hj
    rw [upd_len] at hj
    rw [upd_reply _ _ hm2, upd_reply _ _ hm, upd_reply _ _ hi]
    exact S.reply j hj
/-- What the one held is the other one's. -/
theorem Sim.over (S : Sim m l) {i k p : Nat} (n : Int) (hi : i < l.length) (hk : k < l.length) (hp : p ≤ 4) : Sim (upd (upd m i (5 + p) ((kAt m i).n (5 + p) - n)) k p ((kAt (upd m i (5 + p) ((kAt m i).n (5 + p) - n)) k).n p + n)) (over3 l i k (apf p) (hpf p) n) := by
  have hm : i < m.length := by rw [S.len]; exact hi
  have hm2 : k < (upd m i (5 + p) ((kAt m i).n (5 + p) - n)).length := by rw [upd_len, S.len]; exact hk
  have ef : (kAt (upd m i (5 + p) ((kAt m i).n (5 + p) - n)) k).n p = (kAt m k).n p := by rw [upd_at _ _ hm, if_neg (by omega)]
  rw [ef]
  have h1l : i < (over1 l i (hpf p) n).length := by rw [over1_len]; exact hi
  have h2l : k < (over2 l i (apf p) (hpf p) n).length := by rw [over2_len]; exact hk
  have ea : ∀ j x, (kAt (over3 l i k (apf p) (hpf p) n) j).n x = (kAt l j).n x - (if j = i ∧ x = hpf p then n else 0) - (if j = i ∧ x = apf p then n else 0) + (if j = k ∧ x = apf p then n else 0) := by
    intro j x
    have h0 := apf_hpf hp hp
    have b1 : ∀ y z, (kAt (over1 l i (hpf p) n) y).n z = (kAt l y).n z - (if y = i ∧ z = hpf p then n else 0) := fun y z => by
      unfold over1
      rw [upd_at _ _ hi]
      by_cases e : y = i ∧ z = hpf p
      · rw [if_pos e, if_pos e, e.1, e.2]
      · rw [if_neg e, if_neg e]; omega
    have b2 : ∀ y z, (kAt (over2 l i (apf p) (hpf p) n) y).n z = (kAt (over1 l i (hpf p) n) y).n z - (if y = i ∧ z = apf p then n else 0) := fun y z => by
      unfold over2
      rw [upd_at _ _ h1l]
      by_cases e : y = i ∧ z = apf p
      · rw [if_pos e, if_pos e, e.1, e.2]
      · rw [if_neg e, if_neg e]; omega
    unfold over3
    rw [upd_at _ _ h2l]
    by_cases e : j = k ∧ x = apf p
    · rw [if_pos e, if_pos e, e.1, e.2, b2, b1]
    · rw [if_neg e, if_neg e, b2, b1]; omega
  have er : ∀ j, (kAt (over3 l i k (apf p) (hpf p) n) j).reply = (kAt l j).reply := fun j => by
    unfold over3
    rw [upd_reply _ _ h2l]
    unfold over2
    rw [upd_reply _ _ h1l]
    unfold over1
    rw [upd_reply _ _ hi]
  refine ⟨by rw [upd_len, upd_len, over3_len]; exact S.len, ?_, ?_, ?_, ?_⟩
  · intro j hj q hq
    rw [over3_len] at hj
    rw [upd_at _ _ hm2, upd_at _ _ hm, ea, ea]
    have h1 := S.free j hj q hq
    have h2 := S.free k hk p hp
    have h3 := apf_hpf hq hp
    have h4 := apf_hpf hp hq
    by_cases e2 : q = p
    · subst e2
      have e5 : ¬ q = 5 + q := by omega
      simp only [h3, Ne.symm h3, e5, and_true, and_false, if_false]
      by_cases ei : j = i <;> by_cases ek : j = k
      · subst ei; subst ek; simp only [if_true]; omega
      · subst ei; simp only [ek, if_true, if_false]; omega
      · subst ek; simp only [ei, if_true, if_false]; omega
      · simp only [ei, ek, if_false]; omega
    · have e3 : ¬ hpf q = hpf p := fun h => e2 (hpf_inj.1 h)
      have e4 : ¬ apf q = apf p := fun h => e2 (apf_inj.1 h)
      have e5 : ¬ q = 5 + p := by omega
      simp only [e2, e3, e4, e5, h3, Ne.symm h4, and_false, if_false]; omega
  · intro j hj q hq
    rw [over3_len] at hj
    rw [upd_at _ _ hm2, upd_at _ _ hm, ea, if_neg (by omega)]
    have h1 := S.kept j hj q hq
    have h2 := S.kept i hi p hp
    have h4 := apf_hpf hp hq
    simp only [Ne.symm h4, and_false, if_false]
    by_cases e2 : q = p
    · subst e2
      by_cases ei : j = i
      · subst ei; simp only [and_self, if_true]; omega
      · simp only [ei, false_and, if_false]; omega
    · have e3 : ¬ hpf q = hpf p := fun h => e2 (hpf_inj.1 h)
      have e5 : ¬ 5 + q = 5 + p := by omega
      simp only [e3, e5, and_false, if_false]; omega
  · intro j hj
    rw [over3_len] at hj
    rw [upd_at _ _ hm2, upd_at _ _ hm, ea, if_neg (by omega), if_neg (by omega)]
    have h1 := S.stamp j hj
    have h3 := apf_ten hp
    have h4 := hpf_ten hp
    simp only [Ne.symm h3, Ne.symm h4, and_false, if_false]; omega
  · intro j hj
    rw [over3_len] at hj
    rw [upd_reply _ _ hm2, upd_reply _ _ hm, er]
    exact S.reply j hj
theorem Sim.mark (S : Sim m l) {i : Nat} (s : Int) (r : ByteArray) (hi : i < l.length) : Sim (markL m i s r) (markL l i s r) := by
  have hm : i < m.length := by rw [S.len]; exact hi
  have e : ∀ {x : List Kt} (_ : i < x.length) j, kAt (markL x i s r) j = if j = i then (kAt x i).mark s r else kAt x j := fun h j => by unfold markL; exact kAt_set _ h j
  have en : ∀ {x : List Kt} (_ : i < x.length) j y, y ≠ 10 → (kAt (markL x i s r) j).n y = (kAt x j).n y := fun h j y hy => by
    rw [e h]
    by_cases h1 : j = i
    · subst h1; simp [Kt.mark, hy]
    · simp [h1]
  refine ⟨by rw [markL_len, markL_len]; exact S.len, ?_, ?_, ?_, ?_⟩
  · intro j hj q hq
    rw [markL_len] at hj
    rw [en hm j q (by omega), en hi j _ (apf_ten hq), en hi j _ (hpf_ten hq)]
    exact S.free j hj q hq
  · intro j hj q hq
    rw [markL_len] at hj
    rw [en hm j _ (by omega), en hi j _ (hpf_ten hq)]
    exact S.kept j hj q hq
  · intro j hj
    rw [markL_len] at hj
    rw [e hm, e hi]
    by_cases h1 : j = i
    · simp [h1, Kt.mark]
    · simp only [h1, if_false]; exact S.stamp j hj
  · intro j hj
    rw [markL_len] at hj
    rw [e hm, e hi]
    by_cases h1 : j = i
    · simp [h1, Kt.mark]
    · simp only [h1, if_false]; exact S.reply j hj
/-- What can be reckoned with. -/
theorem Sim.nums (S : Sim m l) (H : Inv g l) {i p : Nat} (hi : i < l.length) (hp : p ≤ 4) : 0 ≤ (kAt m i).n p ∧ 0 ≤ (kAt m i).n (5 + p) ∧ (kAt m i).n p + (kAt m i).n (5 + p) = (kAt l i).n (apf p) ∧ (kAt l i).n (apf p) ≤ 1099511627776 := by
  have h1 := S.free i hi p hp
  have h2 := S.kept i hi p hp
  have h3 := H.le (part_of hp) hi
  omega

/-- Why an amount of a part may not be asked for. -/
def refPt (g c : Nat) (pt n : Int) (named : List Int) : Int :=
  if named.all (fun z => decide (0 ≤ z ∧ z < c)) = false then 60 else if pt < 0 ∨ (g : Int) < pt ∨ n < 1 ∨ 1099511627776 < n then 1 else 0
/-- A good's part. -/
def ptOf (good : Int) : Int := if good < 0 ∨ 3 < good then -1 else good + 1
theorem refPt_cash (g c : Nat) (n : Int) (named : List Int) : refPt g c 0 n named = refE c n named := by
  unfold refPt refE
  split
  · rfl
  · by_cases h : n < 1 ∨ 1099511627776 < n
    · rw [if_pos h, if_pos (by omega)]
    · rw [if_neg h, if_neg (by omega)]
theorem refPt_good (g c : Nat) (good n : Int) (named : List Int) (hg : g ≤ 4) : refPt g c (ptOf good) n named = refG g c good n named := by
  unfold refPt refG refE ptOf
  cases named.all (fun z => decide (0 ≤ z ∧ z < c))
  · simp
  · simp only [Bool.true_eq_false, if_false]
    by_cases h : n < 1 ∨ 1099511627776 < n
    · rw [if_pos h]
      simp only [show ¬ (1 : Int) = 0 by omega, if_false]
      exact if_pos (by omega)
    · rw [if_neg h]
      simp only [if_true]
      by_cases h2 : good < 0 ∨ 3 < good
      · rw [if_pos h2, if_pos (by omega), if_pos (by omega)]
      · rw [if_neg h2]
        by_cases h3 : good < 0 ∨ (g : Int) ≤ good
        · rw [if_pos h3, if_pos (by omega)]
        · rw [if_neg h3, if_neg (by omega)]
theorem refPt_ok {c : Nat} {pt n : Int} {named : List Int} (h : refPt g c pt n named = 0) : refE c n named = 0 ∧ ∃ p : Nat, pt = p ∧ p ≤ g := by
  unfold refPt at h
  unfold refE
  split at h
  · cases h
  · next h1 =>
    split at h
    · cases h
    · next h2 => exact ⟨by rw [if_neg h1, if_neg (by omega)], pt.toNat, by omega, by omega⟩
end Go.Proofs.YtmcafgmjfgfaeaaDoor
