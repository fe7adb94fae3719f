/- How many clients there are stays. No program is named here. -/
import Derived.Test.YtmcafgmjfgfaeaaDoorLr12
namespace Go.Proofs.YtmcafgmjfgfaeaaDoor
open Go.RowKit
set_option linter.unusedSimpArgs false
set_option linter.unusedVariables false
theorem gate_len {e : Int} {l : List Kt} {r : Int × List Kt} (h : r.2.length = l.length) : (gate e l r).2.length = l.length := by
  unfold gate; split
  · exact h
  · rfl
theorem act_len (g : Nat) (l : List Kt) (a : Ac) : (act g l a).2.length = l.length := by
  unfold act
  split
  all_goals first | (refine gate_len ?_) | skip
  all_goals first | unfold inR | unfold outR | unfold keepR | unfold looseR | unfold overR | unfold markR
  all_goals (repeat' split)
  all_goals first | rfl | exact upd_len _ _ _ _ | exact over3_len | exact markL_len _ _ _ _
theorem foldl_len (g : Nat) (ls : List Ac) (l : List Kt) : (ls.foldl (fun l a => (act g l a).2) l).length = l.length := by
  induction ls generalizing l with
  | nil => rfl
  | cons a ls ih => rw [List.foldl_cons, ih, act_len]
end Go.Proofs.YtmcafgmjfgfaeaaDoor

namespace Go.Proofs.YtmcafgmjfgfaeaaDoor
open Go.RowKit
set_option linter.unusedSimpArgs false
set_option linter.unusedVariables false
variable {g : Nat} {l : List Kt}
theorem gate_not {e : Int} {l : List Kt} {r : Int × List Kt} (hr : r.1 ≠ 0 → r.2 = l) (h : (gate e l r).1 ≠ 0) : (gate e l r).2 = l := by
  unfold gate at h ⊢
  split
  · next he => rw [if_pos he] at h; exact hr h
  · rfl
theorem gate_ok {e : Int} {l : List Kt} {r : Int × List Kt} (h : (gate e l r).1 = 0) : e = 0 ∧ gate e l r = r := by
  unfold gate at h ⊢
  split
  · next he => exact ⟨he, rfl⟩
  · next he => rw [if_neg he] at h; exact absurd h he
theorem if_not {c : Prop} [Decidable c] {e : Int} {l l' : List Kt} (h : (if c then (e, l) else ((0 : Int), l')).1 ≠ 0) : (if c then (e, l) else ((0 : Int), l')).2 = l := by
  split
  · rfl
  · next hc => rw [if_neg hc] at h; exact absurd rfl h
theorem if_ok {c : Prop} [Decidable c] {e : Int} {l l' : List Kt} (he : e ≠ 0) (h : (if c then (e, l) else ((0 : Int), l')).1 = 0) : ¬ c ∧ (if c then (e, l) else ((0 : Int), l')).2 = l' := by
  split
  · next hc => rw [if_pos hc] at h; exact absurd h he
  · next hc => exact ⟨hc, rfl⟩
theorem act_eq0 {a : Ac} (h : rest a.kind 11 = 0) : act g l a = gate (refE l.length a.n [a.who]) l (inR l a.who.toNat 0 a.n) := by unfold act; rw [h]; rfl
theorem act_eq1 {a : Ac} (h : rest a.kind 11 = 1) : act g l a = gate (refE l.length a.n [a.who]) l (outR l a.who.toNat 0 1 a.n) := by unfold act; rw [h]; rfl
theorem act_eq2 {a : Ac} (h : rest a.kind 11 = 2) : act g l a = gate (refG g l.length a.good a.n [a.who]) l (inR l a.who.toNat (2 + a.good.toNat) a.n) := by unfold act; rw [h]; rfl
theorem act_eq3 {a : Ac} (h : rest a.kind 11 = 3) : act g l a = gate (refG g l.length a.good a.n [a.who]) l (outR l a.who.toNat (2 + a.good.toNat) (6 + a.good.toNat) a.n) := by unfold act; rw [h]; rfl
theorem act_eq4 {a : Ac} (h : rest a.kind 11 = 4) : act g l a = gate (refE l.length a.n [a.who]) l (keepR l a.who.toNat 0 1 a.n) := by unfold act; rw [h]; rfl
theorem act_eq5 {a : Ac} (h : rest a.kind 11 = 5) : act g l a = gate (refE l.length a.n [a.who]) l (looseR l a.who.toNat 1 a.n) := by unfold act; rw [h]; rfl
theorem act_eq6 {a : Ac} (h : rest a.kind 11 = 6) : act g l a = gate (refG g l.length a.good a.n [a.who]) l (keepR l a.who.toNat (2 + a.good.toNat) (6 + a.good.toNat) a.n) := by unfold act; rw [h]; rfl
theorem act_eq7 {a : Ac} (h : rest a.kind 11 = 7) : act g l a = gate (refG g l.length a.good a.n [a.who]) l (looseR l a.who.toNat (6 + a.good.toNat) a.n) := by unfold act; rw [h]; rfl
theorem act_eq8 {a : Ac} (h : rest a.kind 11 = 8) : act g l a = gate (refE l.length a.n [a.who, a.dst]) l (overR l a.who.toNat a.dst.toNat 0 1 a.n) := by unfold act; rw [h]; rfl
theorem act_eq9 {a : Ac} (h : rest a.kind 11 = 9) : act g l a = gate (refG g l.length a.good a.n [a.who, a.dst]) l (overR l a.who.toNat a.dst.toNat (2 + a.good.toNat) (6 + a.good.toNat) a.n) := by unfold act; rw [h]; rfl
theorem act_eq10 {a : Ac} (h : rest a.kind 11 = 10) : act g l a = markR l a.who a.n a.text := by unfold act; rw [h]; rfl
theorem kinds (a : Ac) : rest a.kind 11 = 0 ∨ rest a.kind 11 = 1 ∨ rest a.kind 11 = 2 ∨ rest a.kind 11 = 3 ∨ rest a.kind 11 = 4 ∨ rest a.kind 11 = 5 ∨ rest a.kind 11 = 6 ∨ rest a.kind 11 = 7 ∨ rest a.kind 11 = 8 ∨ rest a.kind 11 = 9 ∨ rest a.kind 11 = 10 := by
  have := rest_lt a.kind 11 (by omega)
  omega
theorem markR_not {who s : Int} {t : ByteArray} (h : (markR l who s t).1 ≠ 0) : (markR l who s t).2 = l := by
  unfold markR at h ⊢
  split
  · rfl
  · split
    · rfl
    · split
      · rfl
      · next h1 h2 h3 => rw [if_neg h1, if_neg h2, if_neg h3] at h; exact absurd rfl h
theorem markR_ok {who s : Int} {t : ByteArray} (h : (markR l who s t).1 = 0) : ∃ i : Nat, who = i ∧ i < l.length ∧ 1 ≤ s ∧ s ≤ 1099511627776 ∧ t.size ≤ 256 ∧ (kAt l i).n 10 < s ∧ (markR l who s t).2 = markL l i s t := by
  unfold markR at h ⊢
  split
  · next h1 => rw [if_pos h1] at h; cases h
  · split
    · next h1 h2 => rw [if_neg h1, if_pos h2] at h; cases h
    · split
      · next h1 h2 h3 => rw [if_neg h1, if_neg h2, if_pos h3] at h; cases h
      · next h1 h2 h3 => exact ⟨who.toNat, by omega, by omega, by omega, by omega, by omega, by omega, rfl⟩
/-- What is refused changes nothing. -/
theorem act_not (a : Ac) (h : (act g l a).1 ≠ 0) : (act g l a).2 = l := by
  rcases kinds a with k | k | k | k | k | k | k | k | k | k | k
  · rw [act_eq0 k] at h ⊢; exact gate_not (fun h => if_not h) h
  · rw [act_eq1 k] at h ⊢; exact gate_not (fun h => if_not h) h
  · rw [act_eq2 k] at h ⊢; exact gate_not (fun h => if_not h) h
  · rw [act_eq3 k] at h ⊢; exact gate_not (fun h => if_not h) h
  · rw [act_eq4 k] at h ⊢; exact gate_not (fun h => if_not h) h
  · rw [act_eq5 k] at h ⊢; exact gate_not (fun h => if_not h) h
  · rw [act_eq6 k] at h ⊢; exact gate_not (fun h => if_not h) h
  · rw [act_eq7 k] at h ⊢; exact gate_not (fun h => if_not h) h
  · rw [act_eq8 k] at h ⊢; exact gate_not (fun h => if_not h) h
  · rw [act_eq9 k] at h ⊢; exact gate_not (fun h => if_not h) h
  · rw [act_eq10 k] at h ⊢; exact markR_not h

/-- How much more there is of a kind. -/
def dlt (a : Ac) (x : Nat) : Int :=
  match rest a.kind 11 with
  | 0 => if x = 0 then a.n else 0
  | 1 => if x = 0 then -a.n else 0
  | 2 => if x = 2 + a.good.toNat then a.n else 0
  | 3 => if x = 2 + a.good.toNat then -a.n else 0
  | _ => 0
def IsA (x : Nat) : Prop := x = 0 ∨ (2 ≤ x ∧ x ≤ 5)
theorem IsA.ne {x a h : Nat} (hx : IsA x) (p : Part a h) : x ≠ h := by
  rcases p with ⟨rfl, rfl⟩ | ⟨_, _, rfl⟩ <;> rcases hx with rfl | ⟨_, _⟩ <;> omega
theorem sum_in {i a x : Nat} {n : Int} (hi : i < l.length) (h : (inR l i a n).1 = 0) : tot (inR l i a n).2 x = tot l x + if x = a then n else 0 := by
  obtain ⟨_, e⟩ := if_ok (by decide) h
  rw [show (inR l i a n).2 = _ from e, tot_upd _ _ _ hi]
  split
  · omega
  · rfl
theorem sum_out {i a k x : Nat} {n : Int} (hi : i < l.length) (h : (outR l i a k n).1 = 0) : tot (outR l i a k n).2 x = tot l x + if x = a then -n else 0 := by
  obtain ⟨_, e⟩ := if_ok (by decide) h
  rw [show (outR l i a k n).2 = _ from e, tot_upd _ _ _ hi]
  split
  · omega
  · rfl
theorem sum_keep {i a k x : Nat} {n : Int} (hi : i < l.length) (hx : IsA x) (p : Part a k) (h : (keepR l i a k n).1 = 0) : tot (keepR l i a k n).2 x = tot l x + 0 := by
  obtain ⟨_, e⟩ := if_ok (by decide) h
  rw [show (keepR l i a k n).2 = _ from e, tot_upd _ _ _ hi, if_neg (hx.ne p)]
theorem sum_loose {i a k x : Nat} {n : Int} (hi : i < l.length) (hx : IsA x) (p : Part a k) (h : (looseR l i k n).1 = 0) : tot (looseR l i k n).2 x = tot l x + 0 := by
  obtain ⟨_, e⟩ := if_ok (by decide) h
  rw [show (looseR l i k n).2 = _ from e, tot_upd _ _ _ hi, if_neg (hx.ne p)]
theorem over3_tot {i j a k x : Nat} {n : Int} (hi : i < l.length) (hj : j < l.length) (hx : IsA x) (p : Part a k) : tot (over3 l i j a k n) x = tot l x := by
  unfold over3
  rw [tot_upd _ _ _ (by rw [over2_len]; exact hj), over2_tot p hi, if_neg (hx.ne p)]
  split <;> omega
theorem sum_over {i j a k x : Nat} {n : Int} (hi : i < l.length) (hj : j < l.length) (hx : IsA x) (p : Part a k) (h : (overR l i j a k n).1 = 0) : tot (overR l i j a k n).2 x = tot l x + 0 := by
  obtain ⟨_, e⟩ := if_ok (by decide) h
  rw [show (overR l i j a k n).2 = _ from e, over3_tot hi hj hx p]; omega
theorem sum_mark {i x : Nat} {s : Int} {t : ByteArray} (hi : i < l.length) (hx : IsA x) : tot (markL l i s t) x = tot l x + 0 := by
  unfold markL
  rw [tot_set _ _ _ _ hi]
  have : x ≠ 10 := by rcases hx with rfl | ⟨_, _⟩ <;> omega
  simp [Kt.mark, this]
/-- What is taken adds as much as it says, and nothing else does. -/
theorem act_sum (H : Inv g l) (a : Ac) (h : (act g l a).1 = 0) {x : Nat} (hx : IsA x) : tot (act g l a).2 x = tot l x + dlt a x := by
  have hg := H.g4
  rcases kinds a with k | k | k | k | k | k | k | k | k | k | k
  · rw [act_eq0 k] at h ⊢
    obtain ⟨he, e⟩ := gate_ok h
    rw [e] at h ⊢
    obtain ⟨i, hw, hi, _, _⟩ := refE_one he
    unfold dlt
    rw [k]
    simp only [hw, Int.toNat_natCast] at h ⊢
    exact sum_in hi h
  · rw [act_eq1 k] at h ⊢
    obtain ⟨he, e⟩ := gate_ok h
    rw [e] at h ⊢
    obtain ⟨i, hw, hi, _, _⟩ := refE_one he
    unfold dlt
    rw [k]
    simp only [hw, Int.toNat_natCast] at h ⊢
    exact sum_out hi h
  · rw [act_eq2 k] at h ⊢
    obtain ⟨he, e⟩ := gate_ok h
    rw [e] at h ⊢
    obtain ⟨he, q, hq, hqg⟩ := refG_ok he
    obtain ⟨i, hw, hi, _, _⟩ := refE_one he
    unfold dlt
    rw [k]
    simp only [hw, hq, Int.toNat_natCast] at h ⊢
    exact sum_in hi h
  · rw [act_eq3 k] at h ⊢
    obtain ⟨he, e⟩ := gate_ok h
    rw [e] at h ⊢
    obtain ⟨he, q, hq, hqg⟩ := refG_ok he
    obtain ⟨i, hw, hi, _, _⟩ := refE_one he
    unfold dlt
    rw [k]
    simp only [hw, hq, Int.toNat_natCast] at h ⊢
    exact sum_out hi h
  · rw [act_eq4 k] at h ⊢
    obtain ⟨he, e⟩ := gate_ok h
    rw [e] at h ⊢
    obtain ⟨i, hw, hi, _, _⟩ := refE_one he
    unfold dlt
    rw [k]
    simp only [hw, Int.toNat_natCast] at h ⊢
    exact sum_keep hi hx (Or.inl ⟨rfl, rfl⟩) h
  · rw [act_eq5 k] at h ⊢
    obtain ⟨he, e⟩ := gate_ok h
    rw [e] at h ⊢
    obtain ⟨i, hw, hi, _, _⟩ := refE_one he
    unfold dlt
    rw [k]
    simp only [hw, Int.toNat_natCast] at h ⊢
    exact sum_loose hi hx (Or.inl ⟨rfl, rfl⟩) h
  · rw [act_eq6 k] at h ⊢
    obtain ⟨he, e⟩ := gate_ok h
    rw [e] at h ⊢
    obtain ⟨he, q, hq, hqg⟩ := refG_ok he
    obtain ⟨i, hw, hi, _, _⟩ := refE_one he
    unfold dlt
    rw [k]
    simp only [hw, hq, Int.toNat_natCast] at h ⊢
    exact sum_keep hi hx (partG q (by omega)) h
  · rw [act_eq7 k] at h ⊢
    obtain ⟨he, e⟩ := gate_ok h
    rw [e] at h ⊢
    obtain ⟨he, q, hq, hqg⟩ := refG_ok he
    obtain ⟨i, hw, hi, _, _⟩ := refE_one he
    unfold dlt
    rw [k]
    simp only [hw, hq, Int.toNat_natCast] at h ⊢
    exact sum_loose hi hx (partG q (by omega)) h
  · rw [act_eq8 k] at h ⊢
    obtain ⟨he, e⟩ := gate_ok h
    rw [e] at h ⊢
    obtain ⟨i, j, hw, hw2, hi, hj, _, _⟩ := refE_two he
    unfold dlt
    rw [k]
    simp only [hw, hw2, Int.toNat_natCast] at h ⊢
    exact sum_over hi hj hx (Or.inl ⟨rfl, rfl⟩) h
  · rw [act_eq9 k] at h ⊢
    obtain ⟨he, e⟩ := gate_ok h
    rw [e] at h ⊢
    obtain ⟨he, q, hq, hqg⟩ := refG_ok he
    obtain ⟨i, j, hw, hw2, hi, hj, _, _⟩ := refE_two he
    unfold dlt
    rw [k]
    simp only [hw, hq, hw2, Int.toNat_natCast] at h ⊢
    exact sum_over hi hj hx (partG q (by omega)) h
  · rw [act_eq10 k] at h ⊢
    obtain ⟨i, _, hi, _, _, _, _, e⟩ := markR_ok h
    unfold dlt
    rw [k, e]
    exact sum_mark hi hx
/-- A good that there is. -/
theorem act_good (a : Ac) (hk : rest a.kind 11 = 2 ∨ rest a.kind 11 = 3) (h : (act g l a).1 = 0) : ∃ q : Nat, a.good = q ∧ q < g := by
  rcases hk with k | k
  · rw [act_eq2 k] at h
    exact (refG_ok (gate_ok h).1).2
  · rw [act_eq3 k] at h
    exact (refG_ok (gate_ok h).1).2
theorem act_amount (a : Ac) (hk : rest a.kind 11 < 4) (h : (act g l a).1 = 0) : 1 ≤ a.n ∧ a.n ≤ 1099511627776 := by
  have : rest a.kind 11 = 0 ∨ rest a.kind 11 = 1 ∨ rest a.kind 11 = 2 ∨ rest a.kind 11 = 3 := by omega
  rcases this with k | k | k | k
  · rw [act_eq0 k] at h
    obtain ⟨_, _, _, h1, h2⟩ := refE_one (gate_ok h).1
    exact ⟨h1, h2⟩
  · rw [act_eq1 k] at h
    obtain ⟨_, _, _, h1, h2⟩ := refE_one (gate_ok h).1
    exact ⟨h1, h2⟩
  · rw [act_eq2 k] at h
    obtain ⟨_, _, _, h1, h2⟩ := refE_one (refG_ok (gate_ok h).1).1
    exact ⟨h1, h2⟩
  · rw [act_eq3 k] at h
    obtain ⟨_, _, _, h1, h2⟩ := refE_one (refG_ok (gate_ok h).1).1
    exact ⟨h1, h2⟩
theorem rest_small (q d : Nat) (h : q < d) : rest (q : Int) d = q := by
  unfold rest
  rw [Int.natAbs_tmod, Int.natAbs_natCast, Int.natAbs_natCast, Nat.mod_eq_of_lt h]
end Go.Proofs.YtmcafgmjfgfaeaaDoor
