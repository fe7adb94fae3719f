/- Shares as plain data: all of it is parted, nobody gets more than the gap. No program is named here. -/
import Derived.Test.YteinfckkpkbnlaaCkP
namespace Go.Proofs.Yteinfckkpkbnlaa
open Go.RowKit
set_option linter.unusedSimpArgs false
set_option linter.unusedVariables false

/-- What is rounded down; what is left then at each place; what each one gets. -/
def bas (n all : Int) (g : Nat → Int) (i : Nat) : Int := if 0 < g i then (n * g i).tdiv all else 0
def lf (l0 : Int) (b g : Nat → Int) : Nat → Int
  | 0 => l0
  | k + 1 => if 0 < lf l0 b g k ∧ b k < g k then lf l0 b g k - 1 else lf l0 b g k
def shr (l0 : Int) (b g : Nat → Int) (i : Nat) : Int := if 0 < lf l0 b g i ∧ b i < g i then b i + 1 else b i
def cnt (b g : Nat → Int) : Nat → Int
  | 0 => 0
  | k + 1 => if b k < g k then cnt b g k + 1 else cnt b g k
theorem cnt_nonneg (b g : Nat → Int) : ∀ k, 0 ≤ cnt b g k
  | 0 => Int.le_refl _
  | k + 1 => by
    have := cnt_nonneg b g k
    simp only [cnt]; split <;> omega
theorem lf_eq (l0 : Int) (b g : Nat → Int) (h0 : 0 ≤ l0) : ∀ k, lf l0 b g k = if cnt b g k ≤ l0 then l0 - cnt b g k else 0
  | 0 => by simp [lf, cnt, h0]
  | k + 1 => by
    have ih := lf_eq l0 b g h0 k
    have hc := cnt_nonneg b g k
    simp only [lf, cnt]
    rw [ih]
    by_cases h1 : b k < g k
    · simp only [h1, and_true, if_true]
      by_cases h2 : cnt b g k ≤ l0
      · simp only [h2, if_true]
        by_cases h3 : 0 < l0 - cnt b g k
        · rw [if_pos h3, if_pos (by omega)]; omega
        · rw [if_neg h3, if_neg (by omega)]; omega
      · simp only [h2, if_false]
        rw [if_neg (by omega), if_neg (by omega)]
    · simp [h1]
theorem lf_nonneg (l0 : Int) (b g : Nat → Int) (h0 : 0 ≤ l0) (k : Nat) : 0 ≤ lf l0 b g k := by
  rw [lf_eq l0 b g h0]; split <;> omega
theorem lf_fall (l0 : Int) (b g : Nat → Int) : ∀ {i k : Nat}, i ≤ k → lf l0 b g k ≤ lf l0 b g i := by
  intro i k
  induction k with
  | zero => intro h; have : i = 0 := by omega
            subst this; exact Int.le_refl _
  | succ k ih =>
    intro h
    by_cases e : i = k + 1
    · subst e; exact Int.le_refl _
    · have := ih (by omega)
      simp only [lf]; split <;> omega
theorem lf_le (l0 : Int) (b g : Nat → Int) (k : Nat) : lf l0 b g k ≤ l0 := lf_fall l0 b g (Nat.zero_le k)
theorem shr_sum (l0 : Int) (b g : Nat → Int) : ∀ k, sumTo (shr l0 b g) k = sumTo b k + (l0 - lf l0 b g k)
  | 0 => by simp [sumTo, lf]
  | k + 1 => by
    have ih := shr_sum l0 b g k
    simp only [sumTo, ih, lf, shr]
    split <;> omega

theorem one_le {g : Nat → Int} {m : Nat} (hg : ∀ i, i < m → 0 ≤ g i) {i : Nat} (hi : i < m) : g i ≤ sumTo g m := by
  have h2 : sumTo g (i + 1) ≤ sumTo g m := sumTo_part (fun j hj => hg j hj) (by omega)
  have h3 := sumTo_nonneg (f := g) (k := i) (fun j hj => hg j (by omega))
  simp only [sumTo] at h2
  omega
theorem bas_ok {n : Int} {g : Nat → Int} {m : Nat} (hg : ∀ i, i < m → 0 ≤ g i) (hn : 0 ≤ n) (ha : n ≤ sumTo g m) {i : Nat} (hi : i < m) : 0 ≤ bas n (sumTo g m) g i ∧ bas n (sumTo g m) g i ≤ g i ∧ sumTo g m * bas n (sumTo g m) g i ≤ n * g i ∧ (bas n (sumTo g m) g i < g i → n * g i < sumTo g m * bas n (sumTo g m) g i + sumTo g m) := by
  have h0 := hg i hi
  have h9 := one_le hg hi
  generalize sumTo g m = A at *
  unfold bas
  by_cases h1 : 0 < g i
  · simp only [h1, if_true]
    have hx : 0 ≤ n * g i := Int.mul_nonneg hn h0
    rw [Int.tdiv_eq_ediv_of_nonneg hx]
    by_cases hA : 0 < A
    · have q0 : 0 ≤ n * g i / A := Int.ediv_nonneg hx (by omega)
      have q1 : A * (n * g i / A) + n * g i % A = n * g i := Int.mul_ediv_add_emod _ _
      have q2 := Int.emod_nonneg (n * g i) (show A ≠ 0 by omega)
      have q3 := Int.emod_lt_of_pos (n * g i) hA
      have q4 : n * g i ≤ A * g i := Int.mul_le_mul_of_nonneg_right ha h0
      have q5 : n * g i / A ≤ g i := Int.le_of_mul_le_mul_left (show A * (n * g i / A) ≤ A * g i by omega) hA
      exact ⟨q0, q5, by omega, fun _ => by omega⟩
    · have hA0 : A ≤ 0 := by omega
      have : n = 0 := by omega
      subst this
      have hAz : A = 0 := by omega
      subst hAz
      simp
      omega
  · have hz : g i = 0 := by omega
    simp [h1, hz]
theorem bas_sums {n : Int} {g : Nat → Int} {m : Nat} (hg : ∀ i, i < m → 0 ≤ g i) (hn : 0 ≤ n) (ha : n ≤ sumTo g m) : ∀ k, k ≤ m → sumTo g m * sumTo (bas n (sumTo g m) g) k ≤ n * sumTo g k ∧ n * sumTo g k ≤ sumTo g m * (sumTo (bas n (sumTo g m) g) k + cnt (bas n (sumTo g m) g) g k)
  | 0, _ => by simp [sumTo, cnt]
  | k + 1, hk => by
    obtain ⟨ih1, ih2⟩ := bas_sums hg hn ha k (by omega)
    obtain ⟨q1, q2, q3, q4⟩ := bas_ok hg hn ha (show k < m by omega)
    have hA0 : 0 ≤ sumTo g m := by omega
    have h5 : n * g k ≤ sumTo g m * g k := Int.mul_le_mul_of_nonneg_right ha (hg k (by omega))
    generalize bas n (sumTo g m) g = B at *
    generalize sumTo g m = A at *
    simp only [sumTo, cnt]
    constructor
    · rw [Int.mul_add, Int.mul_add]; omega
    · by_cases h1 : B k < g k
      · have := q4 h1
        rw [if_pos h1, Int.mul_add, Int.mul_add, Int.mul_add, Int.mul_add, Int.mul_one]
        rw [Int.mul_add] at ih2
        omega
      · have e : B k = g k := by omega
        rw [if_neg h1, Int.mul_add, Int.mul_add, Int.mul_add, e]
        rw [Int.mul_add] at ih2
        omega
/-- What is left is handed out to the last piece. -/
theorem left_ok {n : Int} {g : Nat → Int} {m : Nat} (hg : ∀ i, i < m → 0 ≤ g i) (hn : 0 ≤ n) (ha : n ≤ sumTo g m) : 0 ≤ n - sumTo (bas n (sumTo g m) g) m ∧ n - sumTo (bas n (sumTo g m) g) m ≤ cnt (bas n (sumTo g m) g) g m := by
  obtain ⟨h1, h2⟩ := bas_sums hg hn ha m (Nat.le_refl _)
  have hb : ∀ i, i < m → 0 ≤ bas n (sumTo g m) g i ∧ bas n (sumTo g m) g i ≤ g i := fun i hi => ⟨(bas_ok hg hn ha hi).1, (bas_ok hg hn ha hi).2.1⟩
  have hc := cnt_nonneg (bas n (sumTo g m) g) g m
  by_cases hA : 0 < sumTo g m
  · generalize bas n (sumTo g m) g = B at *
    generalize sumTo g m = A at *
    have e : n * A = A * n := Int.mul_comm _ _
    rw [e] at h1 h2
    have := Int.le_of_mul_le_mul_left h1 hA
    have := Int.le_of_mul_le_mul_left h2 hA
    omega
  · have hA0 : sumTo g m = 0 := by omega
    have hz : sumTo (bas n (sumTo g m) g) m = 0 := by
      rw [sumTo_congr (g := fun _ => 0) fun i hi => ?_]
      · exact sumTo_zero m
      · have := hb i hi
        have := one_le hg hi
        show bas n (sumTo g m) g i = 0
        omega
    omega

/-- n among gaps. -/
def shares (n : Int) (l : List Int) : List Int :=
  tab l.length (shr (n - sumTo (bas n (sumL l) (gAt l)) l.length) (bas n (sumL l) (gAt l)) (gAt l))
def Sh (n : Int) (l : List Int) : Prop := l.length ≤ 16 ∧ (∀ i, i < l.length → 0 ≤ gAt l i ∧ gAt l i ≤ 1048576) ∧ 0 ≤ n ∧ n ≤ 1048576 ∧ n ≤ sumL l
theorem shares_len (n : Int) (l : List Int) : (shares n l).length = l.length := tab_len _ _
theorem Sh.sum {n : Int} {l : List Int} (h : Sh n l) : sumL (shares n l) = n := by
  obtain ⟨_, hg, hn, _, ha⟩ := h
  unfold shares
  rw [sumL_tab, shr_sum]
  obtain ⟨h1, h2⟩ := left_ok (m := l.length) (g := gAt l) (n := n) (fun i hi => (hg i hi).1) hn ha
  have e : sumTo (gAt l) l.length = sumL l := rfl
  rw [e] at h1 h2
  rw [lf_eq _ _ _ h1]
  generalize sumTo (bas n (sumL l) (gAt l)) l.length = S at *
  generalize cnt (bas n (sumL l) (gAt l)) (gAt l) l.length = c at *
  split <;> omega
theorem Sh.each {n : Int} {l : List Int} (h : Sh n l) {i : Nat} (hi : i < l.length) : 0 ≤ gAt (shares n l) i ∧ gAt (shares n l) i ≤ gAt l i := by
  obtain ⟨_, hg, hn, _, ha⟩ := h
  unfold shares
  rw [tab_at _ hi]
  have h1 := bas_ok (m := l.length) (g := gAt l) (n := n) (fun i hi => (hg i hi).1) hn ha hi
  have e : sumTo (gAt l) l.length = sumL l := rfl
  rw [e] at h1
  unfold shr
  split <;> omega
/-- A greater gap gets no less, but for a piece. -/
theorem Sh.more {n : Int} {l : List Int} (h : Sh n l) {i k : Nat} (hi : i < l.length) (hk : k < l.length) (hl : gAt l k < gAt l i) : gAt (shares n l) k ≤ gAt (shares n l) i + 1 := by
  obtain ⟨_, hg, hn, _, ha⟩ := h
  unfold shares
  rw [tab_at _ hi, tab_at _ hk]
  have hb : bas n (sumL l) (gAt l) k ≤ bas n (sumL l) (gAt l) i := by
    have h1 := bas_ok (m := l.length) (g := gAt l) (n := n) (fun i hi => (hg i hi).1) hn ha hi
    have e : sumTo (gAt l) l.length = sumL l := rfl
    rw [e] at h1
    unfold bas at *
    have g1 := (hg k hk).1
    by_cases h0 : 0 < gAt l k
    · rw [if_pos h0, if_pos (by omega)]
      have x1 : 0 ≤ n * gAt l k := Int.mul_nonneg hn g1
      have x2 : n * gAt l k ≤ n * gAt l i := Int.mul_le_mul_of_nonneg_left (by omega) hn
      rw [Int.tdiv_eq_ediv_of_nonneg x1, Int.tdiv_eq_ediv_of_nonneg (by omega)]
      by_cases hA : 0 < sumL l
      · exact Int.ediv_le_ediv hA x2
      · have : sumL l ≤ 0 := by omega
        have hn0 : n = 0 := by omega
        subst hn0
        simp
    · rw [if_neg h0]
      exact h1.1
  unfold shr
  split <;> split <;> omega
/-- Of equal gaps the first ones get a piece more, if any. -/
theorem Sh.equal {n : Int} {l : List Int} (h : Sh n l) {i k : Nat} (hi : i < l.length) (hk : k < l.length) (hik : i < k) (hl : gAt l i = gAt l k) : gAt (shares n l) k ≤ gAt (shares n l) i ∧ gAt (shares n l) i ≤ gAt (shares n l) k + 1 := by
  unfold shares
  rw [tab_at _ hi, tab_at _ hk]
  have hb : bas n (sumL l) (gAt l) i = bas n (sumL l) (gAt l) k := by unfold bas; rw [hl]
  have hf := lf_fall (n - sumTo (bas n (sumL l) (gAt l)) l.length) (bas n (sumL l) (gAt l)) (gAt l) (show i ≤ k by omega)
  unfold shr
  rw [hb, hl]
  generalize lf (n - sumTo (bas n (sumL l) (gAt l)) l.length) (bas n (sumL l) (gAt l)) (gAt l) i = x at *
  generalize lf (n - sumTo (bas n (sumL l) (gAt l)) l.length) (bas n (sumL l) (gAt l)) (gAt l) k = y at *
  split <;> split <;> omega
end Go.Proofs.Yteinfckkpkbnlaa
