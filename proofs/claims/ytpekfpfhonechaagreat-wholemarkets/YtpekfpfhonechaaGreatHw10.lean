/- The auction as plain data: demands, sums, what each call makes of it. No program is named here. -/
import Derived.Test.YtpekfpfhonechaaGreatHw01
namespace Go.Proofs.YtpekfpfhonechaaGreat.Clo
open Go.RowKit
set_option linter.unusedSimpArgs false
set_option linter.unusedVariables false

/-- A bidder's demand: at the end of the round ahead, and now. -/
structure Dm where
  was : Int
  now : Int
def Dm.cells (d : Dm) : List Value := [.int .i64 d.was, .int .i64 d.now]
def dAt (l : List Dm) (i : Nat) : Dm := l[i]?.getD ⟨0, 0⟩
theorem dAt_eq {l : List Dm} {i : Nat} (h : i < l.length) : dAt l i = l[i] := by simp [dAt, h]
def dL (l : List Dm) : List Value := l.flatMap Dm.cells
def dC (l : List Dm) : Array Value := (dL l).toArray
theorem dL_len (l : List Dm) : (dL l).length = l.length * 2 := by
  unfold dL
  induction l with
  | nil => rfl
  | cons k l ih => rw [List.flatMap_cons, List.length_append, ih, List.length_cons]; simp [Dm.cells]; omega
theorem dC_size (l : List Dm) : (dC l).size = l.length * 2 := by simp [dC, dL_len]
theorem dL_get : ∀ (l : List Dm) (i j : Nat) (v : Value), i < l.length → (dAt l i).cells[j]? = some v → (dL l)[i * 2 + j]? = some v
  | k :: l, 0, j, v, _, h => by
    have hj : j < k.cells.length := (List.getElem?_eq_some_iff.1 h).1
    have e : dL (k :: l) = k.cells ++ dL l := rfl
    rw [e, Nat.zero_mul, Nat.zero_add, List.getElem?_append_left hj]
    exact h
  | k :: l, i + 1, j, v, hi, h => by
    have e : dL (k :: l) = k.cells ++ dL l := rfl
    have hk : k.cells.length = 2 := rfl
    rw [e, List.getElem?_append_right (by rw [hk]; omega), hk]
    have e2 : (i + 1) * 2 + j - 2 = i * 2 + j := by omega
    rw [e2]
    exact dL_get l i j v (by simpa using hi) h
theorem dC_get {l : List Dm} {i : Nat} (j : Nat) {v : Value} (hi : i < l.length) (h : (dAt l i).cells[j]? = some v) : (dC l)[i * 2 + j]? = some v := by
  unfold dC
  rw [List.getElem?_toArray]
  exact dL_get l i j v hi h
theorem dL_set : ∀ (l : List Dm) (i j : Nat) (v : Value) (d : Dm), i < l.length → j < 2 → (dAt l i).cells.set j v = d.cells → (dL l).set (i * 2 + j) v = dL (l.set i d)
  | k :: l, 0, j, v, d, _, h, hd => by
    have e : dL (k :: l) = k.cells ++ dL l := rfl
    have hk : k.cells.length = 2 := rfl
    have hd' : k.cells.set j v = d.cells := hd
    rw [e, Nat.zero_mul, Nat.zero_add, List.set_append_left _ _ (by rw [hk]; exact h), hd']
    rfl
  | k :: l, i + 1, j, v, d, hi, h, hd => by
    have e : dL (k :: l) = k.cells ++ dL l := rfl
    have hk : k.cells.length = 2 := rfl
    have e2 : (i + 1) * 2 + j - 2 = i * 2 + j := by omega
    have hd' : (dAt l i).cells.set j v = d.cells := by simpa [dAt] using hd
    rw [e, List.set_append_right _ _ (by rw [hk]; omega), hk, e2, dL_set l i j v d (by simpa using hi) h hd']
    rfl
theorem dC_set {l : List Dm} {i j : Nat} {v : Value} {d : Dm} (hi : i < l.length) (hj : j < 2) (hd : (dAt l i).cells.set j v = d.cells) : (dC l).setIfInBounds (i * 2 + j) v = dC (l.set i d) := by
  unfold dC
  rw [List.setIfInBounds_toArray, dL_set l i j v d hi hj hd]
theorem dAt_set {l : List Dm} {i : Nat} (d : Dm) (hi : i < l.length) (j : Nat) : dAt (l.set i d) j = if j = i then d else dAt l j := by
  unfold dAt
  by_cases h : j = i
  · subst h; simp [hi]
  · rw [if_neg h, List.getElem?_set_ne (fun e => h e.symm)]
theorem dAt_rep (k i : Nat) : dAt (List.replicate k ⟨0, 0⟩) i = ⟨0, 0⟩ := by
  unfold dAt
  rw [List.getElem?_replicate]
  split <;> rfl

/-- A sum of the first ones. -/
def sumTo (f : Nat → Int) : Nat → Int
  | 0 => 0
  | k + 1 => sumTo f k + f k
theorem sumTo_nonneg {f : Nat → Int} : ∀ {k : Nat}, (∀ i, i < k → 0 ≤ f i) → 0 ≤ sumTo f k
  | 0, _ => Int.le_refl _
  | k + 1, h => by
    have := sumTo_nonneg (k := k) (fun i hi => h i (by omega))
    have := h k (by omega)
    simp only [sumTo]; omega
theorem sumTo_le {f : Nat → Int} {m : Int} : ∀ {k : Nat}, (∀ i, i < k → f i ≤ m) → sumTo f k ≤ k * m
  | 0, _ => by simp [sumTo]
  | k + 1, h => by
    have h1 := sumTo_le (k := k) (fun i hi => h i (by omega))
    have h2 := h k (by omega)
    have e : ((k + 1 : Nat) : Int) * m = k * m + m := by rw [Int.natCast_add, Int.add_mul]; simp
    rw [e]
    simp only [sumTo]; omega
theorem sumTo_congr {f g : Nat → Int} : ∀ {k : Nat}, (∀ i, i < k → f i = g i) → sumTo f k = sumTo g k
  | 0, _ => rfl
  | k + 1, h => by
    rw [sumTo, sumTo, sumTo_congr (k := k) (fun i hi => h i (by omega)), h k (by omega)]
theorem sumTo_add (f g : Nat → Int) : ∀ k : Nat, sumTo (fun i => f i + g i) k = sumTo f k + sumTo g k
  | 0 => rfl
  | k + 1 => by
    have := sumTo_add f g k
    simp only [sumTo]; omega
theorem sumTo_sub (f g : Nat → Int) : ∀ k : Nat, sumTo (fun i => f i - g i) k = sumTo f k - sumTo g k
  | 0 => rfl
  | k + 1 => by
    have := sumTo_sub f g k
    simp only [sumTo]; omega
theorem sumTo_zero : ∀ k : Nat, sumTo (fun _ => 0) k = 0
  | 0 => rfl
  | k + 1 => by rw [sumTo, sumTo_zero k]; rfl
theorem sumTo_part {f : Nat → Int} {k n : Nat} (h : ∀ i, i < n → 0 ≤ f i) (hk : k ≤ n) : sumTo f k ≤ sumTo f n := by
  induction n with
  | zero => have : k = 0 := by omega
            subst this; exact Int.le_refl _
  | succ n ih =>
    by_cases e : k = n + 1
    · subst e; exact Int.le_refl _
    · have h1 := ih (fun i hi => h i (by omega)) (by omega)
      have h2 := h n (by omega)
      simp only [sumTo]; omega

/-- A list of numbers. -/
def gAt (l : List Int) (i : Nat) : Int := l[i]?.getD 0
theorem gAt_eq {l : List Int} {i : Nat} (h : i < l.length) : gAt l i = l[i] := by simp [gAt, h]
def sumL (l : List Int) : Int := sumTo (gAt l) l.length
def iC (l : List Int) : Array Value := (l.map (Value.int .i64)).toArray
theorem iC_size (l : List Int) : (iC l).size = l.length := by simp [iC]
theorem iC_get {l : List Int} {i : Nat} (hi : i < l.length) : (iC l)[i]? = some (.int .i64 (gAt l i)) := by
  unfold iC; rw [gAt_eq hi]; simp [hi]
theorem iC_set (l : List Int) (i : Nat) (v : Int) : (iC l).setIfInBounds i (.int .i64 v) = iC (l.set i v) := by
  unfold iC; rw [List.setIfInBounds_toArray, List.map_set]
/-- The first ones written anew. -/
def over (l : List Int) (f : Nat → Int) : Nat → List Int
  | 0 => l
  | k + 1 => (over l f k).set k (f k)
theorem over_len (l : List Int) (f : Nat → Int) : ∀ k, (over l f k).length = l.length
  | 0 => rfl
  | k + 1 => by rw [over, List.length_set, over_len]
theorem over_at (l : List Int) (f : Nat → Int) : ∀ (k i : Nat), i < l.length → gAt (over l f k) i = if i < k then f i else gAt l i
  | 0, i, _ => by simp [over]
  | k + 1, i, h => by
    have ih := over_at l f k i h
    unfold gAt at *
    rw [over]
    by_cases e : i = k
    · subst e
      rw [List.getElem?_set_self (by rw [over_len]; exact h), if_pos (by omega)]
      rfl
    · rw [List.getElem?_set_ne (fun h => e h.symm), ih]
      by_cases h1 : i < k
      · rw [if_pos h1, if_pos (by omega)]
      · rw [if_neg h1, if_neg (by omega)]
theorem gAt_ext {l m : List Int} (hl : l.length = m.length) (h : ∀ i, i < l.length → gAt l i = gAt m i) : l = m := by
  apply List.ext_getElem hl
  intro i h1 h2
  have := h i h1
  rw [gAt_eq h1, gAt_eq h2] at this
  exact this
/-- Numbers by their places. -/
def tab (n : Nat) (f : Nat → Int) : List Int := (List.range n).map f
theorem tab_len (n : Nat) (f : Nat → Int) : (tab n f).length = n := by simp [tab]
theorem tab_at {n : Nat} (f : Nat → Int) {i : Nat} (h : i < n) : gAt (tab n f) i = f i := by
  unfold tab; rw [gAt_eq (by simpa using h)]; simp
theorem over_all (l : List Int) (f : Nat → Int) : over l f l.length = tab l.length f :=
  gAt_ext (by rw [over_len, tab_len]) fun i hi => by
    rw [over_len] at hi
    rw [over_at _ _ _ _ hi, if_pos hi, tab_at _ hi]
theorem over_same (l : List Int) (f : Nat → Int) (k : Nat) (hk : k < l.length) (h : gAt l k = f k) : over l f (k + 1) = over l f k :=
  gAt_ext (by rw [over_len, over_len]) fun i hi => by
    rw [over_len] at hi
    rw [over_at _ _ _ _ hi, over_at _ _ _ _ hi]
    by_cases e : i = k
    · subst e; rw [if_pos (by omega), if_neg (by omega), h]
    · by_cases h1 : i < k
      · rw [if_pos h1, if_pos (by omega)]
      · rw [if_neg h1, if_neg (by omega)]
theorem gAt_rep (n i : Nat) : gAt (List.replicate n 0) i = 0 := by
  unfold gAt
  rw [List.getElem?_replicate]
  split <;> rfl
theorem sumL_tab (n : Nat) (f : Nat → Int) : sumL (tab n f) = sumTo f n := by
  unfold sumL; rw [tab_len]; exact sumTo_congr fun i hi => tab_at f hi

/-- An auction. -/
structure Au where
  supply : Int
  start : Int
  step : Int
  round : Int
  state : Int
  ds : List Dm
def Au.price (a : Au) : Int := a.start + (a.round - 1) * a.step
def nowOf (l : List Dm) (i : Nat) : Int := (dAt l i).now
def wasOf (l : List Dm) (i : Nat) : Int := (dAt l i).was
def Au.want (a : Au) : Int := sumTo (nowOf a.ds) a.ds.length
def Au.ahead (a : Au) : Int := sumTo (wasOf a.ds) a.ds.length
/-- Such as one can have (7.6). -/
structure Inv (a : Au) : Prop where
  sup : 1 ≤ a.supply ∧ a.supply ≤ 1048576
  st : 0 ≤ a.start ∧ a.start ≤ 1099511627776
  sp : 1 ≤ a.step ∧ a.step ≤ 1099511627776
  len : 1 ≤ a.ds.length ∧ a.ds.length ≤ 16
  rd : 1 ≤ a.round
  pr : a.price ≤ 1099511627776
  dm : ∀ i, i < a.ds.length → 0 ≤ wasOf a.ds i ∧ wasOf a.ds i ≤ 1048576 ∧ 0 ≤ nowOf a.ds i ∧ nowOf a.ds i ≤ 1048576
  fall : 1 < a.round → ∀ i, i < a.ds.length → nowOf a.ds i ≤ wasOf a.ds i
  first : a.round = 1 → ∀ i, i < a.ds.length → wasOf a.ds i = 0
  ah : 1 < a.round → a.supply < a.ahead
  sta : a.state = 0 ∨ (a.state = 1 ∧ a.want ≤ a.supply) ∨ (a.state = 2 ∧ a.supply < a.want ∧ 1099511627776 < a.price + a.step)
theorem Inv.mul {a : Au} (H : Inv a) : 0 ≤ (a.round - 1) * a.step ∧ (a.round - 1) * a.step ≤ 1099511627776 := by
  have h1 : 0 ≤ (a.round - 1) * a.step := Int.mul_nonneg (by have := H.rd; omega) (by have := H.sp; omega)
  have h2 := H.pr
  have h3 := H.st
  unfold Au.price at h2
  omega
theorem Inv.rnd {a : Au} (H : Inv a) : a.round ≤ 1099511627777 := by
  have h1 := H.mul.2
  have h2 : (a.round - 1) * 1 ≤ (a.round - 1) * a.step := Int.mul_le_mul_of_nonneg_left H.sp.1 (by have := H.rd; omega)
  omega
theorem Inv.wants {a : Au} (H : Inv a) {k : Nat} (hk : k ≤ a.ds.length) : 0 ≤ sumTo (nowOf a.ds) k ∧ sumTo (nowOf a.ds) k ≤ 16777216 := by
  have hl := H.len.2
  refine ⟨sumTo_nonneg fun i hi => (H.dm i (by omega)).2.2.1, ?_⟩
  have := sumTo_le (f := nowOf a.ds) (m := 1048576) (k := k) fun i hi => (H.dm i (by omega)).2.2.2
  omega
/-- Why nothing can be done any more. -/
def Au.ref (a : Au) : Int := if a.state = 0 then 0 else 70
def Au.bid (a : Au) (who n : Int) : Int × Au :=
  if a.state ≠ 0 then (70, a)
  else if ¬ (0 ≤ who ∧ who < a.ds.length) ∨ ¬ (0 ≤ n ∧ n ≤ 1048576) then (1, a)
  else if 1 < a.round ∧ wasOf a.ds who.toNat < n then (71, a)
  else (0, { a with ds := a.ds.set who.toNat ⟨wasOf a.ds who.toNat, n⟩ })
def roll (l : List Dm) : Nat → List Dm
  | 0 => l
  | k + 1 => (roll l k).set k ⟨nowOf l k, nowOf l k⟩
theorem roll_len (l : List Dm) : ∀ k, (roll l k).length = l.length
  | 0 => rfl
  | k + 1 => by rw [roll, List.length_set, roll_len]
theorem roll_at (l : List Dm) : ∀ (k i : Nat), i < l.length → dAt (roll l k) i = if i < k then ⟨nowOf l i, nowOf l i⟩ else dAt l i
  | 0, i, _ => by simp [roll]
  | k + 1, i, h => by
    have ih := roll_at l k i h
    rw [roll]
    by_cases hk : k < l.length
    · rw [dAt_set _ (by rw [roll_len]; exact hk)]
      by_cases e : i = k
      · subst e; rw [if_pos rfl, if_pos (by omega)]
      · rw [if_neg e, ih]
        by_cases h1 : i < k
        · rw [if_pos h1, if_pos (by omega)]
        · rw [if_neg h1, if_neg (by omega)]
    · rw [List.set_eq_of_length_le (by rw [roll_len]; omega), ih, if_pos (by omega), if_pos (by omega)]
def Au.begin (a : Au) : Au := { a with round := a.round + 1, ds := roll a.ds a.ds.length }
def Au.next (a : Au) : Bool × Int × Au :=
  if a.state ≠ 0 then (false, 70, a)
  else if a.want ≤ a.supply then (true, 0, { a with state := 1 })
  else if 1099511627776 < a.price + a.step then (true, 0, { a with state := 2 })
  else (false, 0, a.begin)
theorem nowOf_roll (l : List Dm) {i : Nat} (h : i < l.length) : nowOf (roll l l.length) i = nowOf l i := by
  unfold nowOf; rw [roll_at l _ i h, if_pos h]; rfl
theorem wasOf_roll (l : List Dm) {i : Nat} (h : i < l.length) : wasOf (roll l l.length) i = nowOf l i := by
  unfold wasOf; rw [roll_at l _ i h, if_pos h]
theorem Inv.bid {a : Au} (H : Inv a) (who n : Int) : Inv (a.bid who n).2 := by
  unfold Au.bid
  split
  · exact H
  · next hs =>
    split
    · exact H
    · next h1 =>
      split
      · exact H
      · next h2 =>
        obtain ⟨hw, hn⟩ : (0 ≤ who ∧ who < a.ds.length) ∧ (0 ≤ n ∧ n ≤ 1048576) := by
          constructor
          · exact Classical.byContradiction fun h => h1 (Or.inl h)
          · exact Classical.byContradiction fun h => h1 (Or.inr h)
        have hi : who.toNat < a.ds.length := by omega
        have hw' : ∀ i, wasOf (a.ds.set who.toNat ⟨wasOf a.ds who.toNat, n⟩) i = wasOf a.ds i := fun i => by
          unfold wasOf
          rw [dAt_set _ hi]
          by_cases e : i = who.toNat
          · subst e; rw [if_pos rfl]
          · rw [if_neg e]
        have hn' : ∀ i, nowOf (a.ds.set who.toNat ⟨wasOf a.ds who.toNat, n⟩) i = if i = who.toNat then n else nowOf a.ds i := fun i => by
          unfold nowOf
          rw [dAt_set _ hi]
          by_cases e : i = who.toNat
          · subst e; rw [if_pos rfl, if_pos rfl]
          · rw [if_neg e, if_neg e]
        refine ⟨H.sup, H.st, H.sp, by simpa using H.len, H.rd, H.pr, ?_, ?_, ?_, ?_, ?_⟩
        · intro i hi'
          simp only [List.length_set] at hi'
          have := H.dm i hi'
          simp only [hw', hn']
          split
          · omega
          · omega
        · intro hr i hi'
          simp only [List.length_set] at hi'
          have := H.fall hr i hi'
          simp only [hw', hn']
          split
          · next e => subst e
                      exact Int.not_lt.1 fun h => h2 ⟨hr, h⟩
          · exact this
        · intro hr i hi'
          simp only [List.length_set] at hi'
          simp only [hw']
          exact H.first hr i hi'
        · intro hr
          have := H.ah hr
          unfold Au.ahead at *
          simp only [List.length_set]
          rw [sumTo_congr fun i _ => hw' i]
          exact this
        · exact Or.inl (Classical.byContradiction fun h => hs h)
theorem Inv.next {a : Au} (H : Inv a) : Inv a.next.2.2 := by
  unfold Au.next
  split
  · exact H
  · next hs =>
    split
    · next h1 => exact ⟨H.sup, H.st, H.sp, H.len, H.rd, H.pr, H.dm, H.fall, H.first, H.ah, Or.inr (Or.inl ⟨rfl, h1⟩)⟩
    · next h1 =>
      split
      · next h2 => exact ⟨H.sup, H.st, H.sp, H.len, H.rd, H.pr, H.dm, H.fall, H.first, H.ah, Or.inr (Or.inr ⟨rfl, by show a.supply < a.want; omega, h2⟩)⟩
      · next h2 =>
        have hr := H.rd
        refine ⟨H.sup, H.st, H.sp, by simpa [Au.begin, roll_len] using H.len, by show 1 ≤ a.round + 1; omega, ?_, ?_, ?_, ?_, ?_, ?_⟩
        · show a.start + (a.round + 1 - 1) * a.step ≤ 1099511627776
          have e : (a.round + 1 - 1) * a.step = (a.round - 1) * a.step + a.step := by
            have : a.round + 1 - 1 = (a.round - 1) + 1 := by omega
            rw [this, Int.add_mul, Int.one_mul]
          unfold Au.price at h2
          rw [e]; omega
        · intro i hi
          have hi' : i < a.ds.length := by simpa [Au.begin, roll_len] using hi
          show 0 ≤ wasOf (roll a.ds a.ds.length) i ∧ wasOf (roll a.ds a.ds.length) i ≤ 1048576 ∧ 0 ≤ nowOf (roll a.ds a.ds.length) i ∧ nowOf (roll a.ds a.ds.length) i ≤ 1048576
          rw [nowOf_roll _ hi', wasOf_roll _ hi']
          have := H.dm i hi'
          omega
        · intro _ i hi
          have hi' : i < a.ds.length := by simpa [Au.begin, roll_len] using hi
          show nowOf (roll a.ds a.ds.length) i ≤ wasOf (roll a.ds a.ds.length) i
          rw [nowOf_roll _ hi', wasOf_roll _ hi']
          exact Int.le_refl _
        · intro h; have : a.round + 1 = 1 := h
          omega
        · intro _
          show a.supply < sumTo (wasOf (roll a.ds a.ds.length)) (roll a.ds a.ds.length).length
          rw [roll_len, sumTo_congr fun i hi => wasOf_roll a.ds hi]
          show a.supply < a.want
          omega
        · exact Or.inl (Classical.byContradiction fun h => hs h)
/-- An auction in its first round. -/
def Au.new (s p d : Int) (n : Nat) : Au := ⟨s, p, d, 1, 0, List.replicate n ⟨0, 0⟩⟩
def Au.fits (s p d n : Int) : Prop := (1 ≤ s ∧ s ≤ 1048576) ∧ (0 ≤ p ∧ p ≤ 1099511627776) ∧ (1 ≤ d ∧ d ≤ 1099511627776) ∧ (1 ≤ n ∧ n ≤ 16)
theorem Inv.new {s p d n : Int} (h : Au.fits s p d n) : Inv (Au.new s p d n.toNat) := by
  obtain ⟨h1, h2, h3, h4⟩ := h
  have hz : ∀ i, wasOf (List.replicate n.toNat ⟨0, 0⟩) i = 0 ∧ nowOf (List.replicate n.toNat ⟨0, 0⟩) i = 0 := fun i => by unfold wasOf nowOf; rw [dAt_rep]; exact ⟨rfl, rfl⟩
  refine ⟨h1, h2, h3, by simp [Au.new]; omega, Int.le_refl _, ?_, ?_, ?_, ?_, ?_, Or.inl rfl⟩
  · simp [Au.new, Au.price]; omega
  · intro i _
    have := hz i
    show 0 ≤ wasOf (List.replicate n.toNat ⟨0, 0⟩) i ∧ _
    simp only [Au.new, this.1, this.2]; omega
  · intro h; exact absurd h (by simp [Au.new])
  · intro _ i _; exact (hz i).1
  · intro h; exact absurd h (by simp [Au.new])
end Go.Proofs.YtpekfpfhonechaaGreat.Clo
