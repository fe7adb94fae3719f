/- The ledger as plain data: what is kept of each client, and what each call makes of it. No program is named here. -/
import Derived.Test.YtmcafgmjfgfaeaaDoorLr01
namespace Go.Proofs.YtmcafgmjfgfaeaaDoor
open Go.RowKit
set_option linter.unusedSimpArgs false
set_option linter.unusedVariables false

/-- What is kept of a client: 0 cash, 1 held, 2 to 5 goods, 6 to 9 locked, 10 the stamp; the reply. -/
structure Kt where
  n : Nat → Int
  reply : ByteArray
def Kt.zero : Kt := ⟨fun _ => 0, ⟨#[]⟩⟩
def Kt.cells (k : Kt) : List Value :=
  [.int .i64 (k.n 0), .int .i64 (k.n 1), .int .i64 (k.n 2), .int .i64 (k.n 3), .int .i64 (k.n 4), .int .i64 (k.n 5), .int .i64 (k.n 6), .int .i64 (k.n 7), .int .i64 (k.n 8), .int .i64 (k.n 9), .int .i64 (k.n 10), .string k.reply]
def Kt.put (k : Kt) (f : Nat) (v : Int) : Kt := ⟨fun j => if j = f then v else k.n j, k.reply⟩
theorem Kt.len (k : Kt) : k.cells.length = 12 := rfl
theorem Kt.num (k : Kt) (j : Nat) (h : j < 11) : k.cells[j]? = some (.int .i64 (k.n j)) := by
  have : j = 0 ∨ j = 1 ∨ j = 2 ∨ j = 3 ∨ j = 4 ∨ j = 5 ∨ j = 6 ∨ j = 7 ∨ j = 8 ∨ j = 9 ∨ j = 10 := by omega
  rcases this with rfl | rfl | rfl | rfl | rfl | rfl | rfl | rfl | rfl | rfl | rfl <;> rfl
theorem Kt.set (k : Kt) (j : Nat) (h : j < 11) (v : Int) : k.cells.set j (.int .i64 v) = (k.put j v).cells := by
  have : j = 0 ∨ j = 1 ∨ j = 2 ∨ j = 3 ∨ j = 4 ∨ j = 5 ∨ j = 6 ∨ j = 7 ∨ j = 8 ∨ j = 9 ∨ j = 10 := by omega
  rcases this with rfl | rfl | rfl | rfl | rfl | rfl | rfl | rfl | rfl | rfl | rfl <;> rfl
def kAt (l : List Kt) (i : Nat) : Kt := l[i]?.getD Kt.zero
theorem kAt_eq {l : List Kt} {i : Nat} (h : i < l.length) : kAt l i = l[i] := by simp [kAt, h]
def kL (l : List Kt) : List Value := l.flatMap Kt.cells
def kC (l : List Kt) : Array Value := (kL l).toArray
theorem kL_len (l : List Kt) : (kL l).length = l.length * 12 := by
  unfold kL
  induction l with
  | nil => rfl
  | cons k l ih => rw [List.flatMap_cons, List.length_append, ih, Kt.len, List.length_cons]; omega
theorem kC_size (l : List Kt) : (kC l).size = l.length * 12 := by simp [kC, kL_len]
theorem kL_get : ∀ (l : List Kt) (i j : Nat) (v : Value), i < l.length → (kAt l i).cells[j]? = some v → (kL l)[i * 12 + j]? = some v
  | k :: l, 0, j, v, _, h => by
    have hj : j < k.cells.length := (List.getElem?_eq_some_iff.1 h).1
    have e : kL (k :: l) = k.cells ++ kL l := rfl
    rw [e, Nat.zero_mul, Nat.zero_add, List.getElem?_append_left hj]
    exact h
  | k :: l, i + 1, j, v, hi, h => by
    have e : kL (k :: l) = k.cells ++ kL l := rfl
    rw [e, List.getElem?_append_right (by rw [Kt.len]; omega), Kt.len]
    have e2 : (i + 1) * 12 + j - 12 = i * 12 + j := by omega
    rw [e2]
    exact kL_get l i j v (by simpa using hi) h
theorem kC_get {l : List Kt} {i : Nat} (j : Nat) {v : Value} (hi : i < l.length) (h : (kAt l i).cells[j]? = some v) : (kC l)[i * 12 + j]? = some v := by
  unfold kC
  rw [List.getElem?_toArray]
  exact kL_get l i j v hi h
theorem kL_set : ∀ (l : List Kt) (i j : Nat) (v : Value), i < l.length → j < 12 → (kL l).set (i * 12 + j) v = (l.take i).flatMap Kt.cells ++ ((kAt l i).cells.set j v ++ (l.drop (i + 1)).flatMap Kt.cells)
  | k :: l, 0, j, v, _, h => by
    have e : kL (k :: l) = k.cells ++ kL l := rfl
    rw [e, Nat.zero_mul, Nat.zero_add, List.set_append_left _ _ (by rw [Kt.len]; exact h)]
    rfl
  | k :: l, i + 1, j, v, hi, h => by
    have e : kL (k :: l) = k.cells ++ kL l := rfl
    have e2 : (i + 1) * 12 + j - 12 = i * 12 + j := by omega
    rw [e, List.set_append_right _ _ (by rw [Kt.len]; omega), Kt.len, e2, kL_set l i j v (by simpa using hi) h]
    simp only [List.take_succ_cons, List.flatMap_cons, List.append_assoc, List.drop_succ_cons]
    rfl
theorem kL_upd (l : List Kt) (i : Nat) (k : Kt) (hi : i < l.length) : kL (l.set i k) = (l.take i).flatMap Kt.cells ++ (k.cells ++ (l.drop (i + 1)).flatMap Kt.cells) := by
  unfold kL
  rw [List.set_eq_take_append_cons_drop, if_pos hi, List.flatMap_append, List.flatMap_cons]

/-- One number of one client is another one. -/
def upd (l : List Kt) (i f : Nat) (v : Int) : List Kt := l.set i ((kAt l i).put f v)
theorem upd_len (l : List Kt) (i f : Nat) (v : Int) : (upd l i f v).length = l.length := by simp [upd]
theorem kC_upd {l : List Kt} {i j : Nat} (v : Int) (hi : i < l.length) (hj : j < 11) : (kC l).setIfInBounds (i * 12 + j) (.int .i64 v) = kC (upd l i j v) := by
  unfold kC
  rw [List.setIfInBounds_toArray, kL_set l i j _ hi (by omega), Kt.set _ _ hj]
  unfold upd
  rw [kL_upd _ _ _ hi]
theorem kAt_set {l : List Kt} {i : Nat} (k : Kt) (hi : i < l.length) (j : Nat) : kAt (l.set i k) j = if j = i then k else kAt l j := by
  unfold kAt
  by_cases h : j = i
  · subst h; simp [hi]
  · rw [if_neg h, List.getElem?_set_ne (fun e => h e.symm)]
theorem upd_at {l : List Kt} {i : Nat} (f : Nat) (v : Int) (hi : i < l.length) (j x : Nat) : (kAt (upd l i f v) j).n x = if j = i ∧ x = f then v else (kAt l j).n x := by
  unfold upd
  rw [kAt_set _ hi]
  by_cases h : j = i
  · subst h
    by_cases hx : x = f
    · simp [hx, Kt.put]
    · simp [hx, Kt.put]
  · simp [h]
theorem upd_reply {l : List Kt} {i : Nat} (f : Nat) (v : Int) (hi : i < l.length) (j : Nat) : (kAt (upd l i f v) j).reply = (kAt l j).reply := by
  unfold upd
  rw [kAt_set _ hi]
  by_cases h : j = i
  · subst h; simp [Kt.put]
  · simp [h]

/-- All of a kind. -/
def tot (l : List Kt) (f : Nat) : Int := (l.map (fun k => k.n f)).sum
theorem tot_set : ∀ (l : List Kt) (i : Nat) (k : Kt) (f : Nat), i < l.length → tot (l.set i k) f = tot l f + (k.n f - (kAt l i).n f)
  | a :: l, 0, k, f, _ => by
    simp only [tot, List.set_cons_zero, List.map_cons, List.sum_cons, kAt]
    simp
    omega
  | a :: l, i + 1, k, f, h => by
    have := tot_set l i k f (by simpa using h)
    have e : kAt (a :: l) (i + 1) = kAt l i := by simp [kAt]
    simp only [tot, List.set_cons_succ, List.map_cons, List.sum_cons, e] at *
    omega
theorem tot_upd {l : List Kt} {i : Nat} (f : Nat) (v : Int) (x : Nat) (hi : i < l.length) : tot (upd l i f v) x = tot l x + (if x = f then v - (kAt l i).n f else 0) := by
  unfold upd
  rw [tot_set _ _ _ _ hi]
  by_cases h : x = f
  · subst h; simp [Kt.put]
  · simp [Kt.put, h]
theorem tot_take (l : List Kt) (k f : Nat) (h : k < l.length) : tot (l.take (k + 1)) f = tot (l.take k) f + (kAt l k).n f := by
  rw [List.take_succ_eq_append_getElem h, kAt_eq h]
  unfold tot
  rw [List.map_append, List.sum_append]
  simp
theorem tot_nonneg : ∀ (l : List Kt) (f : Nat), (∀ i, i < l.length → 0 ≤ (kAt l i).n f) → 0 ≤ tot l f
  | [], f, _ => by simp [tot]
  | a :: l, f, h => by
    have h0 := h 0 (by simp)
    have := tot_nonneg l f (fun i hi => h (i + 1) (by simpa using hi))
    simp only [kAt, tot, List.map_cons, List.sum_cons] at *
    simp at h0
    omega
theorem tot_le : ∀ (l : List Kt) (f i : Nat), (∀ i, i < l.length → 0 ≤ (kAt l i).n f) → i < l.length → (kAt l i).n f ≤ tot l f
  | a :: l, f, 0, h, _ => by
    have := tot_nonneg l f (fun i hi => h (i + 1) (by simpa using hi))
    simp only [kAt, tot, List.map_cons, List.sum_cons] at *
    simp
    omega
  | a :: l, f, i + 1, h, hi => by
    have h0 := h 0 (by simp)
    have := tot_le l f i (fun i hi => h (i + 1) (by simpa using hi)) (by simpa using hi)
    have e : kAt (a :: l) (i + 1) = kAt l i := by simp [kAt]
    simp only [e, tot, List.map_cons, List.sum_cons] at *
    simp [kAt] at h0
    omega
theorem tot_take_le (l : List Kt) (f k : Nat) (h : ∀ i, i < l.length → 0 ≤ (kAt l i).n f) (hk : k ≤ l.length) : tot (l.take k) f ≤ tot l f := by
  have e : tot l f = tot (l.take k) f + tot (l.drop k) f := by
    unfold tot
    rw [← List.sum_append, ← List.map_append, List.take_append_drop]
  have := tot_nonneg (l.drop k) f (fun i hi => by
    have := h (k + i) (by simp at hi; omega)
    unfold kAt at *
    rw [List.getElem?_drop]
    exact this)
  omega
theorem tot_take_nonneg (l : List Kt) (f k : Nat) (h : ∀ i, i < l.length → 0 ≤ (kAt l i).n f) (hk : k ≤ l.length) : 0 ≤ tot (l.take k) f :=
  tot_nonneg _ f (fun i hi => by
    have := h i (by simp at hi; omega)
    unfold kAt at *
    rw [List.getElem?_take]
    simp at hi
    rw [if_pos (by omega)]
    exact this)

/-- A kind and what of it is held. -/
def Part (a h : Nat) : Prop := (a = 0 ∧ h = 1) ∨ (2 ≤ a ∧ a ≤ 5 ∧ h = a + 4)
structure Inv (g : Nat) (l : List Kt) : Prop where
  pos : 0 < l.length
  len : l.length ≤ 16
  g1 : 1 ≤ g
  g4 : g ≤ 4
  held : ∀ i, i < l.length → ∀ a h, Part a h → 0 ≤ (kAt l i).n h ∧ (kAt l i).n h ≤ (kAt l i).n a
  none : ∀ i, i < l.length → ∀ a, g + 2 ≤ a → a ≤ 5 → (kAt l i).n a = 0
  all : ∀ a h, Part a h → tot l a ≤ 1099511627776
  stamp : ∀ i, i < l.length → 0 ≤ (kAt l i).n 10 ∧ (kAt l i).n 10 ≤ 1099511627776
  reply : ∀ i, i < l.length → (kAt l i).reply.size ≤ 256
  fresh : ∀ i, i < l.length → (kAt l i).n 10 = 0 → (kAt l i).reply = ⟨#[]⟩
theorem Inv.nn {g : Nat} {l : List Kt} (h : Inv g l) {a b : Nat} (p : Part a b) : ∀ i, i < l.length → 0 ≤ (kAt l i).n a := fun i hi => by
  have := h.held i hi a b p; omega
theorem Inv.le {g : Nat} {l : List Kt} (h : Inv g l) {a b : Nat} (p : Part a b) {i : Nat} (hi : i < l.length) : 0 ≤ (kAt l i).n b ∧ (kAt l i).n b ≤ (kAt l i).n a ∧ (kAt l i).n a ≤ 1099511627776 := by
  have h1 := h.held i hi a b p
  have h2 := tot_le l a i (h.nn p) hi
  have h3 := h.all a b p
  omega
theorem inv_zero (c g : Nat) (h0 : 0 < c) (h1 : c ≤ 16) (h2 : 1 ≤ g) (h3 : g ≤ 4) : Inv g (List.replicate c Kt.zero) := by
  have e : ∀ i, kAt (List.replicate c Kt.zero) i = Kt.zero := fun i => by
    unfold kAt
    rw [List.getElem?_replicate]
    split <;> rfl
  have t : ∀ f, tot (List.replicate c Kt.zero) f = 0 := fun f => by
    unfold tot
    rw [List.map_replicate]
    have : Kt.zero.n f = 0 := rfl
    rw [this]
    induction c with
    | zero => rfl
    | succ c ih =>
      by_cases hc : 0 < c
      · rw [List.replicate_succ, List.sum_cons, ih hc (by omega) (fun i => by unfold kAt; rw [List.getElem?_replicate]; split <;> rfl)]; rfl
      · have : c = 0 := by omega
        subst this; rfl
  exact ⟨by simpa using h0, by simpa using h1, h2, h3, fun i _ a b _ => by rw [e]; simp [Kt.zero], fun i _ a _ _ => by rw [e]; rfl, fun a b _ => by rw [t]; omega, fun i _ => by rw [e]; simp [Kt.zero], fun i _ => by rw [e]; decide, fun i _ _ => by rw [e]; rfl⟩

/-- Two numbers of a client change together; what is held stays within what there is. -/
theorem Inv.updI {g : Nat} {l : List Kt} (H : Inv g l) {i f : Nat} {v : Int} (hi : i < l.length) (hf : f < 10)
    (h1 : ∀ a h, Part a h → f = a → (kAt l i).n h ≤ v) (h2 : ∀ a h, Part a h → f = h → 0 ≤ v ∧ v ≤ (kAt l i).n a) (h3 : ∀ a h, Part a h → f = a → tot l a + (v - (kAt l i).n a) ≤ 1099511627776) (h4 : g + 2 ≤ f → f ≤ 5 → v = 0) : Inv g (upd l i f v) := by
  refine ⟨by rw [upd_len]; exact H.pos, by rw [upd_len]; exact H.len, H.g1, H.g4, ?_, ?_, ?_, ?_, ?_, ?_⟩
  · intro j hj a h p
    rw [upd_len] at hj
    rw [upd_at f v hi, upd_at f v hi]
    have := H.held j hj a h p
    by_cases e : j = i
    · subst e
      have q1 := h1 a h p
      have q2 := h2 a h p
      have hne : a ≠ h := by rcases p with ⟨rfl, rfl⟩ | ⟨_, _, rfl⟩ <;> omega
      by_cases ea : a = f
      · have eh : ¬ h = f := by omega
        simp only [ea, eh, and_false, and_true, if_true, if_false]
        exact ⟨by omega, q1 ea.symm⟩
      · by_cases eh : h = f
        · have q := q2 eh.symm
          simp only [ea, eh, and_false, and_true, if_true, if_false]
          exact q
        · simp only [ea, eh, and_false, if_false]
          exact this
    · simp only [e, false_and, if_false]
      exact this
  · intro j hj a h5 h6
    rw [upd_len] at hj
    rw [upd_at f v hi]
    split
    · next e => exact h4 (by omega) (by omega)
    · exact H.none j hj a h5 h6
  · intro a h p
    rw [tot_upd f v a hi]
    split
    · next e => subst e; exact h3 a h p rfl
    · have := H.all a h p; omega
  · intro j hj
    rw [upd_len] at hj
    rw [upd_at f v hi, if_neg (by omega)]
    exact H.stamp j hj
  · intro j hj
    rw [upd_len] at hj
    rw [upd_reply f v hi]
    exact H.reply j hj
  · intro j hj
    rw [upd_len] at hj
    rw [upd_at f v hi, if_neg (by omega), upd_reply f v hi]
    exact H.fresh j hj
/-- Why a call may not be: who there is not, an amount that is none. -/
def refE (c : Nat) (n : Int) (named : List Int) : Int :=
  if named.all (fun z => decide (0 ≤ z ∧ z < c)) = false then 60 else if n < 1 ∨ 1099511627776 < n then 1 else 0
def gate (e : Int) (l : List Kt) (r : Int × List Kt) : Int × List Kt := if e = 0 then r else (e, l)
def inR (l : List Kt) (i a : Nat) (n : Int) : Int × List Kt := if 1099511627776 < tot l a + n then (62, l) else (0, upd l i a ((kAt l i).n a + n))
def outR (l : List Kt) (i a h : Nat) (n : Int) : Int × List Kt := if (kAt l i).n a - (kAt l i).n h < n then (61, l) else (0, upd l i a ((kAt l i).n a - n))
def keepR (l : List Kt) (i a h : Nat) (n : Int) : Int × List Kt := if (kAt l i).n a - (kAt l i).n h < n then (61, l) else (0, upd l i h ((kAt l i).n h + n))
/-- Held, then had, of the one; had of the other one. -/
def over1 (l : List Kt) (i h : Nat) (n : Int) : List Kt := upd l i h ((kAt l i).n h - n)
def over2 (l : List Kt) (i a h : Nat) (n : Int) : List Kt := upd (over1 l i h n) i a ((kAt (over1 l i h n) i).n a - n)
def over3 (l : List Kt) (i j a h : Nat) (n : Int) : List Kt := upd (over2 l i a h n) j a ((kAt (over2 l i a h n) j).n a + n)
def overR (l : List Kt) (i j a h : Nat) (n : Int) : Int × List Kt := if (kAt l i).n h < n then (61, l) else (0, over3 l i j a h n)
/-- A call. -/
structure Ac where
  kind : Int
  who : Int
  dst : Int
  good : Int
  n : Int
  text : ByteArray
def Ac.cells (a : Ac) : List Value := [.int .i64 a.kind, .int .i64 a.who, .int .i64 a.dst, .int .i64 a.good, .int .i64 a.n, .string a.text]
/-- The number's rest, without its sign. -/
def rest (n : Int) (k : Nat) : Nat := (n.tmod k).natAbs
end Go.Proofs.YtmcafgmjfgfaeaaDoor
