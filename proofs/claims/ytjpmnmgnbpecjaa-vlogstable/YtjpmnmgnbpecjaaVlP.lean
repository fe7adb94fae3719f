/- A log of votes as numbers, texts and lists. No program is named here. -/
import Derived.WalkKit
namespace Go.Proofs.Ytjpmnmgnbpecjaa
set_option linter.unusedSimpArgs false
set_option linter.unusedVariables false

/-- A message: who, its bytes, the signature. -/
abbrev Sgn : Type := Int × ByteArray × ByteArray
def sC (m : Sgn) : List Value := [.int .i64 m.1, .string m.2.1, .string m.2.2]
def sL (l : List Sgn) : List Value := l.flatMap sC
theorem sC_len (m : Sgn) : (sC m).length = 3 := rfl
theorem sL_app (l : List Sgn) (m : Sgn) : sL (l ++ [m]) = sL l ++ sC m := by simp [sL]
theorem sL_len (l : List Sgn) : (sL l).length = l.length * 3 := by
  induction l with
  | nil => rfl
  | cons m l ih => simp only [sL, List.flatMap_cons, List.length_append, sC_len, List.length_cons] at *; omega
theorem sL_get : ∀ (l : List Sgn) (i j : Nat) (m : Sgn) (u : Value), l[i]? = some m → (sC m)[j]? = some u → (sL l)[i * 3 + j]? = some u
  | [], i, j, m, u, h, _ => by simp at h
  | x :: l, i, j, m, u, h, hu => by
    have hj : j < 3 := by have := (List.getElem?_eq_some_iff.1 hu).1; rw [sC_len] at this; exact this
    show (sC x ++ sL l)[i * 3 + j]? = some u
    cases i with
    | zero =>
      simp only [List.getElem?_cons_zero, Option.some.injEq] at h
      subst h
      rw [List.getElem?_append_left (by rw [sC_len]; omega)]
      simpa using hu
    | succ i =>
      simp only [List.getElem?_cons_succ] at h
      rw [List.getElem?_append_right (by rw [sC_len]; omega), sC_len, show (i + 1) * 3 + j - 3 = i * 3 + j by omega]
      exact sL_get l i j m u h hu

/-- A vote: its number, its digest, its message. -/
abbrev Vt : Type := Int × ByteArray × Sgn
def vC (v : Vt) : List Value := .int .i64 v.1 :: .string v.2.1 :: sC v.2.2
/-- Votes by replicas, as they came. -/
abbrev Vts : Type := List (Int × Vt)
def vget : Vts → Int → Option Vt
  | [], _ => none
  | x :: r, k => if k = x.1 then some x.2 else vget r k
def vput : Vts → Int → Vt → Vts
  | [], k, v => [(k, v)]
  | x :: r, k, v => if k = x.1 then (k, v) :: r else x :: vput r k v
theorem vget_put_same (l : Vts) (k : Int) (v : Vt) : vget (vput l k v) k = some v := by
  induction l with
  | nil => simp [vput, vget]
  | cons x l ih =>
    unfold vput
    split
    · simp [vget]
    · rename_i h
      simp [vget, h, ih]
theorem vget_put_other (l : Vts) (k j : Int) (v : Vt) (h : j ≠ k) : vget (vput l k v) j = vget l j := by
  induction l with
  | nil => simp [vput, vget, h]
  | cons x l ih =>
    unfold vput
    split
    · rename_i e
      subst e
      simp [vget, h]
    · simp [vget, ih]
theorem vput_new (l : Vts) (k : Int) (v : Vt) (h : vget l k = none) : vput l k v = l ++ [(k, v)] := by
  induction l with
  | nil => rfl
  | cons x l ih =>
    unfold vget at h
    split at h
    · cases h
    · rename_i e
      simp [vput, e, ih h]
theorem vput_ne (l : Vts) (k : Int) (v : Vt) : vput l k v ≠ [] := by
  cases l with
  | nil => simp [vput]
  | cons x l => unfold vput; split <;> simp
theorem vget_mem {l : Vts} {k : Int} {v : Vt} (h : vget l k = some v) : (k, v) ∈ l := by
  induction l with
  | nil => cases h
  | cons x l ih =>
    unfold vget at h
    split at h
    · rename_i e
      cases h
      subst e
      exact List.mem_cons_self
    · exact List.mem_cons_of_mem _ (ih h)
theorem vget_of_mem {l : Vts} (hn : (l.map (·.1)).Nodup) {x : Int × Vt} (h : x ∈ l) : vget l x.1 = some x.2 := by
  induction l with
  | nil => cases h
  | cons y l ih =>
    simp only [List.map_cons, List.nodup_cons] at hn
    unfold vget
    rcases List.mem_cons.1 h with rfl | h
    · simp
    · rw [if_neg, ih hn.2 h]
      intro e
      exact hn.1 (e ▸ List.mem_map.2 ⟨x, h, rfl⟩)
theorem vput_keys (l : Vts) (k : Int) (v : Vt) : ∀ x ∈ vput l k v, x = (k, v) ∨ x ∈ l := by
  induction l with
  | nil => intro x hx; simp [vput] at hx; exact Or.inl hx
  | cons y l ih =>
    intro x hx
    unfold vput at hx
    split at hx
    · rcases List.mem_cons.1 hx with h | h
      · exact Or.inl h
      · exact Or.inr (List.mem_cons_of_mem _ h)
    · rcases List.mem_cons.1 hx with h | h
      · exact Or.inr (h ▸ List.mem_cons_self)
      · rcases ih x h with h | h
        · exact Or.inl h
        · exact Or.inr (List.mem_cons_of_mem _ h)
theorem vput_nodup {l : Vts} (hn : (l.map (·.1)).Nodup) (k : Int) (v : Vt) : ((vput l k v).map (·.1)).Nodup := by
  induction l with
  | nil => simp [vput]
  | cons y l ih =>
    simp only [List.map_cons, List.nodup_cons] at hn
    unfold vput
    split
    · rename_i e
      subst e
      simp only [List.map_cons, List.nodup_cons]
      exact hn
    · rename_i e
      simp only [List.map_cons, List.nodup_cons]
      refine ⟨fun hm => ?_, ih hn.2⟩
      obtain ⟨x, hx, hxe⟩ := List.mem_map.1 hm
      rcases vput_keys l k v x hx with rfl | h
      · exact e hxe
      · exact hn.1 (List.mem_map.2 ⟨x, h, hxe⟩)

/-- Votes of replicas below n, each at its sender's number, no one's twice. -/
def VOk (n : Nat) (l : Vts) : Prop := (l.map (·.1)).Nodup ∧ ∀ x ∈ l, 0 ≤ x.1 ∧ x.1 < n ∧ x.2.2.2.1 = x.1
theorem VOk.nil (n : Nat) : VOk n [] := ⟨by simp, fun _ h => by cases h⟩
theorem VOk.put {n : Nat} {l : Vts} (h : VOk n l) {k : Int} {v : Vt} (h0 : 0 ≤ k) (h1 : k < n) (h2 : v.2.2.1 = k) : VOk n (vput l k v) :=
  ⟨vput_nodup h.1 k v, fun x hx => by
    rcases vput_keys l k v x hx with rfl | hx
    · exact ⟨h0, h1, h2⟩
    · exact h.2 x hx⟩
/-- No more votes than there are replicas. -/
theorem nodup_range {n : Nat} : ∀ (l : List Int), l.Nodup → (∀ x ∈ l, 0 ≤ x ∧ x < n) → l.length ≤ n := by
  induction n with
  | zero =>
    intro l _ h
    cases l with
    | nil => simp
    | cons x l => have := h x List.mem_cons_self; omega
  | succ n ih =>
    intro l hn h
    have h1 := ih (l.filter (· != (n : Int))) (hn.filter _) (fun x hx => by
      simp only [List.mem_filter, bne_iff_ne] at hx
      have := h x hx.1
      omega)
    have h2 : l.length ≤ (l.filter (· != (n : Int))).length + 1 := by
      clear ih h h1
      induction l with
      | nil => simp
      | cons x l ih =>
        simp only [List.nodup_cons] at hn
        by_cases e : x = (n : Int)
        · subst e
          have : l.filter (· != (n : Int)) = l := List.filter_eq_self.2 fun y hy => by
            simp only [bne_iff_ne]
            intro e
            exact hn.1 (e ▸ hy)
          simp [this]
        · simp [e]
          exact ih hn.2
    omega
theorem VOk.len {n : Nat} {l : Vts} (h : VOk n l) : l.length ≤ n := by
  have := nodup_range (n := n) (l.map (·.1)) h.1 (fun x hx => by
    obtain ⟨y, hy, rfl⟩ := List.mem_map.1 hx
    exact ⟨(h.2 y hy).1, (h.2 y hy).2.1⟩)
  simpa using this

/-- Does a vote make a claim? -/
def says (c : Int × ByteArray) (v : Vt) : Bool := decide (v.1 = c.1) && decide (v.2.1 = c.2)
/-- The message of replica i, if it makes the claim. -/
def agr (l : Vts) (c : Int × ByteArray) (i : Nat) : Option Sgn :=
  match vget l (i : Int) with
  | some v => if says c v = true then some v.2.2 else none
  | none => none
/-- The messages that make a claim, by rising replicas. -/
def alk (n : Nat) (l : Vts) (c : Int × ByteArray) : List Sgn := (List.range n).filterMap (agr l c)
theorem mem_alk {n : Nat} {l : Vts} {c : Int × ByteArray} (h : VOk n l) (m : Sgn) : m ∈ alk n l c ↔ ∃ x ∈ l, says c x.2 = true ∧ x.2.2.2 = m := by
  unfold alk
  rw [List.mem_filterMap]
  constructor
  · rintro ⟨i, _, hi⟩
    unfold agr at hi
    split at hi
    · rename_i v hv
      split at hi
      · rename_i hs
        cases hi
        exact ⟨_, vget_mem hv, hs, rfl⟩
      · cases hi
    · cases hi
  · rintro ⟨x, hx, hs, rfl⟩
    obtain ⟨h0, h1, h2⟩ := h.2 x hx
    refine ⟨x.1.toNat, by simp; omega, ?_⟩
    unfold agr
    rw [show ((x.1.toNat : Nat) : Int) = x.1 by omega, vget_of_mem h.1 hx]
    simp [hs]
theorem agr_from {n : Nat} {l : Vts} {c : Int × ByteArray} (h : VOk n l) {i : Nat} {m : Sgn} (hi : agr l c i = some m) : m.1 = i := by
  unfold agr at hi
  split at hi
  · rename_i v hv
    split at hi
    · cases hi
      exact (h.2 _ (vget_mem hv)).2.2
    · cases hi
  · cases hi
theorem filterMap_rises {f : Nat → Option Sgn} (hf : ∀ i m, f i = some m → m.1 = i) : ∀ (n a : Nat), ((List.range' a n).filterMap f).Pairwise (fun x y => x.1 < y.1) ∧ ∀ m ∈ (List.range' a n).filterMap f, (a : Int) ≤ m.1 := by
  intro n
  induction n with
  | zero => intro a; simp
  | succ n ih =>
    intro a
    rw [List.range'_succ, List.filterMap_cons]
    obtain ⟨h1, h2⟩ := ih (a + 1)
    cases hfa : f a with
    | none => exact ⟨h1, fun m hm => by have := h2 m hm; omega⟩
    | some x =>
      have hx := hf a x hfa
      refine ⟨List.pairwise_cons.2 ⟨fun y hy => ?_, h1⟩, fun m hm => ?_⟩
      · have := h2 y hy; omega
      · rcases List.mem_cons.1 hm with rfl | hm
        · omega
        · have := h2 m hm; omega
theorem alk_rises {n : Nat} {l : Vts} {c : Int × ByteArray} (h : VOk n l) : (alk n l c).Pairwise (fun x y => x.1 < y.1) := by
  unfold alk
  rw [List.range_eq_range']
  exact (filterMap_rises (fun i m hm => agr_from h hm) n 0).1
theorem alk_from {n : Nat} {l : Vts} {c : Int × ByteArray} (h : VOk n l) : ∀ m ∈ alk n l c, 0 ≤ m.1 ∧ m.1 < n := by
  intro m hm
  obtain ⟨x, hx, _, rfl⟩ := (mem_alk h m).1 hm
  obtain ⟨h0, h1, h2⟩ := h.2 x hx
  omega
theorem alk_len {n : Nat} (l : Vts) (c : Int × ByteArray) : (alk n l c).length ≤ n := by
  unfold alk
  have := List.length_filterMap_le (agr l c) (List.range n)
  simpa using this
/-- Rising lists of the same members are the same. -/
theorem rising_eq : ∀ (a b : List Sgn), a.Pairwise (fun x y => x.1 < y.1) → b.Pairwise (fun x y => x.1 < y.1) → (∀ m, m ∈ a ↔ m ∈ b) → a = b
  | [], [], _, _, _ => rfl
  | [], y :: b, _, _, h => by have := (h y).2 List.mem_cons_self; cases this
  | x :: a, [], _, _, h => by have := (h x).1 List.mem_cons_self; cases this
  | x :: a, y :: b, ha, hb, h => by
    obtain ⟨ha1, ha2⟩ := List.pairwise_cons.1 ha
    obtain ⟨hb1, hb2⟩ := List.pairwise_cons.1 hb
    have e : x = y := by
      rcases List.mem_cons.1 ((h x).1 List.mem_cons_self) with e | hx
      · exact e
      · rcases List.mem_cons.1 ((h y).2 List.mem_cons_self) with e | hy
        · exact e.symm
        · have := ha1 y hy
          have := hb1 x hx
          omega
    subst e
    rw [rising_eq a b ha2 hb2 fun m => ?_]
    constructor
    · intro hm
      rcases List.mem_cons.1 ((h m).1 (List.mem_cons_of_mem _ hm)) with e | h1
      · subst e; have := ha1 m hm; omega
      · exact h1
    · intro hm
      rcases List.mem_cons.1 ((h m).2 (List.mem_cons_of_mem _ hm)) with e | h1
      · subst e; have := hb1 m hm; omega
      · exact h1

/-- How many make a quorum. -/
def quo (n : Nat) : Nat := n - (n - 1) / 3
/-- Just a quorum of messages that make a claim, the first ones. -/
def qrm (n : Nat) (l : Vts) (c : Int × ByteArray) : Option (List Sgn) := if (alk n l c).length < quo n then none else some ((alk n l c).take (quo n))

/-- What stands at a number. -/
structure Slot where
  ps : Int
  pd : ByteArray
  ba : ByteArray
  pr : Vts
  co : Vts
  fk : Int
  fv : Int
  fs : Int
  fd : ByteArray
  ft : ByteArray
  fl : List Sgn
def noSlot : Slot := ⟨0, ⟨#[]⟩, ⟨#[]⟩, [], [], 0, 0, 0, ⟨#[]⟩, ⟨#[]⟩, []⟩
/-- A log. -/
structure Lv where
  n : Nat
  vw : Int
  lo : Int
  sl : Nat → Slot
  ck : Vts
def Lv.new (n : Nat) : Lv := ⟨n, 0, 0, fun _ => noSlot, []⟩
def Lv.set (L : Lv) (k : Nat) (s : Slot) : Lv := { L with sl := fun j => if j = k then s else L.sl j }
def pla (q : Int) : Nat := (q % 8).toNat
def Lv.wi (L : Lv) (q : Int) : Bool := decide (L.lo < q) && decide (q ≤ L.lo + 8)
def Slot.prep (n : Nat) (s : Slot) : Bool := !decide (s.pd = ⟨#[]⟩) && (qrm n s.pr (s.ps, s.pd)).isSome
def Slot.comm (n : Nat) (s : Slot) : Bool := s.prep n && (qrm n s.co (s.ps, s.pd)).isSome
def Slot.prove (n : Nat) (vw : Int) (s : Slot) : Slot :=
  if (0 < s.fs ∧ s.fv = vw) ∨ s.prep n = false then s
  else { s with fk := 11, fv := vw, fs := s.ps, fd := s.pd, ft := s.ba, fl := (alk n s.pr (s.ps, s.pd)).take (quo n) }
def Lv.propose (L : Lv) (vw q : Int) (d b : ByteArray) : Lv × Int :=
  if d = ⟨#[]⟩ then (L, 1)
  else if L.wi q = false ∨ vw ≠ L.vw then (L, 100)
  else if (L.sl (pla q)).pd = d ∧ (L.sl (pla q)).ba = b then (L, 101)
  else if (L.sl (pla q)).pd ≠ ⟨#[]⟩ then (L, 102)
  else (L.set (pla q) ({ L.sl (pla q) with ps := q, pd := d, ba := b }.prove L.n L.vw), 0)
def Slot.vts (s : Slot) (kind : Int) : Vts := if kind = 3 then s.pr else s.co
def Slot.put (s : Slot) (kind : Int) (k : Int) (v : Vt) : Slot := if kind = 3 then { s with pr := vput s.pr k v } else { s with co := vput s.co k v }
def Lv.vote (L : Lv) (m : Sgn) (kind vw q : Int) (d : ByteArray) : Lv × Int :=
  if ¬ (0 ≤ m.1 ∧ m.1 < L.n) ∨ (kind ≠ 3 ∧ kind ≠ 4) then (L, 1)
  else if L.wi q = false ∨ vw ≠ L.vw then (L, 100)
  else match vget ((L.sl (pla q)).vts kind) m.1 with
    | some v => if v.2.1 = d then (L, 101) else (L, 102)
    | none => (L.set (pla q) (((L.sl (pla q)).put kind m.1 (q, d, m)).prove L.n L.vw), 0)
def lastSeq (l : Vts) (k : Int) : Int := match vget l k with | some v => v.1 | none => 0
def lastDig (l : Vts) (k : Int) : ByteArray := match vget l k with | some v => v.2.1 | none => ⟨#[]⟩
def Lv.check (L : Lv) (m : Sgn) (kind q : Int) (d : ByteArray) : Lv × Int :=
  if ¬ (0 ≤ m.1 ∧ m.1 < L.n) ∨ kind ≠ 5 then (L, 1)
  else if q ≤ L.lo then (L, 100)
  else if lastSeq L.ck m.1 = q ∧ lastDig L.ck m.1 ≠ d then (L, 102)
  else if q ≤ lastSeq L.ck m.1 then (L, 101)
  else ({ L with ck := vput L.ck m.1 (q, d, m) }, 0)
def Slot.forget (s : Slot) : Slot := { s with ps := 0, pd := ⟨#[]⟩, ba := ⟨#[]⟩, pr := [], co := [] }
def Lv.enter (L : Lv) (vw : Int) : Lv × Int :=
  if vw ≤ L.vw ∨ 1048576 < vw then (L, 1) else ({ L with vw := vw, sl := fun j => (L.sl j).forget }, 0)
/-- The number of the window that has place j. -/
def Lv.num (L : Lv) (j : Nat) : Int := L.lo + 1 + ((j : Int) - (L.lo + 1)) % 8
def Lv.cut (L : Lv) (q : Int) : Lv × Int :=
  if q ≤ L.lo ∨ 1073741824 < q ∨ q % 4 ≠ 0 then (L, 1) else ({ L with lo := q, sl := fun j => if L.num j ≤ q then noSlot else L.sl j }, 0)
/-- The proofs that are kept, by rising numbers. -/
def Lv.kept (L : Lv) : List Slot := ((List.range 8).map fun (i : Nat) => L.sl (pla (L.lo + 1 + (i : Int)))).filter fun s => decide (0 < s.fs)
end Go.Proofs.Ytjpmnmgnbpecjaa
