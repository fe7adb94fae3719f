/- Trees of digests as plain lists: what stands over leaves, the digests beside a way, a climb; by a book that numbers what it is asked. No program is named here. -/
import Derived.Test.YtpcafjbebhcilaaGreatTm13
import Derived.Test.YtpcafjbebhcilaaGreatTm08
import Derived.Lib.BitFns
namespace Go.Proofs.YtpcafjbebhcilaaGreat
open Go.RowKit
set_option linter.unusedSimpArgs false
set_option linter.unusedVariables false

/-- The texts that are digested. -/
def leafT (m : Rc) : ByteArray := ⟨(76 :: (txtB m.key ++ txtB m.dat)).toArray⟩
def nodeT (a b : ByteArray) : ByteArray := ⟨(78 :: (txtB a ++ txtB b)).toArray⟩
def rootT (n : Nat) (t : ByteArray) : ByteArray := ⟨(82 :: (enc n ++ txtB t)).toArray⟩
/-- A text's digest by a book that has numbered these. -/
def dig (T : List ByteArray) (s : ByteArray) : ByteArray := eightB (num T s)
theorem dig_size (T : List ByteArray) (s : ByteArray) : (dig T s).size = 8 := rfl
theorem dig_inj {T : List ByteArray} {s t : ByteArray} (hT : T.length < 1000000) (hs : s ∈ T) (ht : t ∈ T) (h : dig T s = dig T t) : s = t := by
  have h1 := num_le T s
  have h2 := num_le T t
  exact num_inj hs ht (eightB_inj (by omega) (by omega) h)
/-- A book that has numbered more. -/
def Ext (T T' : List ByteArray) : Prop := (∀ s ∈ T, s ∈ T' ∧ dig T' s = dig T s)
theorem Ext.refl (T : List ByteArray) : Ext T T := fun s h => ⟨h, rfl⟩
theorem Ext.trans {T U V : List ByteArray} (h : Ext T U) (k : Ext U V) : Ext T V := fun s hs => ⟨(k s (h s hs).1).1, (k s (h s hs).1).2.trans (h s hs).2⟩
theorem Ext.note (T : List ByteArray) (s : ByteArray) : Ext T (note T s) := fun t ht => ⟨(mem_note T s t).2 (Or.inl ht), by unfold dig; rw [num_note s ht]⟩
theorem mem_noted (T : List ByteArray) (s : ByteArray) : s ∈ note T s := (mem_note T s s).2 (Or.inr rfl)

theorem txt_inj2 {a b c d : ByteArray} (ha : a.size ≤ 1048576) (hb : b.size ≤ 1048576) (hc : c.size ≤ 1048576) (hd : d.size ≤ 1048576) (h : txtB a ++ txtB b = txtB c ++ txtB d) : a = c ∧ b = d := by
  have h1 := codecText.there a (txtB b) ha
  have h2 := codecText.there c (txtB d) hc
  rw [h, h2] at h1
  injection h1 with h1
  have e : a = c := by injection h1 with h1 _; exact h1.symm
  subst e
  have h3 : txtB b = txtB d := List.append_cancel_left h
  have h4 := codecText.there b [] hb
  have h5 := codecText.there d [] hd
  rw [h3, h5] at h4
  injection h4 with h4
  exact ⟨rfl, by injection h4 with h4 _; exact h4.symm⟩
theorem nodeT_inj {a b c d : ByteArray} (ha : a.size ≤ 1048576) (hb : b.size ≤ 1048576) (hc : c.size ≤ 1048576) (hd : d.size ≤ 1048576) (h : nodeT a b = nodeT c d) : a = c ∧ b = d := by
  unfold nodeT at h
  injection h with h
  injection h with h
  injection h with _ h
  exact txt_inj2 ha hb hc hd h
theorem leafT_inj {m n : Rc} (h1 : m.key.size ≤ 1048576) (h2 : m.dat.size ≤ 1048576) (h3 : n.key.size ≤ 1048576) (h4 : n.dat.size ≤ 1048576) (h : leafT m = leafT n) : m = n := by
  unfold leafT at h
  injection h with h
  injection h with h
  injection h with _ h
  obtain ⟨a, b⟩ := txt_inj2 h1 h2 h3 h4 h
  cases m; cases n
  simp only at a b
  subst a; subst b; rfl
theorem rootT_inj {n m : Nat} {s t : ByteArray} (hn : n ≤ 9007199254740992) (hm : m ≤ 9007199254740992) (hs : s.size ≤ 1048576) (ht : t.size ≤ 1048576) (h : rootT n s = rootT m t) : n = m ∧ s = t := by
  unfold rootT at h
  injection h with h
  injection h with h
  injection h with _ h
  have h1 := codecNum.there n (txtB s) hn
  have h2 := codecNum.there m (txtB t) hm
  rw [h, h2] at h1
  injection h1 with h1
  have e : n = m := by injection h1 with h1 _; exact h1.symm
  subst e
  have h3 : txtB s = txtB t := List.append_cancel_left h
  have h4 := codecText.there s [] hs
  have h5 := codecText.there t [] ht
  rw [h3, h5] at h4
  injection h4 with h4
  exact ⟨rfl, by injection h4 with h4 _; exact h4.symm⟩

/-- How many of n leaves stand on the left: the greatest power of two below n. -/
def hf (n : Nat) : Nat := 2 ^ Nat.log2 (n - 1)
theorem hf_bounds {n : Nat} (h : 2 ≤ n) : 1 ≤ hf n ∧ hf n < n := by
  unfold hf
  have := Nat.log2_self_le (n := n - 1) (by omega)
  exact ⟨Nat.one_le_two_pow, by omega⟩
theorem bitLen_log {x : Nat} (h : 1 ≤ x) (h2 : x < 2 ^ 64) : Lib.bitLen x = Nat.log2 x + 1 := by
  induction x using Nat.strongRecOn with
  | _ x ih =>
    rw [Lib.bitLen_half x (by omega) h2, Nat.log2_def]
    by_cases h3 : 2 ≤ x
    · rw [if_pos h3, ih (x / 2) (by omega) (by omega) (by omega)]; omega
    · obtain rfl : x = 1 := by omega
      rfl

/-- What stands over leaves: the least relation that the three rules make. -/
def Top (T : List ByteArray) (l : List ByteArray) (a : ByteArray) : Prop :=
  ∀ P : List ByteArray → ByteArray → Prop, P [] ⟨#[]⟩ → (∀ x, P [x] x) → (∀ l a b, 2 ≤ l.length → P (l.take (hf l.length)) a → P (l.drop (hf l.length)) b → nodeT a b ∈ T → P l (dig T (nodeT a b))) → P l a
theorem Top.none {T : List ByteArray} : Top T [] ⟨#[]⟩ := fun _ h1 _ _ => h1
theorem Top.one {T : List ByteArray} (x : ByteArray) : Top T [x] x := fun _ _ h2 _ => h2 x
theorem Top.node {T : List ByteArray} (l : List ByteArray) (a b : ByteArray) (h : 2 ≤ l.length) (ha : Top T (l.take (hf l.length)) a) (hb : Top T (l.drop (hf l.length)) b) (hm : nodeT a b ∈ T) : Top T l (dig T (nodeT a b)) :=
  fun P h1 h2 h3 => h3 l a b h (ha P h1 h2 h3) (hb P h1 h2 h3) hm
theorem Top.ind {T : List ByteArray} {motive : (l : List ByteArray) → (a : ByteArray) → Top T l a → Prop} (none : motive [] ⟨#[]⟩ Top.none) (one : ∀ x, motive [x] x (Top.one x))
    (node : ∀ l a b (h : 2 ≤ l.length) (ha : Top T (l.take (hf l.length)) a) (hb : Top T (l.drop (hf l.length)) b) (hm : nodeT a b ∈ T), motive _ _ ha → motive _ _ hb → motive l _ (Top.node l a b h ha hb hm)) {l : List ByteArray} {a : ByteArray} (h : Top T l a) : motive l a h := by
  obtain ⟨h', hm⟩ := h (fun l a => ∃ h : Top T l a, motive l a h) ⟨_, none⟩ (fun x => ⟨_, one x⟩) (fun l a b h2 ⟨ha, ma⟩ ⟨hb, mb⟩ hm => ⟨_, node l a b h2 ha hb hm ma mb⟩)
  exact hm
theorem Top.inv {T : List ByteArray} {l : List ByteArray} {d : ByteArray} (h : Top T l d) : (l = [] ∧ d = ⟨#[]⟩) ∨ (∃ x, l = [x] ∧ d = x) ∨
    (2 ≤ l.length ∧ ∃ a b, Top T (l.take (hf l.length)) a ∧ Top T (l.drop (hf l.length)) b ∧ nodeT a b ∈ T ∧ d = dig T (nodeT a b)) := by
  induction h using Top.ind with
  | none => exact Or.inl ⟨rfl, rfl⟩
  | one x => exact Or.inr (Or.inl ⟨x, rfl, rfl⟩)
  | node l a b h ha hb hm _ _ => exact Or.inr (Or.inr ⟨h, a, b, ha, hb, hm, rfl⟩)
theorem Top.ext {T T' : List ByteArray} (e : Ext T T') {l : List ByteArray} {a : ByteArray} (h : Top T l a) : Top T' l a := by
  induction h using Top.ind with
  | none => exact .none
  | one x => exact .one x
  | node l a b h _ _ hm iha ihb =>
    rw [← (e _ hm).2]
    exact .node l a b h iha ihb (e _ hm).1
theorem Top.nil_inv {T : List ByteArray} {a : ByteArray} (h : Top T [] a) : a = ⟨#[]⟩ := by
  rcases h.inv with ⟨_, e⟩ | ⟨_, e, _⟩ | ⟨h2, _⟩
  · exact e
  · cases e
  · simp at h2
theorem Top.one_inv {T : List ByteArray} {x a : ByteArray} (h : Top T [x] a) : a = x := by
  rcases h.inv with ⟨e, _⟩ | ⟨y, e, e2⟩ | ⟨h2, _⟩
  · cases e
  · simp only [List.cons.injEq, and_true] at e; rw [e2, e]
  · simp at h2
theorem Top.node_inv {T : List ByteArray} {l : List ByteArray} {d : ByteArray} (h : Top T l d) (hl : 2 ≤ l.length) : ∃ a b, Top T (l.take (hf l.length)) a ∧ Top T (l.drop (hf l.length)) b ∧ nodeT a b ∈ T ∧ d = dig T (nodeT a b) := by
  rcases h.inv with ⟨e, _⟩ | ⟨y, e, _⟩ | ⟨_, h3⟩
  · subst e; simp at hl
  · subst e; simp at hl
  · exact h3
theorem Top.same {T : List ByteArray} {l : List ByteArray} {a : ByteArray} (h : Top T l a) : ∀ {b : ByteArray}, Top T l b → a = b := by
  induction h using Top.ind with
  | none => intro b hb; exact hb.nil_inv.symm
  | one x => intro b hb; exact hb.one_inv.symm
  | node l a b h _ _ hm iha ihb =>
    intro c hc
    obtain ⟨a', b', h1, h2, _, rfl⟩ := hc.node_inv h
    rw [iha h1, ihb h2]
/-- What stands over leaves of at most so many bytes has no more of them, or eight. -/
theorem Top.small {T : List ByteArray} {l : List ByteArray} {a : ByteArray} (h : Top T l a) (hl : ∀ x ∈ l, x.size ≤ 32) : a.size ≤ 32 := by
  rcases h.inv with ⟨_, e⟩ | ⟨x, e, e2⟩ | ⟨_, a', b', _, _, _, e⟩
  · rw [e]; decide
  · subst e; rw [e2]; exact hl _ (by simp)
  · rw [e]; exact Nat.le_trans (Nat.le_of_eq (dig_size _ _)) (by decide)
theorem Top.inj {T : List ByteArray} (hT : T.length < 1000000) {l : List ByteArray} {a : ByteArray} (h : Top T l a) : (∀ x ∈ l, x.size ≤ 32) → ∀ {m : List ByteArray}, Top T m a → m.length = l.length → (∀ x ∈ m, x.size ≤ 32) → l = m := by
  induction h using Top.ind with
  | none => intro _ m _ hl _; exact (List.length_eq_zero_iff.1 hl).symm
  | one x =>
    intro _ m hm hl _
    obtain ⟨y, rfl⟩ := List.length_eq_one_iff.1 hl
    rw [hm.one_inv]
  | node l a b h ha hb hm iha ihb =>
    intro hz m hm2 hl hz2
    obtain ⟨a', b', h1, h2, h3, h4⟩ := hm2.node_inv (by omega)
    have hz1 : ∀ x ∈ l.take (hf l.length), x.size ≤ 32 := fun x hx => hz x (List.mem_of_mem_take hx)
    have hz3 : ∀ x ∈ l.drop (hf l.length), x.size ≤ 32 := fun x hx => hz x (List.mem_of_mem_drop hx)
    have hz4 : ∀ x ∈ m.take (hf m.length), x.size ≤ 32 := fun x hx => hz2 x (List.mem_of_mem_take hx)
    have hz5 : ∀ x ∈ m.drop (hf m.length), x.size ≤ 32 := fun x hx => hz2 x (List.mem_of_mem_drop hx)
    have e := dig_inj hT hm h3 h4
    have s1 := ha.small hz1
    have s2 := hb.small hz3
    have s3 := h1.small hz4
    have s4 := h2.small hz5
    obtain ⟨rfl, rfl⟩ := nodeT_inj (by omega) (by omega) (by omega) (by omega) e
    have e1 := iha hz1 h1 (by rw [List.length_take, List.length_take, hl]) hz4
    have e2 := ihb hz3 h2 (by rw [List.length_drop, List.length_drop, hl]) hz5
    rw [hl] at e1 e2
    calc l = l.take (hf l.length) ++ l.drop (hf l.length) := (List.take_append_drop _ _).symm
      _ = m.take (hf l.length) ++ m.drop (hf l.length) := by rw [e1, e2]
      _ = m := List.take_append_drop _ _

/-- The digests beside the way from a leaf up. -/
def Sides (T : List ByteArray) (l : List ByteArray) (i : Nat) (ss : List ByteArray) : Prop :=
  ∀ P : List ByteArray → Nat → List ByteArray → Prop, (∀ x, P [x] 0 []) →
    (∀ l i ss b, 2 ≤ l.length → i < hf l.length → P (l.take (hf l.length)) i ss → Top T (l.drop (hf l.length)) b → P l i (ss ++ [b])) →
    (∀ l i ss a, 2 ≤ l.length → hf l.length ≤ i → P (l.drop (hf l.length)) (i - hf l.length) ss → Top T (l.take (hf l.length)) a → P l i (ss ++ [a])) → P l i ss
theorem Sides.one {T : List ByteArray} (x : ByteArray) : Sides T [x] 0 [] := fun _ h1 _ _ => h1 x
theorem Sides.left {T : List ByteArray} (l : List ByteArray) (i : Nat) (ss : List ByteArray) (b : ByteArray) (h : 2 ≤ l.length) (hi : i < hf l.length) (ha : Sides T (l.take (hf l.length)) i ss) (hb : Top T (l.drop (hf l.length)) b) : Sides T l i (ss ++ [b]) :=
  fun P h1 h2 h3 => h2 l i ss b h hi (ha P h1 h2 h3) hb
theorem Sides.right {T : List ByteArray} (l : List ByteArray) (i : Nat) (ss : List ByteArray) (a : ByteArray) (h : 2 ≤ l.length) (hi : hf l.length ≤ i) (hb : Sides T (l.drop (hf l.length)) (i - hf l.length) ss) (ha : Top T (l.take (hf l.length)) a) : Sides T l i (ss ++ [a]) :=
  fun P h1 h2 h3 => h3 l i ss a h hi (hb P h1 h2 h3) ha
theorem Sides.ind {T : List ByteArray} {motive : (l : List ByteArray) → (i : Nat) → (ss : List ByteArray) → Sides T l i ss → Prop} (one : ∀ x, motive [x] 0 [] (Sides.one x))
    (left : ∀ l i ss b (h : 2 ≤ l.length) (hi : i < hf l.length) (ha : Sides T (l.take (hf l.length)) i ss) (hb : Top T (l.drop (hf l.length)) b), motive _ _ _ ha → motive l i _ (Sides.left l i ss b h hi ha hb))
    (right : ∀ l i ss a (h : 2 ≤ l.length) (hi : hf l.length ≤ i) (hb : Sides T (l.drop (hf l.length)) (i - hf l.length) ss) (ha : Top T (l.take (hf l.length)) a), motive _ _ _ hb → motive l i _ (Sides.right l i ss a h hi hb ha))
    {l : List ByteArray} {i : Nat} {ss : List ByteArray} (h : Sides T l i ss) : motive l i ss h := by
  obtain ⟨h', hm⟩ := h (fun l i ss => ∃ h : Sides T l i ss, motive l i ss h) (fun x => ⟨_, one x⟩) (fun l i ss b h hi ⟨ha, ma⟩ hb => ⟨_, left l i ss b h hi ha hb ma⟩) (fun l i ss a h hi ⟨hb, mb⟩ ha => ⟨_, right l i ss a h hi hb ha mb⟩)
  exact hm
theorem Sides.inv {T : List ByteArray} {l : List ByteArray} {i : Nat} {tt : List ByteArray} (h : Sides T l i tt) : (∃ x, l = [x] ∧ i = 0 ∧ tt = []) ∨
    (2 ≤ l.length ∧ i < hf l.length ∧ ∃ ss b, Sides T (l.take (hf l.length)) i ss ∧ Top T (l.drop (hf l.length)) b ∧ tt = ss ++ [b]) ∨
    (2 ≤ l.length ∧ hf l.length ≤ i ∧ ∃ ss a, Sides T (l.drop (hf l.length)) (i - hf l.length) ss ∧ Top T (l.take (hf l.length)) a ∧ tt = ss ++ [a]) := by
  induction h using Sides.ind with
  | one x => exact Or.inl ⟨x, rfl, rfl, rfl⟩
  | left l i ss b h hi ha hb _ => exact Or.inr (Or.inl ⟨h, hi, ss, b, ha, hb, rfl⟩)
  | right l i ss a h hi hb ha _ => exact Or.inr (Or.inr ⟨h, hi, ss, a, hb, ha, rfl⟩)
theorem Sides.ext {T T' : List ByteArray} (e : Ext T T') {l : List ByteArray} {i : Nat} {ss : List ByteArray} (h : Sides T l i ss) : Sides T' l i ss := by
  induction h using Sides.ind with
  | one x => exact .one x
  | left l i ss b h hi _ hb ih => exact .left l i ss b h hi ih (hb.ext e)
  | right l i ss a h hi _ ha ih => exact .right l i ss a h hi ih (ha.ext e)
theorem Sides.same {T : List ByteArray} {l : List ByteArray} {i : Nat} {ss : List ByteArray} (h : Sides T l i ss) : ∀ {tt : List ByteArray}, Sides T l i tt → ss = tt := by
  induction h using Sides.ind with
  | one x =>
    intro tt ht
    rcases ht.inv with ⟨_, _, _, e⟩ | ⟨h2, _⟩ | ⟨h2, _⟩
    · exact e.symm
    · simp at h2
    · simp at h2
  | left l i ss b h hi _ hb ih =>
    intro tt ht
    rcases ht.inv with ⟨x, e, _, _⟩ | ⟨_, _, ss', b', h1, h2, e⟩ | ⟨_, h', _⟩
    · subst e; simp at h
    · rw [e, ih h1, hb.same h2]
    · omega
  | right l i ss a h hi _ ha ih =>
    intro tt ht
    rcases ht.inv with ⟨x, e, _, _⟩ | ⟨_, h', _⟩ | ⟨_, _, ss', b', h1, h2, e⟩
    · subst e; simp at h
    · omega
    · rw [e, ih h1, ha.same h2]

/-- A leaf joined with its sides. -/
def Climb (T : List ByteArray) (x : ByteArray) (i n : Nat) (ss : List ByteArray) (d : ByteArray) : Prop :=
  ∀ P : Nat → Nat → List ByteArray → ByteArray → Prop, P 0 1 [] x →
    (∀ i n ss a b, 2 ≤ n → i < hf n → P i (hf n) ss a → nodeT a b ∈ T → P i n (ss ++ [b]) (dig T (nodeT a b))) →
    (∀ i n ss a b, 2 ≤ n → hf n ≤ i → P (i - hf n) (n - hf n) ss b → nodeT a b ∈ T → P i n (ss ++ [a]) (dig T (nodeT a b))) → P i n ss d
theorem Climb.one {T : List ByteArray} {x : ByteArray} : Climb T x 0 1 [] x := fun _ h1 _ _ => h1
theorem Climb.left {T : List ByteArray} {x : ByteArray} (i n : Nat) (ss : List ByteArray) (a b : ByteArray) (h : 2 ≤ n) (hi : i < hf n) (ha : Climb T x i (hf n) ss a) (hm : nodeT a b ∈ T) : Climb T x i n (ss ++ [b]) (dig T (nodeT a b)) :=
  fun P h1 h2 h3 => h2 i n ss a b h hi (ha P h1 h2 h3) hm
theorem Climb.right {T : List ByteArray} {x : ByteArray} (i n : Nat) (ss : List ByteArray) (a b : ByteArray) (h : 2 ≤ n) (hi : hf n ≤ i) (hb : Climb T x (i - hf n) (n - hf n) ss b) (hm : nodeT a b ∈ T) : Climb T x i n (ss ++ [a]) (dig T (nodeT a b)) :=
  fun P h1 h2 h3 => h3 i n ss a b h hi (hb P h1 h2 h3) hm
theorem Climb.ind {T : List ByteArray} {x : ByteArray} {motive : (i n : Nat) → (ss : List ByteArray) → (d : ByteArray) → Climb T x i n ss d → Prop} (one : motive 0 1 [] x Climb.one)
    (left : ∀ i n ss a b (h : 2 ≤ n) (hi : i < hf n) (ha : Climb T x i (hf n) ss a) (hm : nodeT a b ∈ T), motive _ _ _ _ ha → motive i n _ _ (Climb.left i n ss a b h hi ha hm))
    (right : ∀ i n ss a b (h : 2 ≤ n) (hi : hf n ≤ i) (hb : Climb T x (i - hf n) (n - hf n) ss b) (hm : nodeT a b ∈ T), motive _ _ _ _ hb → motive i n _ _ (Climb.right i n ss a b h hi hb hm))
    {i n : Nat} {ss : List ByteArray} {d : ByteArray} (h : Climb T x i n ss d) : motive i n ss d h := by
  obtain ⟨h', hm⟩ := h (fun i n ss d => ∃ h : Climb T x i n ss d, motive i n ss d h) ⟨_, one⟩ (fun i n ss a b h hi ⟨ha, ma⟩ hm => ⟨_, left i n ss a b h hi ha hm ma⟩) (fun i n ss a b h hi ⟨hb, mb⟩ hm => ⟨_, right i n ss a b h hi hb hm mb⟩)
  exact hm
theorem Climb.inv {T : List ByteArray} {x : ByteArray} {i n : Nat} {tt : List ByteArray} {e : ByteArray} (h : Climb T x i n tt e) : (i = 0 ∧ n = 1 ∧ tt = [] ∧ e = x) ∨
    (2 ≤ n ∧ i < hf n ∧ ∃ ss a b, Climb T x i (hf n) ss a ∧ nodeT a b ∈ T ∧ tt = ss ++ [b] ∧ e = dig T (nodeT a b)) ∨
    (2 ≤ n ∧ hf n ≤ i ∧ ∃ ss a b, Climb T x (i - hf n) (n - hf n) ss b ∧ nodeT a b ∈ T ∧ tt = ss ++ [a] ∧ e = dig T (nodeT a b)) := by
  induction h using Climb.ind with
  | one => exact Or.inl ⟨rfl, rfl, rfl, rfl⟩
  | left i n ss a b h hi ha hm _ => exact Or.inr (Or.inl ⟨h, hi, ss, a, b, ha, hm, rfl, rfl⟩)
  | right i n ss a b h hi hb hm _ => exact Or.inr (Or.inr ⟨h, hi, ss, a, b, hb, hm, rfl, rfl⟩)
theorem Climb.ext {T T' : List ByteArray} (e : Ext T T') {x : ByteArray} {i n : Nat} {ss : List ByteArray} {d : ByteArray} (h : Climb T x i n ss d) : Climb T' x i n ss d := by
  induction h using Climb.ind with
  | one => exact .one
  | left i n ss a b h hi _ hm ih => rw [← (e _ hm).2]; exact .left i n ss a b h hi ih (e _ hm).1
  | right i n ss a b h hi _ hm ih => rw [← (e _ hm).2]; exact .right i n ss a b h hi ih (e _ hm).1
theorem snoc_inj {α : Type} {l m : List α} {a b : α} (h : l ++ [a] = m ++ [b]) : l = m ∧ a = b := by
  have := List.append_inj' h rfl
  exact ⟨this.1, by simpa using this.2⟩
theorem Climb.same {T : List ByteArray} {x : ByteArray} {i n : Nat} {ss : List ByteArray} {d : ByteArray} (h : Climb T x i n ss d) : ∀ {e : ByteArray}, Climb T x i n ss e → d = e := by
  induction h using Climb.ind with
  | one =>
    intro e he
    rcases he.inv with ⟨_, _, _, e1⟩ | ⟨h2, _⟩ | ⟨h2, _⟩
    · exact e1.symm
    · omega
    · omega
  | left i n ss a b h hi _ hm ih =>
    intro e he
    rcases he.inv with ⟨_, _, _, _⟩ | ⟨_, _, ss', a', b', h1, h2, h3, h4⟩ | ⟨_, h', _⟩
    · omega
    · obtain ⟨rfl, rfl⟩ := snoc_inj h3
      rw [h4, ih h1]
    · omega
  | right i n ss a b h hi _ hm ih =>
    intro e he
    rcases he.inv with ⟨_, _, _, _⟩ | ⟨_, h', _⟩ | ⟨_, _, ss', a', b', h1, h2, h3, h4⟩
    · omega
    · omega
    · obtain ⟨rfl, rfl⟩ := snoc_inj h3
      rw [h4, ih h1]
theorem Climb.small {T : List ByteArray} {x : ByteArray} {i n : Nat} {ss : List ByteArray} {d : ByteArray} (h : Climb T x i n ss d) (hx : x.size ≤ 32) : d.size ≤ 32 := by
  rcases h.inv with ⟨_, _, _, e⟩ | ⟨_, _, _, _, _, _, _, _, e⟩ | ⟨_, _, _, _, _, _, _, _, e⟩
  · rw [e]; exact hx
  · rw [e]; exact Nat.le_trans (Nat.le_of_eq (dig_size _ _)) (by decide)
  · rw [e]; exact Nat.le_trans (Nat.le_of_eq (dig_size _ _)) (by decide)
/-- The leaf that its sides lead to what stands over leaves is the leaf there. -/
theorem Climb.sound {T : List ByteArray} (hT : T.length < 1000000) {x : ByteArray} (hx : x.size ≤ 32) {i n : Nat} {ss : List ByteArray} {d : ByteArray} (h : Climb T x i n ss d) : (∀ s ∈ ss, s.size ≤ 32) → ∀ {l : List ByteArray}, Top T l d → l.length = n → (∀ y ∈ l, y.size ≤ 32) → l[i]? = some x := by
  induction h using Climb.ind with
  | one =>
    intro _ l ht hl _
    obtain ⟨y, rfl⟩ := List.length_eq_one_iff.1 hl
    rw [ht.one_inv]; rfl
  | left i n ss a b h hi hc hm ih =>
    intro hs l ht hl hz
    obtain ⟨a', b', h1, h2, h3, h4⟩ := ht.node_inv (by omega)
    have e := dig_inj hT hm h3 h4
    have s1 := hc.small hx
    have s2 := hs b (by simp)
    have s3 := h1.small (fun y hy => hz y (List.mem_of_mem_take hy))
    have s4 := h2.small (fun y hy => hz y (List.mem_of_mem_drop hy))
    obtain ⟨rfl, rfl⟩ := nodeT_inj (by omega) (by omega) (by omega) (by omega) e
    have hb := hf_bounds h
    have := ih (fun s hs' => hs s (List.mem_append_left _ hs')) h1 (by rw [List.length_take, hl]; omega) (fun y hy => hz y (List.mem_of_mem_take hy))
    rw [hl, List.getElem?_take_of_lt hi] at this
    exact this
  | right i n ss a b h hi hc hm ih =>
    intro hs l ht hl hz
    obtain ⟨a', b', h1, h2, h3, h4⟩ := ht.node_inv (by omega)
    have e := dig_inj hT hm h3 h4
    have s1 := hc.small hx
    have s2 := hs a (by simp)
    have s3 := h1.small (fun y hy => hz y (List.mem_of_mem_take hy))
    have s4 := h2.small (fun y hy => hz y (List.mem_of_mem_drop hy))
    obtain ⟨rfl, rfl⟩ := nodeT_inj (by omega) (by omega) (by omega) (by omega) e
    have := ih (fun s hs' => hs s (List.mem_append_left _ hs')) h2 (by rw [List.length_drop, hl]) (fun y hy => hz y (List.mem_of_mem_drop hy))
    rw [hl, List.getElem?_drop] at this
    rw [← this]
    congr 1
    omega
/-- The sides beside the way lead to what stands over the leaves. -/
theorem Sides.climb {T : List ByteArray} {l : List ByteArray} {i : Nat} {ss : List ByteArray} (h : Sides T l i ss) : ∀ {x d : ByteArray}, l[i]? = some x → Top T l d → Climb T x i l.length ss d := by
  induction h using Sides.ind with
  | one y =>
    intro x d hx ht
    simp at hx
    subst hx
    rw [ht.one_inv]
    exact .one
  | left l i ss b h hi _ hb ih =>
    intro x d hx ht
    obtain ⟨a', b', h1, h2, h3, rfl⟩ := ht.node_inv h
    obtain rfl := hb.same h2
    have hbd := hf_bounds h
    have := ih (by rw [List.getElem?_take_of_lt hi]; exact hx) h1
    rw [List.length_take, Nat.min_eq_left (by omega)] at this
    exact .left i _ ss a' b h hi this h3
  | right l i ss a h hi _ ha ih =>
    intro x d hx ht
    obtain ⟨a', b', h1, h2, h3, rfl⟩ := ht.node_inv h
    obtain rfl := ha.same h1
    have := ih (by rw [List.getElem?_drop]; rw [← hx]; congr 1; omega) h2
    rw [List.length_drop] at this
    exact .right i _ ss a b' h hi this h3
/-- How many sides there are. -/
def Hgt (i n h : Nat) : Prop :=
  ∀ P : Nat → Nat → Nat → Prop, P 0 1 0 → (∀ i n h, 2 ≤ n → i < hf n → P i (hf n) h → P i n (h + 1)) → (∀ i n h, 2 ≤ n → hf n ≤ i → P (i - hf n) (n - hf n) h → P i n (h + 1)) → P i n h
theorem Hgt.one : Hgt 0 1 0 := fun _ h1 _ _ => h1
theorem Hgt.left (i n h : Nat) (hn : 2 ≤ n) (hi : i < hf n) (k : Hgt i (hf n) h) : Hgt i n (h + 1) := fun P h1 h2 h3 => h2 i n h hn hi (k P h1 h2 h3)
theorem Hgt.right (i n h : Nat) (hn : 2 ≤ n) (hi : hf n ≤ i) (k : Hgt (i - hf n) (n - hf n) h) : Hgt i n (h + 1) := fun P h1 h2 h3 => h3 i n h hn hi (k P h1 h2 h3)
theorem Hgt.ind {motive : (i n h : Nat) → Hgt i n h → Prop} (one : motive 0 1 0 Hgt.one) (left : ∀ i n h (hn : 2 ≤ n) (hi : i < hf n) (k : Hgt i (hf n) h), motive _ _ _ k → motive i n _ (Hgt.left i n h hn hi k))
    (right : ∀ i n h (hn : 2 ≤ n) (hi : hf n ≤ i) (k : Hgt (i - hf n) (n - hf n) h), motive _ _ _ k → motive i n _ (Hgt.right i n h hn hi k)) {i n h : Nat} (k : Hgt i n h) : motive i n h k := by
  obtain ⟨h', hm⟩ := k (fun i n h => ∃ k : Hgt i n h, motive i n h k) ⟨_, one⟩ (fun i n h hn hi ⟨k, mk⟩ => ⟨_, left i n h hn hi k mk⟩) (fun i n h hn hi ⟨k, mk⟩ => ⟨_, right i n h hn hi k mk⟩)
  exact hm
theorem Hgt.inv {i n j : Nat} (k : Hgt i n j) : (i = 0 ∧ n = 1 ∧ j = 0) ∨ (2 ≤ n ∧ i < hf n ∧ ∃ h, Hgt i (hf n) h ∧ j = h + 1) ∨ (2 ≤ n ∧ hf n ≤ i ∧ ∃ h, Hgt (i - hf n) (n - hf n) h ∧ j = h + 1) := by
  induction k using Hgt.ind with
  | one => exact Or.inl ⟨rfl, rfl, rfl⟩
  | left i n h hn hi k _ => exact Or.inr (Or.inl ⟨hn, hi, h, k, rfl⟩)
  | right i n h hn hi k _ => exact Or.inr (Or.inr ⟨hn, hi, h, k, rfl⟩)
theorem Hgt.same {i n h : Nat} (k : Hgt i n h) : ∀ {j : Nat}, Hgt i n j → h = j := by
  induction k using Hgt.ind with
  | one =>
    intro j hj
    rcases hj.inv with ⟨_, _, e⟩ | ⟨h2, _⟩ | ⟨h2, _⟩
    · exact e.symm
    · omega
    · omega
  | left i n h hn hi _ ih =>
    intro j hj
    rcases hj.inv with ⟨_, _, _⟩ | ⟨_, _, h', k, e⟩ | ⟨_, h', _⟩
    · omega
    · rw [e, ih k]
    · omega
  | right i n h hn hi _ ih =>
    intro j hj
    rcases hj.inv with ⟨_, _, _⟩ | ⟨_, h', _⟩ | ⟨_, _, h', k, e⟩
    · omega
    · omega
    · rw [e, ih k]
theorem Sides.hgt {T : List ByteArray} {l : List ByteArray} {i : Nat} {ss : List ByteArray} (h : Sides T l i ss) : Hgt i l.length ss.length := by
  induction h using Sides.ind with
  | one => exact .one
  | left l i ss b h hi _ _ ih =>
    have hbd := hf_bounds h
    rw [List.length_take, Nat.min_eq_left (by omega)] at ih
    rw [List.length_append]
    exact .left _ _ _ h hi ih
  | right l i ss a h hi _ _ ih =>
    rw [List.length_drop] at ih
    rw [List.length_append]
    exact .right _ _ _ h hi ih
theorem Hgt.ex : ∀ (n i : Nat), i < n → ∃ h, Hgt i n h := by
  intro n
  induction n using Nat.strongRecOn with
  | _ n ih =>
    intro i hi
    by_cases h1 : n = 1
    · subst h1
      obtain rfl : i = 0 := by omega
      exact ⟨0, .one⟩
    · have h2 : 2 ≤ n := by omega
      have hb := hf_bounds h2
      by_cases hl : i < hf n
      · obtain ⟨h, k⟩ := ih (hf n) hb.2 i hl
        exact ⟨h + 1, .left i n h h2 hl k⟩
      · obtain ⟨h, k⟩ := ih (n - hf n) (by omega) (i - hf n) (by omega)
        exact ⟨h + 1, .right i n h h2 (by omega) k⟩

theorem Hgt.le {i n h : Nat} (k : Hgt i n h) : h ≤ n := by
  induction k using Hgt.ind with
  | one => omega
  | left i n h hn hi _ ih => have := hf_bounds hn; omega
  | right i n h hn hi _ ih => have := hf_bounds hn; omega

/-- Records and their leaves' digests. -/
def Lvs (T : List ByteArray) (l : List Rc) (ls : List ByteArray) : Prop := ls = l.map (fun m => dig T (leafT m)) ∧ ∀ m ∈ l, leafT m ∈ T
theorem Lvs.ext {T T' : List ByteArray} (e : Ext T T') {l : List Rc} {ls : List ByteArray} (h : Lvs T l ls) : Lvs T' l ls := by
  refine ⟨h.1.trans (List.map_congr_left fun m hm => ((e _ (h.2 m hm)).2).symm), fun m hm => (e _ (h.2 m hm)).1⟩
theorem Lvs.len {T : List ByteArray} {l : List Rc} {ls : List ByteArray} (h : Lvs T l ls) : ls.length = l.length := by rw [h.1]; simp
theorem Lvs.small {T : List ByteArray} {l : List Rc} {ls : List ByteArray} (h : Lvs T l ls) : ∀ x ∈ ls, x.size ≤ 32 := by
  rw [h.1]
  intro x hx
  obtain ⟨m, _, rfl⟩ := List.mem_map.1 hx
  exact Nat.le_trans (Nat.le_of_eq (dig_size _ _)) (by decide)
theorem Lvs.nil (T : List ByteArray) : Lvs T [] [] := ⟨rfl, fun _ h => by cases h⟩
theorem Lvs.snoc {T T' : List ByteArray} (e : Ext T T') {l : List Rc} {ls : List ByteArray} (h : Lvs T l ls) (m : Rc) (hm : leafT m ∈ T') : Lvs T' (l ++ [m]) (ls ++ [dig T' (leafT m)]) := by
  have h' := h.ext e
  refine ⟨by rw [h'.1]; simp, fun n hn => ?_⟩
  rcases List.mem_append.1 hn with k | k
  · exact h'.2 n k
  · simp only [List.mem_singleton] at k; subst k; exact hm
theorem Lvs.take {T : List ByteArray} {l : List Rc} {ls : List ByteArray} (h : Lvs T l ls) (k : Nat) : Lvs T (l.take k) (ls.take k) := ⟨by rw [h.1, List.map_take], fun m hm => h.2 m (List.mem_of_mem_take hm)⟩
theorem Lvs.drop {T : List ByteArray} {l : List Rc} {ls : List ByteArray} (h : Lvs T l ls) (k : Nat) : Lvs T (l.drop k) (ls.drop k) := ⟨by rw [h.1, List.map_drop], fun m hm => h.2 m (List.mem_of_mem_drop hm)⟩
theorem Lvs.same {T : List ByteArray} {l : List Rc} {ls ls' : List ByteArray} (h : Lvs T l ls) (h' : Lvs T l ls') : ls = ls' := h.1.trans h'.1.symm
theorem Lvs.at {T : List ByteArray} {l : List Rc} {ls : List ByteArray} (h : Lvs T l ls) {i : Nat} {m : Rc} (hm : l[i]? = some m) : ls[i]? = some (dig T (leafT m)) := by rw [h.1, List.getElem?_map, hm]; rfl
/-- A root: the digest of the count and of what stands over the leaves. -/
def RootOf (T : List ByteArray) (l : List Rc) (r : ByteArray) : Prop := ∃ ls t, Lvs T l ls ∧ Top T ls t ∧ rootT l.length t ∈ T ∧ r = dig T (rootT l.length t)
theorem RootOf.ext {T T' : List ByteArray} (e : Ext T T') {l : List Rc} {r : ByteArray} (h : RootOf T l r) : RootOf T' l r := by
  obtain ⟨ls, t, h1, h2, h3, rfl⟩ := h
  exact ⟨ls, t, h1.ext e, h2.ext e, (e _ h3).1, (e _ h3).2.symm⟩
theorem RootOf.same {T : List ByteArray} {l : List Rc} {r s : ByteArray} (h : RootOf T l r) (k : RootOf T l s) : r = s := by
  obtain ⟨ls, t, h1, h2, h3, rfl⟩ := h
  obtain ⟨ls', t', k1, k2, k3, rfl⟩ := k
  obtain rfl := h1.same k1
  rw [h2.same k2]
theorem map_leaf_inj {T : List ByteArray} (hT : T.length < 1000000) : ∀ (l m : List Rc), (∀ x ∈ l, leafT x ∈ T ∧ x.key.size ≤ 64 ∧ x.dat.size ≤ 4096) → (∀ x ∈ m, leafT x ∈ T ∧ x.key.size ≤ 64 ∧ x.dat.size ≤ 4096) → l.map (fun m => dig T (leafT m)) = m.map (fun m => dig T (leafT m)) → l = m
  | [], [], _, _, _ => rfl
  | [], _ :: _, _, _, h => by simp at h
  | _ :: _, [], _, _, h => by simp at h
  | a :: l, b :: m, h1, h2, h => by
    simp only [List.map_cons, List.cons.injEq] at h
    have ha := h1 a (by simp)
    have hb := h2 b (by simp)
    rw [leafT_inj (by omega) (by omega) (by omega) (by omega) (dig_inj hT ha.1 hb.1 h.1), map_leaf_inj hT l m (fun x hx => h1 x (by simp [hx])) (fun x hx => h2 x (by simp [hx])) h.2]
theorem RootOf.inj {T : List ByteArray} (hT : T.length < 1000000) {l m : List Rc} {r : ByteArray} (h : RootOf T l r) (k : RootOf T m r) (hl : l.length ≤ 4096) (hm : m.length ≤ 4096) (zl : ∀ x ∈ l, x.key.size ≤ 64 ∧ x.dat.size ≤ 4096) (zm : ∀ x ∈ m, x.key.size ≤ 64 ∧ x.dat.size ≤ 4096) : l = m := by
  obtain ⟨ls, t, h1, h2, h3, rfl⟩ := h
  obtain ⟨ls', t', k1, k2, k3, e⟩ := k
  have s1 := h2.small h1.small
  have s2 := k2.small k1.small
  obtain ⟨e1, rfl⟩ := rootT_inj (by omega) (by omega) (by omega) (by omega) (dig_inj hT h3 k3 e)
  have e2 := Top.inj hT h2 h1.small k2 (by rw [h1.len, k1.len, e1]) k1.small
  rw [h1.1, k1.1] at e2
  exact map_leaf_inj hT l m (fun x hx => ⟨h1.2 x hx, zl x hx⟩) (fun x hx => ⟨k1.2 x hx, zm x hx⟩) e2
end Go.Proofs.YtpcafjbebhcilaaGreat
