/- Codecs: what is laid is read again, what is read was laid, and with some bytes fewer bytes lack. Plain lists of bytes. -/
import Derived.Test.YtpcafjbebhcilaaGreatTm06
namespace Go.Proofs.YtpcafjbebhcilaaGreat
open Go.RowKit
set_option linter.unusedVariables false
set_option linter.unusedSimpArgs false

structure Codec {α : Type} (lay : α → List UInt8) (rd : List UInt8 → Except Int (α × Nat)) (ok : α → Prop) : Prop where
  there : ∀ x post, ok x → rd (lay x ++ post) = .ok (x, (lay x).length)
  back : ∀ l x c, rd l = .ok (x, c) → ok x ∧ c = (lay x).length ∧ l.take c = lay x ∧ c ≤ l.length
  cut : ∀ x j, ok x → j < (lay x).length → rd ((lay x).take j) = .error 10

def seqR {α β : Type} (r1 : List UInt8 → Except Int (α × Nat)) (r2 : List UInt8 → Except Int (β × Nat)) (l : List UInt8) : Except Int ((α × β) × Nat) :=
  match r1 l with
  | .error e => .error e
  | .ok (x, c) =>
    match r2 (l.drop c) with
    | .error e => .error e
    | .ok (y, d) => .ok ((x, y), c + d)

theorem Codec.seq {α β : Type} {l1 : α → List UInt8} {r1 : List UInt8 → Except Int (α × Nat)} {ok1 : α → Prop} {l2 : β → List UInt8} {r2 : List UInt8 → Except Int (β × Nat)} {ok2 : β → Prop}
    (h1 : Codec l1 r1 ok1) (h2 : Codec l2 r2 ok2) : Codec (fun p : α × β => l1 p.1 ++ l2 p.2) (seqR r1 r2) (fun p => ok1 p.1 ∧ ok2 p.2) := by
  refine ⟨?_, ?_, ?_⟩
  · rintro ⟨x, y⟩ post ⟨o1, o2⟩
    unfold seqR
    simp only [List.append_assoc]
    rw [h1.there x _ o1]
    simp only [List.drop_left]
    rw [h2.there y _ o2]
    simp
  · rintro l ⟨x, y⟩ c h
    unfold seqR at h
    cases e1 : r1 l with
    | error e => rw [e1] at h; cases h
    | ok p =>
      obtain ⟨x', c1⟩ := p
      rw [e1] at h
      simp only at h
      cases e2 : r2 (l.drop c1) with
      | error e => rw [e2] at h; cases h
      | ok p =>
        obtain ⟨y', c2⟩ := p
        rw [e2] at h
        simp only [Except.ok.injEq, Prod.mk.injEq] at h
        obtain ⟨⟨rfl, rfl⟩, rfl⟩ := h
        obtain ⟨o1, k1, t1, n1⟩ := h1.back _ _ _ e1
        obtain ⟨o2, k2, t2, n2⟩ := h2.back _ _ _ e2
        rw [List.length_drop] at n2
        refine ⟨⟨o1, o2⟩, by simp; omega, ?_, by omega⟩
        rw [List.take_add, t1, t2]
  · rintro ⟨x, y⟩ j ⟨o1, o2⟩ hj
    unfold seqR
    simp only [List.length_append] at hj ⊢
    by_cases h : j < (l1 x).length
    · rw [List.take_append_of_le_length (by omega), h1.cut x j o1 h]
    · have e : (l1 x ++ l2 y).take j = l1 x ++ (l2 y).take (j - (l1 x).length) := by
        rw [List.take_append, List.take_of_length_le (by omega)]
      rw [e, h1.there x _ o1]
      simp only [List.drop_left]
      rw [h2.cut y _ o2 (by omega)]

def mapR {α β : Type} (f : α → β) : Except Int (α × Nat) → Except Int (β × Nat)
  | .ok (x, c) => .ok (f x, c)
  | .error e => .error e

theorem Codec.iso {α β : Type} {lay : α → List UInt8} {rd : List UInt8 → Except Int (α × Nat)} {ok : α → Prop} (h : Codec lay rd ok) (f : α → β) (g : β → α) (okb : β → Prop)
    (hfg : ∀ y, okb y → f (g y) = y ∧ ok (g y)) (hgf : ∀ x, ok x → g (f x) = x ∧ okb (f x)) : Codec (fun y => lay (g y)) (fun l => mapR f (rd l)) okb := by
  refine ⟨?_, ?_, ?_⟩
  · intro y post oy
    simp only [h.there (g y) post (hfg y oy).2, mapR, (hfg y oy).1]
  · intro l y c hh
    cases e : rd l with
    | error er => simp only [e, mapR] at hh; cases hh
    | ok p =>
      obtain ⟨x, c'⟩ := p
      simp only [e, mapR, Except.ok.injEq, Prod.mk.injEq] at hh
      obtain ⟨rfl, rfl⟩ := hh
      obtain ⟨o, k, t, n⟩ := h.back _ _ _ e
      rw [(hgf x o).1]
      exact ⟨(hgf x o).2, k, t, n⟩
  · intro y j oy hj
    simp only [h.cut (g y) j (hfg y oy).2 hj, mapR]

def repR {α : Type} (r : List UInt8 → Except Int (α × Nat)) : Nat → List UInt8 → Except Int (List α × Nat)
  | 0, _ => .ok ([], 0)
  | k + 1, l =>
    match r l with
    | .error e => .error e
    | .ok (x, c) =>
      match repR r k (l.drop c) with
      | .error e => .error e
      | .ok (xs, d) => .ok (x :: xs, c + d)

theorem Codec.rep {α : Type} {lay : α → List UInt8} {r : List UInt8 → Except Int (α × Nat)} {ok : α → Prop} (h : Codec lay r ok) :
    ∀ k, Codec (fun xs : List α => xs.flatMap lay) (repR r k) (fun xs => xs.length = k ∧ ∀ x ∈ xs, ok x) := by
  intro k
  induction k with
  | zero =>
    refine ⟨?_, ?_, ?_⟩
    · rintro xs post ⟨h0, _⟩
      have := List.eq_nil_of_length_eq_zero h0
      subst this; rfl
    · intro l x c hh
      simp only [repR, Except.ok.injEq, Prod.mk.injEq] at hh
      obtain ⟨rfl, rfl⟩ := hh
      simp
    · rintro xs j ⟨h0, _⟩ hj
      have := List.eq_nil_of_length_eq_zero h0
      subst this; simp at hj
  | succ k ih =>
    refine ⟨?_, ?_, ?_⟩
    · rintro xs post ⟨h0, ho⟩
      cases xs with
      | nil => simp at h0
      | cons x xs =>
        simp only [List.flatMap_cons, List.append_assoc, repR]
        rw [h.there x _ (ho x (by simp))]
        simp only [List.drop_left]
        rw [ih.there xs post ⟨by simpa using h0, fun y hy => ho y (by simp [hy])⟩]
        simp
    · intro l xs c hh
      simp only [repR] at hh
      cases e1 : r l with
      | error e => rw [e1] at hh; cases hh
      | ok p =>
        obtain ⟨x, c1⟩ := p
        rw [e1] at hh
        simp only at hh
        cases e2 : repR r k (l.drop c1) with
        | error e => rw [e2] at hh; cases hh
        | ok p =>
          obtain ⟨ys, c2⟩ := p
          rw [e2] at hh
          simp only [Except.ok.injEq, Prod.mk.injEq] at hh
          obtain ⟨rfl, rfl⟩ := hh
          obtain ⟨o1, k1, t1, n1⟩ := h.back _ _ _ e1
          obtain ⟨o2, k2, t2, n2⟩ := ih.back _ _ _ e2
          rw [List.length_drop] at n2
          refine ⟨⟨by simp [o2.1], fun y hy => ?_⟩, by rw [List.flatMap_cons, List.length_append]; omega, ?_, by omega⟩
          · rcases List.mem_cons.1 hy with rfl | hy
            · exact o1
            · exact o2.2 y hy
          · rw [List.take_add, t1, t2, List.flatMap_cons]
    · rintro xs j ⟨h0, ho⟩ hj
      cases xs with
      | nil => simp at h0
      | cons x xs =>
        simp only [List.flatMap_cons, List.length_append] at hj ⊢
        simp only [repR]
        by_cases hc : j < (lay x).length
        · rw [List.take_append_of_le_length (by omega), h.cut x j (ho x (by simp)) hc]
        · have e : (lay x ++ xs.flatMap lay).take j = lay x ++ (xs.flatMap lay).take (j - (lay x).length) := by
            rw [List.take_append, List.take_of_length_le (by omega)]
          rw [e, h.there x _ (ho x (by simp))]
          simp only [List.drop_left]
          rw [ih.cut xs _ ⟨by simpa using h0, fun y hy => ho y (by simp [hy])⟩ (by omega)]

theorem codecNum : Codec enc (rdP 8 0 0) (fun m => m ≤ 9007199254740992) :=
  ⟨fun m post h => rdP_enc0 m post h, fun l m c h => by obtain ⟨a, b, c', d⟩ := rdP_canon0 h; exact ⟨d, a, b, c'⟩, fun m j h hj => rdP_cut0 m j h hj⟩

/-- How many, and so many. -/
def cntR {α : Type} (r : List UInt8 → Except Int (α × Nat)) (most : Nat) (l : List UInt8) : Except Int (List α × Nat) :=
  match rdP 8 0 0 l with
  | .error e => .error e
  | .ok (n, c) =>
    if most < n then .error 2 else
    match repR r n (l.drop c) with
    | .error e => .error e
    | .ok (xs, d) => .ok (xs, c + d)

theorem Codec.cnt {α : Type} {lay : α → List UInt8} {r : List UInt8 → Except Int (α × Nat)} {ok : α → Prop} (h : Codec lay r ok) (most : Nat) (hm : most ≤ 9007199254740992) :
    Codec (fun xs : List α => enc xs.length ++ xs.flatMap lay) (cntR r most) (fun xs => xs.length ≤ most ∧ ∀ x ∈ xs, ok x) := by
  refine ⟨?_, ?_, ?_⟩
  · rintro xs post ⟨h0, ho⟩
    unfold cntR
    simp only [List.append_assoc]
    rw [codecNum.there xs.length _ (by omega)]
    simp only [List.drop_left]
    rw [if_neg (by omega), (h.rep xs.length).there xs post ⟨rfl, ho⟩]
    simp
  · intro l xs c hh
    unfold cntR at hh
    cases e1 : rdP 8 0 0 l with
    | error e => rw [e1] at hh; cases hh
    | ok p =>
      obtain ⟨n, c1⟩ := p
      rw [e1] at hh
      simp only at hh
      split at hh
      · cases hh
      · rename_i hn
        cases e2 : repR r n (l.drop c1) with
        | error e => rw [e2] at hh; cases hh
        | ok p =>
          obtain ⟨ys, c2⟩ := p
          rw [e2] at hh
          simp only [Except.ok.injEq, Prod.mk.injEq] at hh
          obtain ⟨rfl, rfl⟩ := hh
          obtain ⟨o1, k1, t1, n1⟩ := codecNum.back _ _ _ e1
          obtain ⟨o2, k2, t2, n2⟩ := (h.rep n).back _ _ _ e2
          obtain ⟨o2a, o2b⟩ := o2
          rw [List.length_drop] at n2
          refine ⟨⟨by omega, o2b⟩, by rw [List.length_append, o2a]; omega, ?_, by omega⟩
          rw [List.take_add, t1, t2, o2a]
  · rintro xs j ⟨h0, ho⟩ hj
    unfold cntR
    simp only [List.length_append] at hj
    by_cases hc : j < (enc xs.length).length
    · rw [List.take_append_of_le_length (by omega), codecNum.cut xs.length j (by omega) hc]
    · have e : (enc xs.length ++ xs.flatMap lay).take j = enc xs.length ++ (xs.flatMap lay).take (j - (enc xs.length).length) := by
        rw [List.take_append, List.take_of_length_le (by omega)]
      rw [e, codecNum.there xs.length _ (by omega)]
      simp only [List.drop_left]
      rw [if_neg (by omega), (h.rep xs.length).cut xs _ ⟨rfl, ho⟩ (by omega)]
end Go.Proofs.YtpcafjbebhcilaaGreat
