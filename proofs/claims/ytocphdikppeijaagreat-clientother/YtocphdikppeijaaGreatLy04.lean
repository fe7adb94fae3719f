/- Codecs: what is laid is read again, what is read was laid, and with some bytes fewer bytes lack. Plain lists of bytes. -/
import Derived.Test.YtocphdikppeijaaGreatLy03
import Derived.Test.YtocphdikppeijaaGreatLy02
namespace Go.Proofs.YtocphdikppeijaaGreat
open Go.RowKit
set_option linter.unusedVariables false
set_option linter.unusedSimpArgs false

structure Codec {α : Type} (lay : α → List UInt8) (rd : List UInt8 → Except Int (α × Nat)) (ok : α → Prop) : Prop where
  there : ∀ x post, ok x → rd (lay x ++ post) = .ok (x, (lay x).length)
  back : ∀ l x c, rd l = .ok (x, c) → ok x ∧ c = (lay x).length ∧ l.take c = lay x ∧ c ≤ l.length
  cut : ∀ x j, ok x → j < (lay x).length → rd ((lay x).take j) = .error 10

def seqR {α β : Type} (r1 : List UInt8 → Except Int (α × Nat)) (r2 : List UInt8 → Except Int (β × Nat)) (l : List UInt8) : Except Int ((α × β) × Nat) :=
  match r1 l with
  | .error e => .error e
  | .ok (x, c) =>
    match r2 (l.drop c) with
    | .error e => .error e
    | .ok (y, d) => .ok ((x, y), c + d)

theorem Codec.seq {α β : Type} {l1 : α → List UInt8} {r1 : List UInt8 → Except Int (α × Nat)} {ok1 : α → Prop} {l2 : β → List UInt8} {r2 : List UInt8 → Except Int (β × Nat)} {ok2 : β → Prop}
    (h1 : Codec l1 r1 ok1) (h2 : Codec l2 r2 ok2) : Codec (fun p : α × β => l1 p.1 ++ l2 p.2) (seqR r1 r2) (fun p => ok1 p.1 ∧ ok2 p.2) := by
  refine ⟨?_, ?_, ?_⟩
  · rintro ⟨x, y⟩ post ⟨o1, o2⟩
    unfold seqR
    simp only [List.append_assoc]
    rw [h1.there x _ o1]
    simp only [List.drop_left]
    rw [h2.there y _ o2]
    simp
  · rintro l ⟨x, y⟩ c h
    unfold seqR at h
    cases e1 : r1 l with
    | error e => rw [e1] at h; cases h
    | ok p =>
      obtain ⟨x', c1⟩ := p
      rw [e1] at h
      simp only at h
      cases e2 : r2 (l.drop c1) with
      | error e => rw [e2] at h; cases h
      | ok p =>
        obtain ⟨y', c2⟩ := p
        rw [e2] at h
        simp only [Except.ok.injEq, Prod.mk.injEq] at h
        obtain ⟨⟨rfl, rfl⟩, rfl⟩ := h
        obtain ⟨o1, k1, t1, n1⟩ := h1.back _ _ _ e1
        obtain ⟨o2, k2, t2, n2⟩ := h2.back _ _ _ e2
        rw [List.length_drop] at n2
        refine ⟨⟨o1, o2⟩, by simp; omega, ?_, by omega⟩
        rw [List.take_add, t1, t2]
  · rintro ⟨x, y⟩ j ⟨o1, o2⟩ hj
    unfold seqR
    simp only [List.length_append] at hj ⊢
    by_cases h : j < (l1 x).length
    · rw [List.take_append_of_le_length (by omega), h1.cut x j o1 h]
    · have e : (l1 x ++ l2 y).take j = l1 x ++ (l2 y).take (j - (l1 x).length) := by
        rw [List.take_append, List.take_of_length_le (by omega)]
      rw [e, h1.there x _ o1]
      simp only [List.drop_left]
      rw [h2.cut y _ o2 (by omega)]

def mapR {α β : Type} (f : α → β) : Except Int (α × Nat) → Except Int (β × Nat)
  | .ok (x, c) => .ok (f x, c)
  | .error e => .error e

theorem Codec.iso {α β : Type} {lay : α → List UInt8} {rd : List UInt8 → Except Int (α × Nat)} {ok : α → Prop} (h : Codec lay rd ok) (f : α → β) (g : β → α) (okb : β → Prop)
    (hfg : ∀ y, okb y → f (g y) = y ∧ ok (g y)) (hgf : ∀ x, ok x → g (f x) = x ∧ okb (f x)) : Codec (fun y => lay (g y)) (fun l => mapR f (rd l)) okb := by
  refine ⟨?_, ?_, ?_⟩
  · intro y post oy
    simp only [h.there (g y) post (hfg y oy).2, mapR, (hfg y oy).1]
  · intro l y c hh
    cases e : rd l with
    | error er => simp only [e, mapR] at hh; cases hh
    | ok p =>
      obtain ⟨x, c'⟩ := p
      simp only [e, mapR, Except.ok.injEq, Prod.mk.injEq] at hh
      obtain ⟨rfl, rfl⟩ := hh
      obtain ⟨o, k, t, n⟩ := h.back _ _ _ e
      rw [(hgf x o).1]
      exact ⟨(hgf x o).2, k, t, n⟩
  · intro y j oy hj
    simp only [h.cut (g y) j (hfg y oy).2 hj, mapR]

def repR {α : Type} (r : List UInt8 → Except Int (α × Nat)) : Nat → List UInt8 → Except Int (List α × Nat)
  | 0, _ => .ok ([], 0)
  | k + 1, l =>
    match r l with
    | .error e => .error e
    | .ok (x, c) =>
      match repR r k (l.drop c) with
      | .error e => .error e
      | .ok (xs, d) => .ok (x :: xs, c + d)

theorem Codec.rep {α : Type} {lay : α → List UInt8} {r : List UInt8 → Except Int (α × Nat)} {ok : α → Prop} (h : Codec lay r ok) :
    ∀ k, Codec (fun xs : List α => xs.flatMap lay) (repR r k) (fun xs => xs.length = k ∧ ∀ x ∈ xs, ok x) := by
  intro k
  induction k with
  | zero =>
    refine ⟨?_, ?_, ?_⟩
    · rintro xs post ⟨h0, _⟩
      have := List.eq_nil_of_length_eq_zero h0
      subst this; rfl
    · intro l x c hh
      simp only [repR, Except.ok.injEq, Prod.mk.injEq] at hh
      obtain ⟨rfl, rfl⟩ := hh
      simp
    · rintro xs j ⟨h0, _⟩ hj
      have := List.eq_nil_of_length_eq_zero h0
      subst this; simp at hj
  | succ k ih =>
    refine ⟨?_, ?_, ?_⟩
    · rintro xs post ⟨h0, ho⟩
      cases xs with
      | nil => simp at h0
      | cons x xs =>
        simp only [List.flatMap_cons, List.append_assoc, repR]
        rw [h.there x _ (ho x (by simp))]
        simp only [List.drop_left]
        rw [ih.there xs post ⟨by simpa using h0, fun y hy => ho y (by simp [hy])⟩]
        simp
    · intro l xs c hh
      simp only [repR] at hh
      cases e1 : r l with
      | error e => rw [e1] at hh; cases hh
      | ok p =>
        obtain ⟨x, c1⟩ := p
        rw [e1] at hh
        simp only at hh
        cases e2 : repR r k (l.drop c1) with
        | error e => rw [e2] at hh; cases hh
        | ok p =>
          obtain ⟨ys, c2⟩ := p
          rw [e2] at hh
          simp only [Except.ok.injEq, Prod.mk.injEq] at hh
          obtain ⟨rfl, rfl⟩ := hh
          obtain ⟨o1, k1, t1, n1⟩ := h.back _ _ _ e1
          obtain ⟨o2, k2, t2, n2⟩ := ih.back _ _ _ e2
          rw [List.length_drop] at n2
          refine ⟨⟨by simp [o2.1], fun y hy => ?_⟩, by rw [List.flatMap_cons, List.length_append]; omega, ?_, by omega⟩
          · rcases List.mem_cons.1 hy with rfl | hy
            · exact o1
            · exact o2.2 y hy
          · rw [List.take_add, t1, t2, List.flatMap_cons]
    · rintro xs j ⟨h0, ho⟩ hj
      cases xs with
      | nil => simp at h0
      | cons x xs =>
        simp only [List.flatMap_cons, List.length_append] at hj ⊢
        simp only [repR]
        by_cases hc : j < (lay x).length
        · rw [List.take_append_of_le_length (by omega), h.cut x j (ho x (by simp)) hc]
        · have e : (lay x ++ xs.flatMap lay).take j = lay x ++ (xs.flatMap lay).take (j - (lay x).length) := by
            rw [List.take_append, List.take_of_length_le (by omega)]
          rw [e, h.there x _ (ho x (by simp))]
          simp only [List.drop_left]
          rw [ih.cut xs _ ⟨by simpa using h0, fun y hy => ho y (by simp [hy])⟩ (by omega)]

theorem codecNum : Codec enc (rdP 8 0 0) (fun m => m ≤ 9007199254740992) :=
  ⟨fun m post h => rdP_enc0 m post h, fun l m c h => by obtain ⟨a, b, c', d⟩ := rdP_canon0 h; exact ⟨d, a, b, c'⟩, fun m j h hj => rdP_cut0 m j h hj⟩

/-- How many, and so many. -/
def cntR {α : Type} (r : List UInt8 → Except Int (α × Nat)) (most : Nat) (l : List UInt8) : Except Int (List α × Nat) :=
  match rdP 8 0 0 l with
  | .error e => .error e
  | .ok (n, c) =>
    if most < n then .error 2 else
    match repR r n (l.drop c) with
    | .error e => .error e
    | .ok (xs, d) => .ok (xs, c + d)

theorem Codec.cnt {α : Type} {lay : α → List UInt8} {r : List UInt8 → Except Int (α × Nat)} {ok : α → Prop} (h : Codec lay r ok) (most : Nat) (hm : most ≤ 9007199254740992) :
    Codec (fun xs : List α => enc xs.length ++ xs.flatMap lay) (cntR r most) (fun xs => xs.length ≤ most ∧ ∀ x ∈ xs, ok x) := by
  refine ⟨?_, ?_, ?_⟩
  · rintro xs post ⟨h0, ho⟩
    unfold cntR
    simp only [List.append_assoc]
    rw [codecNum.there xs.length _ (by omega)]
    simp only [List.drop_left]
    rw [if_neg (by omega), (h.rep xs.length).there xs post ⟨rfl, ho⟩]
    simp
  · intro l xs c hh
    unfold cntR at hh
    cases e1 : rdP 8 0 0 l with
    | error e => rw [e1] at hh; cases hh
    | ok p =>
      obtain ⟨n, c1⟩ := p
      rw [e1] at hh
      simp only at hh
      split at hh
      · cases hh
      · rename_i hn
        cases e2 : repR r n (l.drop c1) with
        | error e => rw [e2] at hh; cases hh
        | ok p =>
          obtain ⟨ys, c2⟩ := p
          rw [e2] at hh
          simp only [Except.ok.injEq, Prod.mk.injEq] at hh
          obtain ⟨rfl, rfl⟩ := hh
          obtain ⟨o1, k1, t1, n1⟩ := codecNum.back _ _ _ e1
          obtain ⟨o2, k2, t2, n2⟩ := (h.rep n).back _ _ _ e2
          obtain ⟨o2a, o2b⟩ := o2
          rw [List.length_drop] at n2
          refine ⟨⟨by omega, o2b⟩, by rw [List.length_append, o2a]; omega, ?_, by omega⟩
          rw [List.take_add, t1, t2, o2a]
  · rintro xs j ⟨h0, ho⟩ hj
    unfold cntR
    simp only [List.length_append] at hj
    by_cases hc : j < (enc xs.length).length
    · rw [List.take_append_of_le_length (by omega), codecNum.cut xs.length j (by omega) hc]
    · have e : (enc xs.length ++ xs.flatMap lay).take j = enc xs.length ++ (xs.flatMap lay).take (j - (enc xs.length).length) := by
        rw [List.take_append, List.take_of_length_le (by omega)]
      rw [e, codecNum.there xs.length _ (by omega)]
      simp only [List.drop_left]
      rw [if_neg (by omega), (h.rep xs.length).cut xs _ ⟨rfl, ho⟩ (by omega)]
end Go.Proofs.YtocphdikppeijaaGreat

namespace Go.Proofs.YtocphdikppeijaaGreat
open Go.RowKit
set_option linter.unusedVariables false
set_option linter.unusedSimpArgs false

def txtB (t : ByteArray) : List UInt8 := enc t.size ++ t.data.toList
theorem txtB_len (t : ByteArray) : (txtB t).length ≤ t.size + 10 := by
  unfold txtB
  have h := enc_le t.size
  have hsz : t.data.toList.length = t.size := by rw [Array.length_toList]; rfl
  rw [List.length_append]; omega
theorem bytes_len (t : ByteArray) : t.data.toList.length = t.size := by rw [Array.length_toList]; rfl
theorem bytes_eta (t : ByteArray) : (⟨t.data.toList.toArray⟩ : ByteArray) = t := by
  apply ByteArray.ext; simp

def rdTP (l : List UInt8) : Except Int (ByteArray × Nat) :=
  match rdP 8 0 0 l with
  | .error e => .error e
  | .ok (n, c) => if 1048576 < n then .error 4 else if l.length < c + n then .error 10 else .ok (⟨((l.drop c).take n).toArray⟩, c + n)

theorem codecText : Codec txtB rdTP (fun t => t.size ≤ 1048576) := by
  refine ⟨?_, ?_, ?_⟩
  · intro t post h
    unfold rdTP txtB
    have hb := bytes_len t
    rw [List.append_assoc, codecNum.there t.size _ (by omega)]
    simp only [List.drop_left]
    rw [if_neg (by omega), if_neg (by simp only [List.length_append]; omega)]
    have e : (t.data.toList ++ post).take t.size = t.data.toList := by rw [← hb]; simp
    rw [e, bytes_eta]
    simp only [List.length_append, hb]
  · intro l t c h
    unfold rdTP at h
    cases e1 : rdP 8 0 0 l with
    | error e => rw [e1] at h; cases h
    | ok p =>
      obtain ⟨n, c1⟩ := p
      rw [e1] at h
      simp only at h
      split at h
      · cases h
      · split at h
        · cases h
        · rename_i h1 h2
          simp only [Except.ok.injEq, Prod.mk.injEq] at h
          obtain ⟨rfl, rfl⟩ := h
          obtain ⟨o1, k1, t1, n1⟩ := codecNum.back _ _ _ e1
          have hlen : ((l.drop c1).take n).length = n := by rw [List.length_take, List.length_drop]; omega
          have hsz : (⟨((l.drop c1).take n).toArray⟩ : ByteArray).size = n := by
            show ((l.drop c1).take n).toArray.size = n
            simpa using hlen
          unfold txtB
          rw [hsz]
          refine ⟨by omega, ?_, ?_, by omega⟩
          · rw [List.length_append]
            simp only [hlen]
            omega
          · rw [List.take_add, t1]
  · intro t j h hj
    unfold rdTP txtB at *
    have hb := bytes_len t
    rw [List.length_append] at hj
    by_cases hc : j < (enc t.size).length
    · rw [List.take_append_of_le_length (by omega), codecNum.cut t.size j (by omega) hc]
    · have e : (enc t.size ++ t.data.toList).take j = enc t.size ++ t.data.toList.take (j - (enc t.size).length) := by
        rw [List.take_append, List.take_of_length_le (by omega)]
      rw [e, codecNum.there t.size _ (by omega)]
      simp only
      rw [if_neg (by omega), if_pos (by rw [List.length_append, List.length_take]; omega)]
theorem heap_alloc_last (w : World) (o : Obj) : (w.alloc o).heap[w.heap.size]? = some o := heap_alloc_new w o

theorem cellOf {w : World} {k o : Nat} {cs : Array Value} {t : TypeId} {fr : Nat × Nat} {v : Value} (h : w.heap[k]? = some (.cells cs t fr)) (hv : cs[o]? = some v) : w.cell? ⟨k, o, none⟩ = some v := by
  simp [World.cell?, h, hv]
end Go.Proofs.YtocphdikppeijaaGreat

namespace Go.Proofs.YtocphdikppeijaaGreat
open Go.RowKit
set_option linter.unusedVariables false
set_option linter.unusedSimpArgs false

structure Sg where
  frm : Int
  body : ByteArray
  sig : ByteArray

def Sg.val (m : Sg) : Value := .agg #[.int .i64 m.frm, .string m.body, .string m.sig]
def sgOk (m : Sg) : Bool := decide (0 ≤ m.frm ∧ m.frm ≤ 255) && decide (m.body.size ≤ 1048576) && decide (m.sig.size ≤ 32)

theorem isSigned_calls (m : Sg) (w : World) (h1 : m.body.size ≤ maxLen) (h2 : m.sig.size ≤ maxLen) :
    Calls Tryz.prog 91 #[m.val] w fun e w' => e = .returned (.bool (sgOk m)) ∧ Below w.heap.size w w' := by
  obtain ⟨f, b, g⟩ := m
  simp only at h1 h2
  unfold maxLen at h1 h2
  unfold sgOk Sg.val
  simp only
  have hw := fun wx => within_calls f 255 wx
  have HW : Hid _ := hw
  clear hw
  by_cases h0 : 0 ≤ f ∧ f ≤ 255
  · have e0 : decide (0 ≤ f ∧ f ≤ 255) = true := by simpa using h0
    have e1 : decide (0 ≤ f) = true := by simpa using h0.1
    have e2 : decide (f ≤ 255) = true := by simpa using h0.2
    by_cases hb : b.size ≤ 1048576
    · have hd : decide ((b.size : Int) ≤ 1048576) = true := by simp only [decide_eq_true_eq]; omega
      go_enter Tryz.func91, Tryz.ntmps91
      go_wp2_with fail
      refine (HW.out _).mono ?_
      rintro e w1 ⟨rfl, rfl⟩
      go_wp2
      go_ret
      exact ⟨by simp [h0, hb]; omega, by go_grown⟩
    · have hd : decide ((b.size : Int) ≤ 1048576) = false := by simp only [decide_eq_false_iff_not]; omega
      go_enter Tryz.func91, Tryz.ntmps91
      go_wp2_with fail
      refine (HW.out _).mono ?_
      rintro e w1 ⟨rfl, rfl⟩
      go_wp2
      go_ret
      exact ⟨by simp [h0, hb], by go_grown⟩
  · have e0 : decide (0 ≤ f ∧ f ≤ 255) = false := by simpa using h0
    rw [e0] at HW
    go_enter Tryz.func91, Tryz.ntmps91
    go_wp2_with fail
    refine (HW.out _).mono ?_
    rintro e w1 ⟨rfl, rfl⟩
    go_wp2
    go_ret
    exact ⟨by simp [h0], by go_grown⟩

/-- A slice of messages: its cells. -/
def Sgs (w : World) (v : Value) (l : List Sg) : Prop :=
  ((∃ p c, v = .slice p 0 c) ∧ l = []) ∨
  ∃ b off cap, v = .slice (some ⟨b, off, none⟩) l.length cap ∧ ∀ i (h : i < l.length),
    w.cell? ⟨b, off + i * 3, none⟩ = some (.int .i64 l[i].frm) ∧ w.cell? ⟨b, off + i * 3 + 1, none⟩ = some (.string l[i].body) ∧ w.cell? ⟨b, off + i * 3 + 2, none⟩ = some (.string l[i].sig) ∧
    l[i].body.size ≤ maxLen ∧ l[i].sig.size ≤ maxLen

theorem Sgs.below {w w' : World} {v : Value} {l : List Sg} (h : Sgs w v l) (hb : Below w.heap.size w w') : Sgs w' v l := by
  rcases h with h | ⟨b, off, cap, hv, hc⟩
  · exact Or.inl h
  · refine Or.inr ⟨b, off, cap, hv, fun i hi => ?_⟩
    obtain ⟨h1, h2, h3, h4⟩ := hc i hi
    have hlt := World.block_lt_of_cell? w _ h1
    exact ⟨(hb.cell (p := ⟨b, off + i * 3, none⟩) hlt).trans h1, (hb.cell (p := ⟨b, off + i * 3 + 1, none⟩) hlt).trans h2, (hb.cell (p := ⟨b, off + i * 3 + 2, none⟩) hlt).trans h3, h4⟩

theorem areSigned_calls (v : Value) (l : List Sg) (w : World) (h : Sgs w v l) (hl : l.length < 9223372036854775807) :
    Calls Tryz.prog 125 #[v] w fun e w' => e = .returned (.bool (l.all sgOk)) ∧ Below w.heap.size w w' := by
  rcases h with ⟨⟨pz, cz, rfl⟩, rfl⟩ | ⟨b, off, cap, rfl, hc⟩
  · go_enter Tryz.func125, Tryz.ntmps125
    go_wp2
    refine wp_loop_rounds 1 ?_
    rw [rounds_succ]
    go_wp2
    go_ret
    exact ⟨rfl, Below.refl _ _⟩
  · have hnot : ∀ (x : Bool) (w : World), (Op.unary .not (.bool x)).run Tryz.prog w = .ok (.bool (!x)) w := fun _ _ => rfl
    have HC : Hid _ := hc
    clear hc
    go_enter Tryz.func125, Tryz.ntmps125
    go_wp2
    go_loopw [7] (fun i wr => ∃ k : Nat, k ≤ l.length ∧ i = .int .i64 k ∧ Hid (l.all sgOk = (l.drop k).all sgOk) ∧ Below w.heap.size w wr) (fun i _ => l.length - (intOf i).toNat)
    case atStart => exact ⟨0, Nat.zero_le _, rfl, rfl, Below.refl _ _⟩
    case round =>
      obtain ⟨k, hk, rfl, hR, hb⟩ := hrel
      by_cases hlt : k < l.length
      · have hd : decide ((k : Int) < l.length) = true := by simp only [decide_eq_true_eq]; omega
        obtain ⟨c1, c2, c3, z1, z2⟩ := HC.out k hlt
        have hbl := World.block_lt_of_cell? w _ c1
        have d1 := (hb.cell (p := ⟨b, off + k * 3, none⟩) hbl).trans c1
        have d2 := (hb.cell (p := ⟨b, off + k * 3 + 1, none⟩) hbl).trans c2
        have d3 := (hb.cell (p := ⟨b, off + k * 3 + 2, none⟩) hbl).trans c3
        have hdr : l.drop k = l[k] :: l.drop (k + 1) := List.drop_eq_getElem_cons hlt
        have HD : Hid _ := hdr
        have his := fun wx => isSigned_calls l[k] wx z1 z2
        have HI : Hid _ := his
        clear hdr his c1 c2 c3
        go_wp2_with fail
        refine (HI.out _).mono ?_
        rintro e w1 ⟨rfl, hb1⟩
        have hbw : Below w.heap.size w w1 := by
          have hz := hb.size
          exact (hb.alloc (by omega) _).trans (hb1.mono (by simp; omega))
        by_cases hok : sgOk l[k] = true
        · rw [hok]
          go_wp2
          go_roundw
          case rel =>
            refine ⟨k + 1, by omega, by go_num, ?_, hbw⟩
            show _ = _
            rw [hR.out, HD.out, List.all_cons, hok]; simp
          case measure => simp [intOf]; omega
        · have hno : sgOk l[k] = false := by simpa using hok
          have hfin : Hid (l.all sgOk = false) := by
            show _ = _
            rw [hR.out, HD.out, List.all_cons, hno]; rfl
          rw [hno]
          go_wp2
          go_ret
          exact ⟨by rw [hfin.out]; rfl, hbw⟩
      · have hd : decide ((k : Int) < l.length) = false := by simp only [decide_eq_false_iff_not]; omega
        have hfin : Hid (l.all sgOk = true) := by
          show _ = _
          rw [hR.out, List.drop_of_length_le (by omega)]; rfl
        go_wp2
        go_ret
        exact ⟨by rw [hfin.out]; rfl, hb⟩
end Go.Proofs.YtocphdikppeijaaGreat
