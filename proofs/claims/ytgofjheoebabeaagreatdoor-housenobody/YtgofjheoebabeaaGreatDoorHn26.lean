/- A book in memory: where an order stands; Get, Orders, New. -/
import Derived.Test.YtgofjheoebabeaaGreatDoorHn25
import Derived.Lib.SliceRun
namespace Go.Proofs.YtgofjheoebabeaaGreatDoor.Cal
open Go.Shelf Go.RowKit Go.Lib Go.Sort
set_option linter.unusedSimpArgs false
set_option linter.unusedVariables false

/-- A book: the next place, the orders. -/
structure Bo where
  nx : Int
  os : List Od
/-- What holds of each book. -/
structure BInv (B : Bo) : Prop where
  nx1 : 1 ≤ B.nx
  nx2 : B.nx ≤ 9007199254740992
  len : B.os.length ≤ 64
  may : ∀ o ∈ B.os, mayB o = true
  ids : B.os.Pairwise fun a b => a.id ≠ b.id
  pls : B.os.Pairwise fun a b => a.pl < b.pl
  pl : ∀ o ∈ B.os, 1 ≤ o.pl ∧ o.pl < B.nx
/-- All but a book's blocks is as it was. -/
structure Ofb (p : Nat) (v : Value) (w w' : World) : Prop where
  os : w'.os = w.os
  tape : w'.tape = w.tape
  output : w'.output = w.output
  size : w.heap.size ≤ w'.heap.size
  block : ∀ k, k < w.heap.size → k ≠ p → v.ownBlock ≠ some k → w'.heap[k]? = w.heap[k]?
theorem Ofb.refl (p : Nat) (v : Value) (w : World) : Ofb p v w w := ⟨rfl, rfl, rfl, Nat.le_refl _, fun _ _ _ _ => rfl⟩
theorem Ofb.of_below {p : Nat} {v : Value} {w w' : World} (h : Below w.heap.size w w') : Ofb p v w w' := ⟨h.os, h.tape, h.output, h.size, fun k hk _ _ => h.block k hk⟩
/-- Two steps; where the row lies behind the first one. -/
theorem Ofb.trans {p : Nat} {v v' : Value} {a b c : World} (h : Ofb p v a b) (hv : ∀ k, v'.ownBlock = some k → v.ownBlock = some k ∨ a.heap.size ≤ k) (k : Ofb p v' b c) : Ofb p v a c :=
  ⟨k.os.trans h.os, k.tape.trans h.tape, k.output.trans h.output, Nat.le_trans h.size k.size, fun i hi h1 h2 => (k.block i (Nat.lt_of_lt_of_le hi h.size) h1 (fun e => by
    rcases hv i e with f | f
    · exact h2 f
    · omega)).trans (h.block i hi h1 h2)⟩
theorem Ofb.below {p base : Nat} {v : Value} {w0 w w' : World} (h : Ofb p v w w') (hp : base ≤ p) (hv : ∀ k, v.ownBlock = some k → base ≤ k) (k : Below base w0 w) (hB : base ≤ w.heap.size) : Below base w0 w' :=
  k.trans ⟨h.os, h.tape, h.output, h.size, fun i hi => h.block i (by omega) (by omega) (fun e => by have := hv i e; omega)⟩
theorem Blk.ofb {w w' : World} {k p : Nat} {v : Value} {cs : Array Value} {t : TypeId} (h : Blk w k cs t) (ho : Ofb p v w w') (h1 : k ≠ p) (h2 : v.ownBlock ≠ some k) : Blk w' k cs t := (ho.block k h.lt h1 h2).trans h
/-- A book: its block, the row of its orders. -/
structure Bk (w : World) (base p : Nat) (v : Value) (B : Bo) : Prop where
  blk : Blk w p #[.int .i64 B.nx, v] 107
  row : w.ownsRow base 105 6 v B.os.length (odL B.os)
  le : base ≤ p
  ne : v.ownBlock ≠ some p
  inv : BInv B
variable {base p : Nat} {v : Value} {B : Bo}
theorem Bk.below {w w' : World} (h : Bk w base p v B) (hb : Below w.heap.size w w') : Bk w' base p v B := ⟨h.blk.below hb, ownB h.row hb, h.le, h.ne, h.inv⟩
theorem Bk.ods {w : World} (h : Bk w base p v B) : Ods w v B.os := ods_own h.row
theorem Bk.rowb {w : World} (h : Bk w base p v B) : ∀ k, v.ownBlock = some k → base ≤ k := fun k hk => (h.row.lt k hk).1
/-- Behind a step: the book, what else stayed, where the row lies. -/
structure Bst (w w' : World) (base p : Nat) (v v' : Value) (B : Bo) : Prop where
  bk : Bk w' base p v' B
  of : Ofb p v w w'
  at_ : ∀ k, v'.ownBlock = some k → v.ownBlock = some k ∨ w.heap.size ≤ k
theorem Bst.same {w w' : World} (h : Bk w base p v B) (hb : Below w.heap.size w w') : Bst w w' base p v v B := ⟨h.below hb, Ofb.of_below hb, fun k hk => Or.inl hk⟩
theorem Bst.trans {a b c : World} {v1 v2 v3 : Value} {B1 B2 : Bo} (h : Bst a b base p v1 v2 B1) (k : Bst b c base p v2 v3 B2) : Bst a c base p v1 v3 B2 :=
  ⟨k.bk, h.of.trans h.at_ k.of, fun q hq => by
    rcases k.at_ q hq with e | e
    · exact h.at_ q e
    · exact Or.inr (Nat.le_trans h.of.size e)⟩
theorem Bst.after {a b c : World} {v1 v2 : Value} {B1 : Bo} (h : Bst a b base p v1 v2 B1) (k : Below b.heap.size b c) : Bst a c base p v1 v2 B1 := h.trans (Bst.same h.bk k)
theorem Bst.first {a b c : World} {v1 v2 : Value} {B1 : Bo} (h : Below a.heap.size a b) (k : Bst b c base p v1 v2 B1) : Bst a c base p v1 v2 B1 :=
  ⟨k.bk, (Ofb.of_below h).trans (fun q hq => Or.inl hq) k.of, fun q hq => by
    rcases k.at_ q hq with e | e
    · exact Or.inl e
    · exact Or.inr (Nat.le_trans h.size e)⟩
theorem Bst.below {w0 w w' : World} {v' : Value} {B' : Bo} (h : Bst w w' base p v v' B') (k : Bk w base p v B) (hb : Below base w0 w) (hB : base ≤ w.heap.size) : Below base w0 w' := h.of.below k.le k.rowb hb hB

set_option maxRecDepth 100000 in
theorem made_calls (w : World) (h : Bk w base p v B) : Calls Tryz.prog 40 #[.pointer (some ⟨p, 0, none⟩)] w fun e w' => e = .returned (.bool true) ∧ w' = w := by
  have c0 : w.cell? ⟨p, 0, none⟩ = some (.int .i64 B.nx) := h.blk.cell rfl
  have h1 := h.inv.nx1
  have hd : decide (0 < B.nx) = true := decide_eq_true (by omega)
  go_enter Tryz.func40, Tryz.ntmps40
  go_wp2
  go_ret
  exact ⟨by simp, rfl⟩
set_option maxRecDepth 100000 in
theorem made_nil (w : World) : Calls Tryz.prog 40 #[.pointer none] w fun e w' => e = .returned (.bool false) ∧ w' = w := by
  go_enter Tryz.func40, Tryz.ntmps40
  go_wp2
  go_ret
  exact ⟨rfl, rfl⟩
set_option maxRecDepth 100000 in
theorem outOf_calls (w : World) (h : Bk w base p v B) : Calls Tryz.prog 123 #[.pointer (some ⟨p, 0, none⟩)] w fun e w' => e = .returned (.bool (decide (B.nx = 9007199254740992))) ∧ w' = w := by
  have c0 : w.cell? ⟨p, 0, none⟩ = some (.int .i64 B.nx) := h.blk.cell rfl
  go_enter Tryz.func123, Tryz.ntmps123
  go_wp2
  go_ret
  exact ⟨by congr 1, rfl⟩

/-- The first that is chosen; -1: none. -/
def ixf (f : Od → Bool) (l : List Od) : Int := if l.findIdx f < l.length then (l.findIdx f : Int) else -1
set_option maxHeartbeats 4000000 in
set_option maxRecDepth 100000 in
theorem indexFunc_calls (f : Od → Bool) (g : Nat) (cb : Array Value) (v : Value) (l : List Od) (w : World) (eg : ∀ args w, (callFunc g args).run Tryz.prog w = .ok (.enter g args) w) (hl : Ods w v l) (hn : l.length ≤ 1000000)
    (hf : ∀ o wx, Below w.heap.size w wx → Calls Tryz.prog g (#[.agg (oC o).toArray] ++ cb) wx fun e w' => e = .returned (.bool (f o)) ∧ Below wx.heap.size wx w') :
    Calls Tryz.prog 145 #[v, .func (.func g) #[] cb] w fun e w' => e = .returned (.int .i64 (ixf f l)) ∧ Below w.heap.size w w' := by
  obtain ⟨pp, cap, rfl, hc⟩ := hl
  have HC : Hid _ := hc
  have HF : Hid _ := hf
  have HX : Hid (ixf f l = if l.findIdx f < l.length then (l.findIdx f : Int) else -1) := rfl
  clear hc hf
  go_enter Tryz.func145, Tryz.ntmps145
  go_wp2
  go_loopw [8] (fun i wr => ∃ k : Nat, k ≤ l.length ∧ i = .int .i64 k ∧ Hid (k ≤ l.findIdx f) ∧ Below w.heap.size w wr) (fun i _ => l.length - (intOf i).toNat)
  case atStart => exact ⟨0, Nat.zero_le _, rfl, Nat.zero_le _, Below.refl _ _⟩
  case round =>
    obtain ⟨k, hk, rfl, HK, hb⟩ := hrel
    have hz := hb.size
    by_cases hlt : k < l.length
    · have hd : decide ((k : Int) < l.length) = true := by simp only [decide_eq_true_eq]; omega
      obtain ⟨o, ho⟩ : ∃ o, l[k]? = some o := ⟨l[k], by simp [hlt]⟩
      rcases HC.out with hnil | ⟨gb, off, hp, hcs⟩
      · exfalso; rw [hnil] at hlt; simp at hlt
      subst hp
      obtain ⟨c0, c1, c2, c3, c4, c5⟩ := Ods.six hcs ho
      have hbl := World.block_lt_of_cell? w _ c0
      have d0 := (hb.cell (p := ⟨gb, off + k * 6, none⟩) hbl).trans c0
      have d1 := (hb.cell (p := ⟨gb, off + k * 6 + 1, none⟩) hbl).trans c1
      have d2 := (hb.cell (p := ⟨gb, off + k * 6 + 2, none⟩) hbl).trans c2
      have d3 := (hb.cell (p := ⟨gb, off + k * 6 + 3, none⟩) hbl).trans c3
      have d4 := (hb.cell (p := ⟨gb, off + k * 6 + 4, none⟩) hbl).trans c4
      have d5 := (hb.cell (p := ⟨gb, off + k * 6 + 5, none⟩) hbl).trans c5
      have HF1 : Hid _ := HF.out o wr hb
      have hok := List.getElem?_eq_some_iff.1 ho
      have HOK : Hid (∃ h : k < l.length, l[k] = o) := hok
      clear c0 c1 c2 c3 c4 c5 hcs ho hok
      cases hfo : f o
      · rw [hfo] at HF1
        go_wp2_with fail
        go_at_fn g
        refine Calls.mono HF1.out ?_
        rintro e w2 ⟨rfl, b2⟩
        go_wp2
        refine ⟨⟨k + 1, by omega, by norm_cast, ?_, hb.trans (b2.mono hz)⟩, by simp [intOf]; omega⟩
        show k + 1 ≤ l.findIdx f
        have h1 := HK.out
        rcases Nat.lt_or_ge k (l.findIdx f) with h2 | h2
        · exact h2
        · exfalso
          have h3 : l.findIdx f = k := by omega
          have h4 := List.findIdx_getElem (xs := l) (p := f) (w := by rw [h3]; exact hlt)
          obtain ⟨_, h5⟩ := HOK.out
          simp only [h3, h5, hfo] at h4
          cases h4
      · rw [hfo] at HF1
        go_wp2_with fail
        go_at_fn g
        refine Calls.mono HF1.out ?_
        rintro e w2 ⟨rfl, b2⟩
        go_wp2
        go_ret
        refine ⟨?_, hb.trans (b2.mono hz)⟩
        obtain ⟨_, h5⟩ := HOK.out
        have h3 : l.findIdx f = k := by
          have h1 := HK.out
          rcases Nat.lt_or_ge k (l.findIdx f) with h2 | h2
          · exfalso
            have := List.not_of_lt_findIdx (xs := l) (p := f) h2
            rw [h5, hfo] at this
            cases this
          · omega
        rw [HX.out, h3, if_pos hlt]
        rfl
    · have hd : decide ((k : Int) < l.length) = false := by simp only [decide_eq_false_iff_not]; omega
      go_wp2
      go_ret
      refine ⟨?_, hb⟩
      rw [HX.out, if_neg (by have := HK.out; omega)]
      rfl

/-- Where the order of an Id stands. -/
def fnd (l : List Od) (x : Int) : Int := ixf (fun o => o.id == x) l
set_option maxRecDepth 100000 in
theorem find1_calls (o : Od) (x : Int) (bx : Nat) (w : World) (c : w.cell? ⟨bx, 0, none⟩ = some (.int .i64 x)) : Calls Tryz.prog 146 #[.agg (oC o).toArray, .pointer (some ⟨bx, 0, none⟩)] w fun e w' => e = .returned (.bool (o.id == x)) ∧ Gr w w' := by
  have hb := World.block_lt_of_cell? w _ c
  have hlt : bx < w.heap.size := hb
  have c2 := fun ob => (((Below.refl w.heap.size w).alloc (Nat.le_refl _) ob).cell (p := ⟨bx, 0, none⟩) hb).trans c
  unfold oC
  generalize o.id = x1 at *
  generalize o.own = x2 at *
  generalize o.pr = x3 at *
  generalize o.am = x4 at *
  generalize o.pl = x5 at *
  generalize o.by = x6 at *
  go_enter Tryz.func146, Tryz.ntmps146
  go_wp2
  go_ret
  exact ⟨rfl, (Gr.refl _).alloc _⟩
set_option maxHeartbeats 1000000 in
set_option maxRecDepth 100000 in
theorem find_calls (x : Int) (w : World) (h : Bk w base p v B) : Calls Tryz.prog 122 #[.pointer (some ⟨p, 0, none⟩), .int .i64 x] w fun e w' => e = .returned (.int .i64 (fnd B.os x)) ∧ Below w.heap.size w w' := by
  have e1 : ∀ args w, (callFunc 146 args).run Tryz.prog w = .ok (.enter 146 args) w := by intro args w; kernel_rfl
  obtain ⟨W0, hW0, X0, B0, Z0⟩ : ∃ W0, (w.alloc (.cells #[.int .i64 x] 3)) = W0 ∧ Blk W0 w.heap.size #[.int .i64 x] 3 ∧ Below w.heap.size w W0 ∧ W0.heap.size = w.heap.size + 1 :=
    ⟨_, rfl, blk_new _ _ _ _ rfl, by go_grown, by simp⟩
  have c0 : W0.cell? ⟨p, 1, none⟩ = some v := (h.blk.below B0).cell rfl
  have hcx : W0.cell? ⟨w.heap.size, 0, none⟩ = some (.int .i64 x) := X0.cell rfl
  have HC : Hid _ := indexFunc_calls (fun o => o.id == x) 146 #[.pointer (some ⟨w.heap.size, 0, none⟩)] v B.os W0 e1 (h.ods.below B0) (by have := h.inv.len; omega) (fun o wx hb => (find1_calls o x w.heap.size wx ((hb.cell (p := ⟨w.heap.size, 0, none⟩) X0.lt).trans hcx)).mono fun _ _ k => ⟨k.1, k.2.below⟩)
  obtain ⟨oc, ocap, rfl⟩ := own_form h.row
  clear e1 h hcx X0
  go_enter Tryz.func122, Tryz.ntmps122
  go_wp2_with fail
  refine Calls.mono HC.out ?_
  rintro e w1 ⟨rfl, b1⟩
  go_wp2
  go_ret
  exact ⟨rfl, B0.trans (b1.mono (by omega))⟩

theorem binv_new : BInv ⟨1, []⟩ := ⟨by decide, by decide, by decide, by simp, List.Pairwise.nil, List.Pairwise.nil, by simp⟩
set_option maxRecDepth 100000 in
theorem new_calls (w : World) : Calls Tryz.prog 49 #[] w fun e w' => e = .returned (.pointer (some ⟨w.heap.size, 0, none⟩)) ∧ Bk w' w.heap.size w.heap.size (.slice none 0 0) ⟨1, []⟩ ∧ Below w.heap.size w w' := by
  go_enter Tryz.func49, Tryz.ntmps49
  go_wp2
  go_ret
  exact ⟨rfl, ⟨blk_new _ _ _ _ rfl, World.ownsRow_nil _ _ _ _, Nat.le_refl _, by simp [Value.ownBlock], binv_new⟩, (Below.refl _ _).alloc (Nat.le_refl _) _⟩
end Go.Proofs.YtgofjheoebabeaaGreatDoor.Cal

namespace Go.Proofs.YtgofjheoebabeaaGreatDoor.Cal
open Go.Shelf Go.RowKit Go.Lib Go.Sort
set_option linter.unusedSimpArgs false
set_option linter.unusedVariables false
variable {base p : Nat} {v : Value} {B : Bo}

theorem oCA_same (a b : Od) : (oC a).toArray.size = (oC b).toArray.size := rfl
theorem oCA_one (o : Od) : (oC o).toArray.all (·.oneCell') = true := by simp [oC, Value.oneCell']
theorem fnd_cases (l : List Od) (x : Int) : (fnd l x = -1 ∧ ∀ o ∈ l, o.id ≠ x) ∨ ∃ (i : Nat) (o : Od), fnd l x = i ∧ l[i]? = some o ∧ o.id = x ∧ i < l.length := by
  unfold fnd ixf
  by_cases h : l.findIdx (fun o => o.id == x) < l.length
  · right
    refine ⟨_, l[l.findIdx (fun o => o.id == x)], by rw [if_pos h], by simp [h], ?_, h⟩
    have := List.findIdx_getElem (xs := l) (p := fun o => o.id == x) (w := h)
    simpa using this
  · left
    refine ⟨by rw [if_neg h], fun o ho e => h ?_⟩
    exact List.findIdx_lt_length_of_exists ⟨o, ho, by simpa using e⟩
/-- What Get tells. -/
def gtB (l : List Od) (x : Int) : Od × Bool := match l.find? (fun o => o.id == x) with
  | some o => (o, true)
  | none => ((0, 0, 0, 0, 0, false), false)
theorem gtB_none {l : List Od} {x : Int} (h : ∀ o ∈ l, o.id ≠ x) : gtB l x = ((0, 0, 0, 0, 0, false), false) := by
  unfold gtB
  rw [List.find?_eq_none.2 (fun o ho => by simpa using h o ho)]
theorem gtB_some {l : List Od} {x : Int} {i : Nat} {o : Od} (hf : fnd l x = i) (ho : l[i]? = some o) (hx : o.id = x) : gtB l x = (o, true) := by
  have hl := (List.getElem?_eq_some_iff.1 ho).1
  have e : l.findIdx (fun o => o.id == x) = i := by
    unfold fnd ixf at hf
    split at hf <;> omega
  have h2 : l.find? (fun o => o.id == x) = some o := by
    rw [List.find?_eq_some_iff_getElem]
    obtain ⟨h3, h4⟩ := List.getElem?_eq_some_iff.1 ho
    refine ⟨by simpa using hx, i, h3, h4, fun j hj => ?_⟩
    have := List.not_of_lt_findIdx (xs := l) (p := fun o => o.id == x) (i := j) (by omega)
    simpa using this
  unfold gtB
  rw [h2]

set_option maxHeartbeats 4000000 in
set_option maxRecDepth 100000 in
theorem get_calls (x : Int) (w : World) (h : Bk w base p v B) : Calls Tryz.prog 93 #[.pointer (some ⟨p, 0, none⟩), .int .i64 x] w fun e w' => e = .returned (.tuple #[.agg (oC (gtB B.os x).1).toArray, .bool (gtB B.os x).2]) ∧ Below w.heap.size w w' := by
  obtain ⟨W0, hW0, X0, B0, Z0⟩ : ∃ W0, (w.alloc (.cells #[.int .i64 0, .int .i64 0, .int .i64 0, .int .i64 0, .int .i64 0, .bool false] 105)) = W0 ∧ Blk W0 w.heap.size #[.int .i64 0, .int .i64 0, .int .i64 0, .int .i64 0, .int .i64 0, .bool false] 105 ∧ Below w.heap.size w W0 ∧ W0.heap.size = w.heap.size + 1 :=
    ⟨_, rfl, blk_new _ _ _ _ rfl, by go_grown, by simp⟩
  have h0 := h.below B0
  have hm := made_calls W0 h0
  have HF : Hid _ := find_calls x W0 h0
  rcases fnd_cases B.os x with ⟨h1, h2⟩ | ⟨i, o, h1, h2, h3, h4⟩
  · rw [h1] at HF
    rw [gtB_none h2]
    clear h1 h2 h
    go_enter Tryz.func93, Tryz.ntmps93
    go_wp2_with fail
    refine hm.mono ?_
    rintro e w1 ⟨rfl, rfl⟩
    go_wp2_with fail
    refine Calls.mono HF.out ?_
    rintro e w2 ⟨rfl, b2⟩
    have X2 : Blk w2 w.heap.size (oC (0, 0, 0, 0, 0, false)).toArray 105 := X0.below b2
    obtain ⟨W3, hW3, X3, H3, Z3, O3⟩ := setRow_named X2 (oC (0, 0, 0, 0, 0, false)).toArray
    have q0 : W3.cell? ⟨w.heap.size, 0, none⟩ = some (.int .i64 0) := X3.cell rfl
    have q1 : W3.cell? ⟨w.heap.size, 1, none⟩ = some (.int .i64 0) := X3.cell rfl
    have q2 : W3.cell? ⟨w.heap.size, 2, none⟩ = some (.int .i64 0) := X3.cell rfl
    have q3 : W3.cell? ⟨w.heap.size, 3, none⟩ = some (.int .i64 0) := X3.cell rfl
    have q4 : W3.cell? ⟨w.heap.size, 4, none⟩ = some (.int .i64 0) := X3.cell rfl
    have q5 : W3.cell? ⟨w.heap.size, 5, none⟩ = some (.bool false) := X3.cell rfl
    go_wp2_with ((with_reducible refine st_row (ty := 105) (cs' := (oC (0, 0, 0, 0, 0, false)).toArray) X2 (infoO6 _) (oCA_same _ _) (oCA_one _) hW3 ?_ ?_ ?_); rfl; rfl)
    refine bodyPost_ret (v := .tuple #[.agg (oC (0, 0, 0, 0, 0, false)).toArray, .bool false]) (by simp [results, Tryz.results93, go_sem, q0, q1, q2, q3, q4, q5]; rfl) rfl ⟨rfl, ?_⟩
    exact below_row (B0.trans (b2.mono (by omega))) hW3 (Nat.le_refl _)
  · rw [h1] at HF
    rw [gtB_some h1 h2 h3]
    have HO : Hid _ := h2
    obtain ⟨oc, ocap, rfl⟩ := own_form h.row
    clear h1 h2 h3 h
    go_enter Tryz.func93, Tryz.ntmps93
    go_wp2_with fail
    refine hm.mono ?_
    rintro e w1 ⟨rfl, rfl⟩
    go_wp2_with fail
    refine Calls.mono HF.out ?_
    rintro e w2 ⟨rfl, b2⟩
    have X2 : Blk w2 w.heap.size (oC (0, 0, 0, 0, 0, false)).toArray 105 := X0.below b2
    have K2 := h0.below b2
    have c1 : w2.cell? ⟨p, 1, none⟩ = some (.slice oc B.os.length ocap) := K2.blk.cell rfl
    obtain ⟨pp, cap, hv, hcs⟩ := K2.ods
    injection hv with hv1 hv2 hv3
    clear hv2
    subst hv1 hv3
    rcases hcs with hnil | ⟨gb, off, hp, hcs⟩
    · exfalso; rw [hnil] at h4; simp at h4
    subst hp
    obtain ⟨d0, d1, d2, d3, d4, d5⟩ := Ods.six hcs HO.out
    obtain ⟨W3, hW3, X3, H3, Z3, O3⟩ := setRow_named X2 (oC o).toArray
    have q0 : W3.cell? ⟨w.heap.size, 0, none⟩ = some (.int .i64 o.id) := X3.cell rfl
    have q1 : W3.cell? ⟨w.heap.size, 1, none⟩ = some (.int .i64 o.own) := X3.cell rfl
    have q2 : W3.cell? ⟨w.heap.size, 2, none⟩ = some (.int .i64 o.pr) := X3.cell rfl
    have q3 : W3.cell? ⟨w.heap.size, 3, none⟩ = some (.int .i64 o.am) := X3.cell rfl
    have q4 : W3.cell? ⟨w.heap.size, 4, none⟩ = some (.int .i64 o.pl) := X3.cell rfl
    have q5 : W3.cell? ⟨w.heap.size, 5, none⟩ = some (.bool o.by) := X3.cell rfl
    have hi0 : ¬ (i : Int) < 0 := by omega
    have hi1 : (i : Int) < (B.os.length : Int) := by omega
    clear hcs
    go_wp2_with ((with_reducible refine st_row (ty := 105) (cs' := (oC o).toArray) X2 (infoO6 _) (oCA_same _ _) (oCA_one _) hW3 ?_ ?_ ?_); rfl; rfl)
    refine bodyPost_ret (v := .tuple #[.agg (oC o).toArray, .bool true]) (by simp [results, Tryz.results93, go_sem, q0, q1, q2, q3, q4, q5]; rfl) rfl ⟨rfl, ?_⟩
    exact below_row (B0.trans (b2.mono (by omega))) hW3 (Nat.le_refl _)

set_option maxHeartbeats 4000000 in
set_option maxRecDepth 100000 in
theorem clone_calls (v : Value) (l : List Od) (w : World) (hv : w.ownsRow base 105 6 v l.length (odL l)) (hn : l.length ≤ 1000000) :
    Calls Tryz.prog 41 #[v] w fun e w' => ∃ v', e = .returned v' ∧ w'.ownsRow w.heap.size 105 6 v' l.length (odL l) ∧ Below w.heap.size w w' := by
  obtain ⟨i0, hi, hz0, hz1, hz2⟩ := info_parts infoO
  rcases hv.2 with ⟨rfl, h0⟩ | ⟨g, cap, cur, rfl, hg, hB, hnc, hcm, hcs, ht⟩
  · have hl : l = [] := List.eq_nil_of_length_eq_zero h0
    subst hl
    have hq : ∀ w, (binOp .eql 38 (.slice none 0 0) (.slice none 0 0)).run Tryz.prog w = .ok (.bool true) w := fun w => Lib.run_eql_slice_nil w 38 105 none 0 0 0 0 Tryz.underlying38
    go_enter Tryz.func41, Tryz.ntmps41
    go_wp2
    go_ret
    exact ⟨_, rfl, World.ownsRow_nil _ _ _ _, Below.refl _ _⟩
  · have HB : Hid (Blk w g cur 105) := hB
    have HT : Hid (cur.toList.take (l.length * 6) = odL l) := ht
    clear hB ht hcs hv
    have hq : ∀ w, (binOp .eql 38 (.slice (some ⟨g, 0, none⟩) l.length cap) (.slice none 0 0)).run Tryz.prog w = .ok (.bool false) w := fun w => Lib.run_eql_slice_nil w 38 105 (some ⟨g, 0, none⟩) l.length cap 0 0 Tryz.underlying38
    go_enter Tryz.func41, Tryz.ntmps41
    go_wp2_with (at_builtin; refine wpList_append_own _ rfl (.tmp 5) (.tmp 6) 38 rfl w.heap.size 105 i0 (.agg #[.int .i64 0, .int .i64 0, .int .i64 0, .int .i64 0, .int .i64 0, .bool false]) 6 48 Tryz.underlying38 hi hz0 hz1 hz2 rfl (by decide) _ 0 [] rfl (World.ownsRow_made w #[] 0 (Nat.le_refl _) (by decide) rfl) ⟨g, 0, none⟩ l.length cap (odL l) rfl (odL_len l) ?c1 ?c2 ?c3 ?c4 ?c5 ?_)
    case c1 =>
      intro j u hj
      have hjl : j < l.length * 6 := by have := (List.getElem?_eq_some_iff.1 hj).1; rw [odL_len] at this; exact this
      first
        | rw [Addr.add_lit]
        | skip
      rw [← HT.out, List.getElem?_take, if_pos hjl] at hj
      have hc := Blk.cell (w := w) (k := g) (o := j) (cs := cur) (t := 105) (v := u) HB.out (by simpa using hj)
      have hc2 := (((Below.refl w.heap.size w).alloc (Nat.le_refl _) (.cells #[] 105)).cell (p := ⟨g, j, none⟩) (Blk.lt HB.out)).trans hc
      simpa using hc2
    case c2 => exact odL_one l
    case c3 => unfold maxLen; omega
    case c4 => omega
    case c5 => simp
    intro v' w6 ho' hg' _
    have HO6 : Hid _ := ho'
    clear ho'
    go_wp2
    go_ret
    refine ⟨v', rfl, ?_, belG ((Below.refl _ _).alloc (Nat.le_refl _) _) hg' (fun q hq => by simp [Value.ownBlock] at hq; omega) (by simp)⟩
    have := HO6.out
    exact this
set_option maxHeartbeats 1000000 in
set_option maxRecDepth 100000 in
theorem orders_calls (w : World) (h : Bk w base p v B) : Calls Tryz.prog 23 #[.pointer (some ⟨p, 0, none⟩)] w fun e w' => ∃ v', e = .returned v' ∧ w'.ownsRow w.heap.size 105 6 v' B.os.length (odL B.os) ∧ Below w.heap.size w w' := by
  have hm := made_calls w h
  have c1 : w.cell? ⟨p, 1, none⟩ = some v := h.blk.cell rfl
  have HC : Hid _ := clone_calls v B.os w h.row (by have := h.inv.len; omega)
  obtain ⟨oc, ocap, rfl⟩ := own_form h.row
  clear h
  go_enter Tryz.func23, Tryz.ntmps23
  go_wp2_with fail
  refine hm.mono ?_
  rintro e w1 ⟨rfl, rfl⟩
  go_wp2_with fail
  refine Calls.mono HC.out ?_
  rintro e w2 ⟨v2, rfl, own2, b2⟩
  have HO2 : Hid _ := own2
  clear own2
  go_wp2
  go_ret
  exact ⟨v2, rfl, HO2.out, b2⟩
end Go.Proofs.YtgofjheoebabeaaGreatDoor.Cal
