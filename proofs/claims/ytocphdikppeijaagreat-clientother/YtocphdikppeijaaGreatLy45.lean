/- To all replicas; a request; time that goes on. -/
import Derived.Test.YtocphdikppeijaaGreatLy44
import Derived.Laws.MakeOwn
namespace Go.Proofs.YtocphdikppeijaaGreat
open Go.RowKit
set_option linter.unusedSimpArgs false
set_option linter.unusedVariables false

variable {p b x y : Nat} {T : List ByteArray} {S : List (Int × ByteArray)} {q tm tc : Nat} {av : Value} {C : Cs} {w0 : World}

/-- A store within the client's own block. -/
theorem St.only {w W : World} {C' : Cs} (h : St w0 w p b x y T S q tm tc av C) (hos : W.os = w.os) (htp : W.tape = w.tape) (hou : W.output = w.output) (hsz : W.heap.size = w.heap.size) (hg : ∀ j, j ≠ q → W.heap[j]? = w.heap[j]?) (hB : Blk W q (clC C' p tm av) 122) (ht : C'.told = C.told) (ha : C'.ans = C.ans) : St w0 W p b x y T S q tm tc av C' := by
  have hq := h.low
  refine ⟨⟨hos.trans h.below.os, htp.trans h.below.tape, hou.trans h.below.output, by rw [hsz]; exact h.below.size, fun j hj => (hg j (by omega)).trans (h.below.block j hj)⟩, ?_, hB, ?_, ?_, h.low, h.nx, h.ny⟩
  · exact ⟨(hg p (Ne.symm h.qp)).trans h.book.blk, (hg b (Ne.symm h.qb)).trans h.book.nums.blk, (hg x (Ne.symm h.qx)).trans h.book.nums.mx, (hg y (Ne.symm h.qy)).trans h.book.nums.my, h.book.nums.ne⟩
  · rw [ht]; exact h.map.keep (hg tm (h.map.blk h.blk))
  · rw [ha]
    refine ⟨h.row.1, ?_⟩
    rcases h.row.2 with hn | ⟨g, cap, cur, rfl, hb, hgg, rest⟩
    · exact Or.inl hn
    · refine Or.inr ⟨g, cap, cur, rfl, hb, ?_, rest⟩
      rw [hg g (fun e => by have X := h.blk; unfold Blk at X; rw [e, X] at hgg; cases hgg)]
      exact hgg
theorem St.put {w : World} {C' : Cs} (h : St w0 w p b x y T S q tm tc av C) (o : Nat) (v : Value) (hc : (clC C p tm av).setIfInBounds o v = clC C' p tm av) (ht : C'.told = C.told) (ha : C'.ans = C.ans) : St w0 (w.setCell ⟨q, o, none⟩ v) p b x y T S q tm tc av C' :=
  h.only rfl rfl rfl (by simp [World.setCell]) (fun j hj => heap_setCell_other w ⟨q, o, none⟩ j v hj) (hc ▸ h.blk.set o v) ht ha
theorem Kpt.put {v : Value} {w w1 : World} (h : St w0 w p b x y T S q tm tc av C) (hk : Kpt v w1 w) (o : Nat) (u : Value) : Kpt v w1 (w.setCell ⟨q, o, none⟩ u) :=
  hk.trans ⟨by simp [World.setCell], fun j cs t h1 h2 X => X.setOther (fun e => by have Y := h.blk; unfold Blk at X Y; simp only at e; rw [e, Y] at X; exact h1 (by simpa using (Obj.cells.inj (Option.some.inj X)).2.1.symm)) u⟩
theorem St.apart {w : World} (h : St w0 w p b x y T S q tm tc av C) {k : Nat} {o : Obj} (ho : w.heap[k]? = some o) (hne : ∀ cur, o ≠ .cells cur 82 (0, 0)) : av.ownBlock ≠ some k := fun e => by
  obtain ⟨cur, hc⟩ := own_heap h.row e
  rw [hc] at ho
  exact hne cur (Option.some.inj ho).symm

theorem infoSent : (Tryz.prog.info? 76).map (fun i => (i.zero, i.size, i.bytes)) = some (some (.agg #[.int .i64 0, .string ⟨#[]⟩]), 2, 24) := by kernel_rfl
theorem make_sent (k : Nat) (hk : k ≤ 1000) (W : World) : ∃ cs : Array Value, cs.size = k * 2 ∧ (∀ j, j < k * 2 → ∃ u, cs[j]? = some u) ∧ (Instr.makeSlice 72 (.int .i64 (k : Int)) (.int .i64 (k : Int))).run Tryz.prog W = .ok (.slice (some ⟨W.heap.size, 0, none⟩) k k) (W.alloc (.cells cs 76)) := by
  obtain ⟨i0, hi, hz0, hz1, hz2⟩ := info_parts infoSent
  have h := run_make (P := Tryz.prog) W 72 76 i0 _ Tryz.underlying72 hi hz0 .i64 .i64 (k : Int) (k : Int) (by omega) (by omega) (by rw [hz2]; omega) (by omega)
  rw [hz1, Int.toNat_natCast] at h
  exact ⟨_, size_madeCells _ _, fun j hj => ⟨_, Array.getElem?_eq_getElem (by rw [size_madeCells]; exact hj)⟩, h⟩

/-- A text to each of the first n. -/
def SentTo (w : World) (v : Value) (n : Nat) (s : ByteArray) : Prop :=
  ∃ g, v = .slice (some ⟨g, 0, none⟩) n n ∧ ∃ cs, Blk w g cs 76 ∧ ∀ j, j < n → cs[j * 2]? = some (.int .i64 (j : Int)) ∧ cs[j * 2 + 1]? = some (.string s)
theorem SentTo.below {w w' : World} {v : Value} {n : Nat} {s : ByteArray} (h : SentTo w v n s) (k : Below w.heap.size w w') : SentTo w' v n s := by
  obtain ⟨g, hv, cs, X, hc⟩ := h
  exact ⟨g, hv, cs, X.below k, hc⟩
theorem SentTo.off2 {w w' : World} {v : Value} {n : Nat} {s : ByteArray} (h : SentTo w v n s) (hB : Book w p b x y T S) (ho : Off2 x y w w') : SentTo w' v n s := by
  obtain ⟨g, hv, cs, X, hc⟩ := h
  exact ⟨g, hv, cs, (Kpt.of_off2 (v := .slice none 0 0) hB ho).blk g cs _ (by decide) (by simp [Value.ownBlock]) X, hc⟩

set_option maxHeartbeats 2000000 in
set_option maxRecDepth 100000 in
theorem toAll_calls (s : ByteArray) (w : World) (h : St w0 w p b x y T S q tm tc av C) (f : Nat) (hf : C.cf = f) (hf1 : f ≤ 4) :
    Calls Tryz.prog 52 #[.pointer (some ⟨q, 0, none⟩), .string s] w fun e w' => ∃ v, e = .returned v ∧ SentTo w' v (3 * f + 1) s ∧ Below w.heap.size w w' := by
  have c0 : w.cell? ⟨q, 0, none⟩ = some (.int .i64 C.cf) := h.blk.cell rfl
  have c1 : w.cell? ⟨q, 1, none⟩ = some (.int .i64 C.cc) := h.blk.cell rfl
  have c2 : w.cell? ⟨q, 2, none⟩ = some (.int .i64 C.cg) := h.blk.cell rfl
  have c3 : w.cell? ⟨q, 3, none⟩ = some (.int .i64 C.cp) := h.blk.cell rfl
  rw [hf] at c0
  have HSz : Hid (∀ wx, Calls Tryz.prog 30 #[.agg #[.int .i64 (f : Int), .int .i64 C.cc, .int .i64 C.cg, .int .i64 C.cp]] wx fun e w' => e = .returned (.int .i64 ((3 * f + 1 : Nat) : Int)) ∧ Below wx.heap.size wx w') := fun wx => by
    have := size_calls f C.cc C.cg C.cp wx (by omega) (by omega)
    rw [show ((3 * f + 1 : Nat) : Int) = 3 * (f : Int) + 1 from by push_cast; rfl]
    exact this
  have hn : 3 * f + 1 ≤ 13 := by omega
  obtain ⟨n, hN⟩ : ∃ n, 3 * f + 1 = n := ⟨_, rfl⟩
  rw [hN] at HSz hn ⊢
  have HF : Hid _ := hf
  clear hf hN
  go_enter Tryz.func52, Tryz.ntmps52
  go_wp2_with fail
  refine Calls.mono (HSz.out _) ?_
  rintro e w1 ⟨rfl, b1⟩
  obtain ⟨cs0, hcs, hcu, hmk⟩ := make_sent n (by omega) w1
  have HC0 : Hid (∀ j, j < n * 2 → ∃ u, cs0[j]? = some u) := hcu
  have HZ0 : Hid (cs0.size = n * 2) := hcs
  have X0 := blk_new w1 w1.heap.size cs0 76 rfl
  obtain ⟨W2, hW2⟩ : ∃ W2, w1.alloc (.cells cs0 76) = W2 := ⟨_, rfl⟩
  rw [hW2] at X0 hmk
  have B2 : Below w.heap.size w W2 := chainC b1 (by rw [← hW2]; go_grown)
  have z1 := b1.size
  clear hcs hcu hW2
  go_wp2
  go_loopw [15] (fun i wr => ∃ (k : Nat) (cs : Array Value), k ≤ n ∧ i = .int .i64 k ∧ Hid (cs.size = n * 2) ∧ Hid (∀ j, j < k → cs[j * 2]? = some (.int .i64 (j : Int)) ∧ cs[j * 2 + 1]? = some (.string s)) ∧ Blk wr w1.heap.size cs 76 ∧ Below w.heap.size w wr) (fun i _ => n - (intOf i).toNat)
  case atStart => exact ⟨0, cs0, Nat.zero_le _, rfl, HZ0, fun j hj => absurd hj (Nat.not_lt_zero _), X0, B2⟩
  case round =>
    obtain ⟨k, cs, hk, rfl, HZ, HC, X, br⟩ := hrel
    by_cases hlt : k < n
    · have hd : decide ((k : Int) < n) = true := by simp only [decide_eq_true_eq]; omega
      have q0 : wr.cell? ⟨w1.heap.size, k * 2, none⟩ = some (cs[k * 2]'(by have := HZ.out; omega)) := X.cell (Array.getElem?_eq_getElem _)
      have f0 : wr.frozen? ⟨w1.heap.size, k * 2, none⟩ = false := X.frozen
      have X2 := X.set (k * 2) (.int .i64 (k : Int))
      have q1 : (wr.setCell ⟨w1.heap.size, k * 2, none⟩ (.int .i64 (k : Int))).cell? ⟨w1.heap.size, k * 2 + 1, none⟩ = some (cs[k * 2 + 1]'(by have := HZ.out; omega)) := X2.cell (by rw [Array.getElem?_setIfInBounds_ne (by omega)]; exact Array.getElem?_eq_getElem _)
      have f1 : (wr.setCell ⟨w1.heap.size, k * 2, none⟩ (.int .i64 (k : Int))).frozen? ⟨w1.heap.size, k * 2 + 1, none⟩ = false := X2.frozen
      have HX3 : Hid (Blk ((wr.setCell ⟨w1.heap.size, k * 2, none⟩ (.int .i64 (k : Int))).setCell ⟨w1.heap.size, k * 2 + 1, none⟩ (.string s)) w1.heap.size ((cs.setIfInBounds (k * 2) (.int .i64 (k : Int))).setIfInBounds (k * 2 + 1) (.string s)) 76) := X2.set (k * 2 + 1) (.string s)
      have HB3 : Hid (Below w.heap.size w ((wr.setCell ⟨w1.heap.size, k * 2, none⟩ (.int .i64 (k : Int))).setCell ⟨w1.heap.size, k * 2 + 1, none⟩ (.string s))) := (br.setCell (p := ⟨w1.heap.size, k * 2, none⟩) z1 _).setCell (p := ⟨w1.heap.size, k * 2 + 1, none⟩) z1 _
      clear X2
      go_wp2
      refine ⟨⟨k + 1, _, by omega, by norm_cast, ?_, ?_, HX3.out, HB3.out⟩, by simp [intOf]; omega⟩
      · show _ = _
        simp [HZ.out]
      · show ∀ j, _
        intro j hj
        have hz := HZ.out
        by_cases e : j = k
        · subst e
          constructor
          · rw [Array.getElem?_setIfInBounds_ne (by omega), Array.getElem?_setIfInBounds_self_of_lt (by omega)]
          · rw [Array.getElem?_setIfInBounds_self_of_lt (by simp; omega)]
        · rw [Array.getElem?_setIfInBounds_ne (by omega), Array.getElem?_setIfInBounds_ne (by omega), Array.getElem?_setIfInBounds_ne (by omega), Array.getElem?_setIfInBounds_ne (by omega)]
          exact HC.out j (by omega)
    · have hd : decide ((k : Int) < n) = false := by simp only [decide_eq_false_iff_not]; omega
      have : k = n := by omega
      have HK : Hid _ := this
      clear this
      go_wp2
      go_ret
      exact ⟨_, rfl, ⟨_, rfl, cs, X, fun j hj => HC.out j (by have := HK.out; omega)⟩, br⟩
end Go.Proofs.YtocphdikppeijaaGreat

namespace Go.Proofs.YtocphdikppeijaaGreat
open Go.RowKit
set_option linter.unusedSimpArgs false
set_option linter.unusedVariables false

/-- A body with a client, a stamp and a text alone. -/
def smB (k c s : Int) (t : ByteArray) : Bd := ⟨k, 0, 0, c, s, ⟨#[]⟩, t, []⟩
theorem flds_small (k c s : Int) (t : ByteArray) : flds (smB k c s t) = (c != 0).toNat * 4 + (s != 0).toNat * 8 + (!t.toList.isEmpty).toNat * 32 := by
  unfold flds smB
  simp
theorem small_len (k c s : Int) (t : ByteArray) (ht : t.size ≤ 256) : (bdB (smB k c s t)).length ≤ 400 := by
  unfold bdB smB
  simp only [List.length_append, List.length_nil]
  have h0 := enc_le k.toNat
  have h1 := enc_le (0 : Int).toNat
  have h2 := enc_le c.toNat
  have h3 := enc_le s.toNat
  have h4 := txtB_len ⟨#[]⟩
  have h5 := txtB_len t
  have h6 := enc_le 0
  have h7 : (sgsB []).length = 0 := rfl
  have h8 : (⟨#[]⟩ : ByteArray).size = 0 := rfl
  omega
theorem right_small (k may must tx : Nat) (c s : Int) (t : ByteArray) (hk : shapeN k = some ⟨may, must, 15, 1, tx, 64⟩) (hc : 0 ≤ c ∧ c ≤ 15) (hs : 0 ≤ s ∧ s ≤ 1099511627776) (ht : t.size ≤ tx)
    (hb : ∀ (a e : Bool), bits .andNot .i64 ((a.toNat * 4 + (s != 0).toNat * 8 + e.toNat * 32 : Nat) : Int) may = 0 ∧ bits .andNot .i64 must ((a.toNat * 4 + (s != 0).toNat * 8 + e.toNat * 32 : Nat) : Int) = 0) : right (smB k c s t) = 0 := by
  have h1 : shape (smB k c s t).kind = some ⟨may, must, 15, 1, tx, 64⟩ := by
    show shape (k : Int) = _
    unfold shape
    rw [if_pos (by omega), Int.toNat_natCast, hk]
  unfold right
  rw [h1]
  have h2 : badBits (smB k c s t) ⟨may, must, 15, 1, tx, 64⟩ = false := by
    unfold badBits
    rw [flds_small]
    have := hb (c != 0) (!t.toList.isEmpty)
    simp only [this.1, this.2]
    rfl
  have h3 : fitsN (smB k c s t) ⟨may, must, 15, 1, tx, 64⟩ = true := by
    unfold fitsN smB
    simp only [Bool.and_eq_true, decide_eq_true_eq, beq_iff_eq]
    refine ⟨⟨⟨⟨⟨by omega, by omega⟩, by omega, by omega⟩, ?_⟩, hc.1, by simpa using hc.2⟩, hs.1, hs.2⟩
    rfl
  have h4 : fitsT (smB k c s t) ⟨may, must, 15, 1, tx, 64⟩ = true := by
    unfold fitsT smB
    simp only [Bool.and_eq_true, decide_eq_true_eq, List.all_nil, and_true]
    refine ⟨⟨by decide, by simpa using ht⟩, by simp⟩
  simp only [h2, h3, h4]
  rfl
theorem byE_small {d : Bd} (h : right d = 0) (hl : (bdB d).length ≤ 400) : byE d = 0 := by
  unfold byE
  rw [if_pos h, if_neg (by omega)]
theorem request_right (c s : Int) (t : ByteArray) (hc : 0 ≤ c ∧ c ≤ 15) (hs : 1 ≤ s ∧ s ≤ 1099511627776) (ht : t.size ≤ 256) : byE (smB 1 c s t) = 0 := by
  have e : (s != 0) = true := by simp; omega
  refine byE_small (right_small 1 44 8 256 c s t rfl hc (by omega) ht fun a e2 => ?_) (small_len _ _ _ _ ht)
  rw [e]
  cases a <;> cases e2 <;> exact ⟨by decide +kernel, by decide +kernel⟩
theorem reply_right (c s : Int) (t : ByteArray) (hc : 0 ≤ c ∧ c ≤ 15) (hs : 1 ≤ s ∧ s ≤ 1099511627776) (ht : t.size ≤ 256) : byE (smB 10 c s t) = 0 := by
  have e : (s != 0) = true := by simp; omega
  refine byE_small (right_small 10 45 8 256 c s t rfl hc (by omega) ht fun a e2 => ?_) (small_len _ _ _ _ ht)
  rw [e]
  cases a <;> cases e2 <;> exact ⟨by decide +kernel, by decide +kernel⟩
theorem ask_right (c : Int) (t : ByteArray) (hc : 0 ≤ c ∧ c ≤ 15) (ht : t.size ≤ 64) : byE (smB 12 c 0 t) = 0 := by
  refine byE_small (right_small 12 36 0 64 c 0 t rfl hc (by omega) ht fun a e2 => ?_) (small_len _ _ _ _ (by omega))
  cases a <;> cases e2 <;> exact ⟨by decide +kernel, by decide +kernel⟩

/-- What a client hears in bytes. -/
def heard (C : Cs) (S : List (Int × ByteArray)) (s : ByteArray) : Option (Int × ByteArray) :=
  match ofSgR s with
  | .error _ => none
  | .ok m =>
    match openR S m with
    | .error _ => none
    | .ok d => if m.frm < 3 * C.cf + 1 ∧ (d.kind = 10 ∧ d.client = C.id ∧ d.stamp = C.stamp) ∧ rgot C.told m.frm = false then some (m.frm, d.text) else none
def Cs.hear (C : Cs) : Option (Int × ByteArray) → Cs
  | none => C
  | some x => if C.cf < (alk (C.told ++ [x]) x.2 : Int) then { C with told := [], asked := ⟨#[]⟩, ans := C.ans ++ [(C.stamp, x.2)] } else { C with told := C.told ++ [x] }
def Cs.recv (C : Cs) (S : List (Int × ByteArray)) (s : ByteArray) : Option (Int × ByteArray) := if C.waits = true then heard C S s else none
theorem heard_reply (C : Cs) (S : List (Int × ByteArray)) (who c st : Int) (t : ByteArray) (hw : isSg who = true) (hc : 0 ≤ c ∧ c ≤ 15) (hs : 1 ≤ st ∧ st ≤ 1099511627776) (ht : t.size ≤ 256) :
    heard C (note S (who, byS (smB 10 c st t))) ⟨(sgB (sgM S who (smB 10 c st t))).toArray⟩ = if who < 3 * C.cf + 1 ∧ (c = C.id ∧ st = C.stamp) ∧ rgot C.told who = false then some (who, t) else none := by
  unfold heard
  rw [of_sgM S who _ hw]
  simp only []
  rw [open_sgM S who _ hw (reply_right c st t hc hs ht)]
  simp only [smB, sgM, true_and]
end Go.Proofs.YtocphdikppeijaaGreat

namespace Go.Proofs.YtocphdikppeijaaGreat
open Go.RowKit
set_option linter.unusedSimpArgs false
set_option linter.unusedVariables false

variable {p b x y : Nat} {T : List ByteArray} {S : List (Int × ByteArray)} {q tm tc : Nat} {av : Value} {C : Cs} {w0 : World}

def Cs.ask (C : Cs) (s : ByteArray) : Cs := { C with stamp := C.stamp + 1, asked := s, ticks := 0 }
/-- The client behind a store of one of its numbers or texts. -/
theorem put_named {w : World} {C' : Cs} (h : St w0 w p b x y T S q tm tc av C) (o : Nat) (v : Value) (hc : (clC C p tm av).setIfInBounds o v = clC C' p tm av) (ht : C'.told = C.told) (ha : C'.ans = C.ans) :
    ∃ W, w.setCell ⟨q, o, none⟩ v = W ∧ St w0 W p b x y T S q tm tc av C' ∧ ∀ v1 w1, Kpt v1 w1 w → Kpt v1 w1 W := ⟨_, rfl, h.put o v hc ht ha, fun v1 w1 hk => Kpt.put h hk o v⟩

set_option maxHeartbeats 2000000 in
set_option maxRecDepth 100000 in
theorem request_ok (op : ByteArray) (w : World) (h : St w0 w p b x y T S q tm tc av C) (hS : S.length < 1000000) (f : Nat) (hf : C.cf = f) (hf1 : f ≤ 4) (hi : 0 ≤ C.id ∧ C.id ≤ 15) (hs : 0 ≤ C.stamp ∧ C.stamp < 1099511627776) (ho : op.size ≤ 256) (hw : C.waits = false) :
    Calls Tryz.prog 21 #[.pointer (some ⟨q, 0, none⟩), .string op] w fun e w' => ∃ v, e = .returned (.tuple #[v, .int .i64 0]) ∧ SentTo w' v (3 * f + 1) ⟨(sgB (sgM S (100 + C.id) (smB 1 C.id (C.stamp + 1) op))).toArray⟩ ∧ St w0 w' p b x y T (note S (100 + C.id, byS (smB 1 C.id (C.stamp + 1) op))) q tm tc av (C.ask ⟨(sgB (sgM S (100 + C.id) (smB 1 C.id (C.stamp + 1) op))).toArray⟩) ∧ Kpt av w w' := by
  have HMa : Hid _ := madeC_calls w h
  have HWa : Hid _ := waits_calls w h
  rw [hw] at HWa
  have c6 : w.cell? ⟨q, 6, none⟩ = some (.int .i64 C.stamp) := h.blk.cell rfl
  have hsz : decide (256 < (op.size : Int)) = false := decide_eq_false (by omega)
  have hst : decide (C.stamp = 1099511627776) = false := decide_eq_false (by omega)
  have hst2 : (C.stamp == 1099511627776) = false := hst
  have e1 : IntKind.i64.wrap (C.stamp + 1) = C.stamp + 1 := wrapC (by omega) (by omega)
  obtain ⟨sM, hM⟩ : ∃ sM, (⟨(sgB (sgM S (100 + C.id) (smB 1 C.id (C.stamp + 1) op))).toArray⟩ : ByteArray) = sM := ⟨_, rfl⟩
  obtain ⟨S', hS'⟩ : ∃ S', note S (100 + C.id, byS (smB 1 C.id (C.stamp + 1) op)) = S' := ⟨_, rfl⟩
  have HSi : Hid (∀ wx, St w0 wx p b x y T S q tm tc av C → Calls Tryz.prog 51 #[.pointer (some ⟨q, 0, none⟩), .agg #[.int .i64 1, .int .i64 0, .int .i64 0, .int .i64 C.id, .int .i64 (C.stamp + 1), .string ⟨#[]⟩, .string op, .slice none 0 0]] wx fun e w' => e = .returned (.tuple #[.string sM, .int .i64 0]) ∧ St w0 w' p b x y T S' q tm tc av C ∧ Kpt av wx w') := fun wx hx => by
    have := signedC_calls (smB 1 C.id (C.stamp + 1) op) wx hx hS rfl (show (⟨#[]⟩ : ByteArray).size ≤ maxLen by decide) (by unfold smB maxLen; show op.size ≤ _; omega) (request_right _ _ _ hi (by omega) ho) (by omega)
    rw [hM, hS'] at this
    exact this
  rw [hM, hS']
  have HD : Hid (St w0 w.drew p b x y T S q tm tc av C) := h.keep (by go_grown)
  have HKd : Hid (Kpt av w w.drew) := Kpt.of_below (by go_grown)
  clear hM hS' hw hst
  go_enter Tryz.func21, Tryz.ntmps21
  go_wp2_with fail
  refine Calls.mono HMa.out ?_
  rintro e w2 ⟨rfl, rfl⟩
  go_wp2_with fail
  refine Calls.mono HWa.out ?_
  rintro e w2 ⟨rfl, rfl⟩
  go_wp2
  -- HEAD OF request
  refine wp_region_held_drew (S := (fun wx => wx.cell? ⟨q, 4, none⟩ = some (.int .i64 C.id) ∧ wx.cell? ⟨q, 6, none⟩ = some (.int .i64 C.stamp))) (by kernel_rfl) ⟨h.blk.cell rfl, h.blk.cell rfl⟩ (fun hS => ?_)
  refine wpAnyH_take (i := 0) (v := (.pointer (some ⟨q, 0, none⟩))) rfl (by kernel_rfl) (by kernel_rfl) (by kernel_rfl) (fun _ _ _ h => h) (Or.inl ⟨by kernel_rfl, fun w hS => by obtain ⟨s0, s1⟩ := hS; go_simp⟩) hS ?_
  refine wpAnyH_take (i := 1) (v := (.pointer (some ⟨q, 0, none⟩))) rfl (by kernel_rfl) (by kernel_rfl) (by kernel_rfl) (fun _ _ _ h => h) (Or.inl ⟨by kernel_rfl, fun w hS => by obtain ⟨s0, s1⟩ := hS; go_simp⟩) hS ?_
  refine wpAnyH_take (i := 2) (v := (.pointer (some ⟨q, 0, none⟩))) rfl (by kernel_rfl) (by kernel_rfl) (by kernel_rfl) (fun _ _ _ h => h) (Or.inl ⟨by kernel_rfl, fun w hS => by obtain ⟨s0, s1⟩ := hS; go_simp⟩) hS ?_
  refine wpAnyH_take (i := 3) (v := (.pointer (some ⟨q, 4, none⟩))) rfl (by kernel_rfl) (by kernel_rfl) (by kernel_rfl) (fun _ _ _ h => h) (Or.inl ⟨by kernel_rfl, fun w hS => by obtain ⟨s0, s1⟩ := hS; go_simp⟩) hS ?_
  refine wpAnyH_take (i := 4) (v := (.int .i64 C.id)) rfl (by kernel_rfl) (by kernel_rfl) (by kernel_rfl) (fun _ _ _ h => h) (Or.inl ⟨by kernel_rfl, fun w hS => by obtain ⟨s0, s1⟩ := hS; go_simp⟩) hS ?_
  refine wpAnyH_take (i := 5) (v := (.pointer (some ⟨q, 0, none⟩))) rfl (by kernel_rfl) (by kernel_rfl) (by kernel_rfl) (fun _ _ _ h => h) (Or.inl ⟨by kernel_rfl, fun w hS => by obtain ⟨s0, s1⟩ := hS; go_simp⟩) hS ?_
  refine wpAnyH_take (i := 6) (v := (.pointer (some ⟨q, 0, none⟩))) rfl (by kernel_rfl) (by kernel_rfl) (by kernel_rfl) (fun _ _ _ h => h) (Or.inl ⟨by kernel_rfl, fun w hS => by obtain ⟨s0, s1⟩ := hS; go_simp⟩) hS ?_
  refine wpAnyH_take (i := 7) (v := (.pointer (some ⟨q, 6, none⟩))) rfl (by kernel_rfl) (by kernel_rfl) (by kernel_rfl) (fun _ _ _ h => h) (Or.inl ⟨by kernel_rfl, fun w hS => by obtain ⟨s0, s1⟩ := hS; go_simp⟩) hS ?_
  refine wpAnyH_take (i := 8) (v := (.int .i64 C.stamp)) rfl (by kernel_rfl) (by kernel_rfl) (by kernel_rfl) (fun _ _ _ h => h) (Or.inl ⟨by kernel_rfl, fun w hS => by obtain ⟨s0, s1⟩ := hS; go_simp⟩) hS ?_
  refine wpAnyH_take (i := 9) (v := (.int .i64 (C.stamp + 1))) rfl (by kernel_rfl) (by kernel_rfl) (by kernel_rfl) (fun _ _ _ h => h) (Or.inl ⟨by kernel_rfl, fun w hS => by obtain ⟨s0, s1⟩ := hS; go_simp⟩) hS ?_
  refine wpAnyH_take (i := 10) (v := (.string op)) rfl (by kernel_rfl) (by kernel_rfl) (by kernel_rfl) (fun _ _ _ h => h) (Or.inl ⟨by kernel_rfl, fun w hS => by obtain ⟨s0, s1⟩ := hS; go_simp⟩) hS ?_
  refine wpAnyH_take (i := 11) (v := (.agg #[.int .i64 1, .int .i64 0, .int .i64 0, .int .i64 C.id, .int .i64 (C.stamp + 1), .string ⟨#[]⟩, .string op, .slice none 0 0])) rfl (by kernel_rfl) (by kernel_rfl) (by kernel_rfl) (fun _ _ _ h => h) (Or.inl ⟨by kernel_rfl, fun w hS => by obtain ⟨s0, s1⟩ := hS; go_simp⟩) hS ?_
  refine wpAnyH_ready (rs := [12]) (by kernel_rfl) (by simp) ?_
  refine AllReadyH.cons rfl (fun K hK => ?_) AllReadyH.nil
  go_simp
  refine Calls.mono (HSi.out _ HD.out) ?_
  rintro e w5 ⟨rfl, H5, k5⟩
  refine hK.out _ _ ⟨H5.blk.cell rfl, H5.blk.cell rfl⟩ (fun hS => ?_)
  clear hK
  refine wpAnyH_take (i := 13) (v := (.tuple #[.string sM, .int .i64 0])) rfl (by kernel_rfl) (by kernel_rfl) (by kernel_rfl) (fun _ _ _ h => h) (Or.inl ⟨by kernel_rfl, fun w hS => by obtain ⟨s0, s1⟩ := hS; go_simp⟩) hS ?_
  refine wpAnyH_take (i := 14) (v := (.string sM)) rfl (by kernel_rfl) (by kernel_rfl) (by kernel_rfl) (fun _ _ _ h => h) (Or.inl ⟨by kernel_rfl, fun w hS => by obtain ⟨s0, s1⟩ := hS; go_simp⟩) hS ?_
  refine wpAnyH_take (i := 15) (v := (.int .i64 0)) rfl (by kernel_rfl) (by kernel_rfl) (by kernel_rfl) (fun _ _ _ h => h) (Or.inl ⟨by kernel_rfl, fun w hS => by obtain ⟨s0, s1⟩ := hS; go_simp⟩) hS ?_
  refine wpAnyH_take (i := 16) (v := (.string sM)) rfl (by kernel_rfl) (by kernel_rfl) (by kernel_rfl) (fun _ _ _ h => h) (Or.inl ⟨by kernel_rfl, fun w hS => by obtain ⟨s0, s1⟩ := hS; go_simp⟩) hS ?_
  refine wpAnyH_take (i := 17) (v := (.int .i64 0)) rfl (by kernel_rfl) (by kernel_rfl) (by kernel_rfl) (fun _ _ _ h => h) (Or.inl ⟨by kernel_rfl, fun w hS => by obtain ⟨s0, s1⟩ := hS; go_simp⟩) hS ?_
  refine wpAnyH_done (by kernel_rfl) ?_ _
  clear hS
  -- END OF request
  have d6 : w5.cell? ⟨q, 6, none⟩ = some (.int .i64 C.stamp) := H5.blk.cell rfl
  have f6 : w5.frozen? ⟨q, 6, none⟩ = false := H5.blk.frozen
  obtain ⟨Wa, hWa, Ha, ka⟩ := put_named (C' := { C with stamp := C.stamp + 1 }) H5 6 (.int .i64 (C.stamp + 1)) rfl rfl rfl
  have d7 : Wa.cell? ⟨q, 7, none⟩ = some (.string C.asked) := Ha.blk.cell rfl
  have f7 : Wa.frozen? ⟨q, 7, none⟩ = false := Ha.blk.frozen
  obtain ⟨Wb, hWb, Hb, kb⟩ := put_named (C' := { C with stamp := C.stamp + 1, asked := sM }) Ha 7 (.string sM) rfl rfl rfl
  have d8 : Wb.cell? ⟨q, 8, none⟩ = some (.int .i64 C.ticks) := Hb.blk.cell rfl
  have f8 : Wb.frozen? ⟨q, 8, none⟩ = false := Hb.blk.frozen
  obtain ⟨W6, hW6, H6, kc⟩ := put_named (C' := C.ask sM) Hb 8 (.int .i64 0) rfl rfl rfl
  have HTo : Hid _ := toAll_calls sM W6 H6 f hf hf1
  have HK6 : Hid (Kpt av w2 W6) := kc _ _ (kb _ _ (ka _ _ (HKd.out.trans k5)))
  clear ka kb kc hf Ha Hb
  go_simp
  go_wp2_with fail
  refine Calls.mono HTo.out ?_
  rintro e w7 ⟨v, rfl, T7, b7⟩
  go_wp2
  go_ret2
  exact ⟨v, rfl, T7, H6.keep b7, HK6.out.trans (Kpt.of_below b7)⟩
end Go.Proofs.YtocphdikppeijaaGreat
