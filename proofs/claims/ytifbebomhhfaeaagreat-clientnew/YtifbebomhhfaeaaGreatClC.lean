/- To all replicas; a request; time that goes on. -/
import Derived.Test.YtifbebomhhfaeaaGreatClB
import Derived.Laws.MakeOwn
namespace Go.Proofs.YtifbebomhhfaeaaGreat
open Go.RowKit
set_option linter.unusedSimpArgs false
set_option linter.unusedVariables false

variable {p b x y : Nat} {T : List ByteArray} {S : List (Int × ByteArray)} {q tm tc : Nat} {av : Value} {C : Cs} {w0 : World}

/-- A store within the client's own block. -/
theorem St.only {w W : World} {C' : Cs} (h : St w0 w p b x y T S q tm tc av C) (hos : W.os = w.os) (htp : W.tape = w.tape) (hou : W.output = w.output) (hsz : W.heap.size = w.heap.size) (hg : ∀ j, j ≠ q → W.heap[j]? = w.heap[j]?) (hB : Blk W q (clC C' p tm av) 53) (ht : C'.told = C.told) (ha : C'.ans = C.ans) : St w0 W p b x y T S q tm tc av C' := by
  have hq := h.low
  refine ⟨⟨hos.trans h.below.os, htp.trans h.below.tape, hou.trans h.below.output, by rw [hsz]; exact h.below.size, fun j hj => (hg j (by omega)).trans (h.below.block j hj)⟩, ?_, hB, ?_, ?_, h.low, h.nx, h.ny⟩
  · exact ⟨(hg p (Ne.symm h.qp)).trans h.book.blk, (hg b (Ne.symm h.qb)).trans h.book.nums.blk, (hg x (Ne.symm h.qx)).trans h.book.nums.mx, (hg y (Ne.symm h.qy)).trans h.book.nums.my, h.book.nums.ne⟩
  · rw [ht]; exact h.map.keep (hg tm (h.map.blk h.blk))
  · rw [ha]
    refine ⟨h.row.1, ?_⟩
    rcases h.row.2 with hn | ⟨g, cap, cur, rfl, hb, hgg, rest⟩
    · exact Or.inl hn
    · refine Or.inr ⟨g, cap, cur, rfl, hb, ?_, rest⟩
      rw [hg g (fun e => by have X := h.blk; unfold Blk at X; rw [e, X] at hgg; cases hgg)]
      exact hgg
theorem St.put {w : World} {C' : Cs} (h : St w0 w p b x y T S q tm tc av C) (o : Nat) (v : Value) (hc : (clC C p tm av).setIfInBounds o v = clC C' p tm av) (ht : C'.told = C.told) (ha : C'.ans = C.ans) : St w0 (w.setCell ⟨q, o, none⟩ v) p b x y T S q tm tc av C' :=
  h.only rfl rfl rfl (by simp [World.setCell]) (fun j hj => heap_setCell_other w ⟨q, o, none⟩ j v hj) (hc ▸ h.blk.set o v) ht ha
theorem Kpt.put {w w1 : World} (h : St w0 w p b x y T S q tm tc av C) (hk : Kpt w1 w) (o : Nat) (v : Value) : Kpt w1 (w.setCell ⟨q, o, none⟩ v) :=
  hk.trans ⟨by simp [World.setCell], fun j cs t h1 h2 X => X.setOther (fun e => by have Y := h.blk; unfold Blk at X Y; simp only at e; rw [e, Y] at X; exact h1 (by simpa using (Obj.cells.inj (Option.some.inj X)).2.1.symm)) v⟩

theorem infoSent : (Tryz.prog.info? 82).map (fun i => (i.zero, i.size, i.bytes)) = some (some (.agg #[.int .i64 0, .string ⟨#[]⟩]), 2, 24) := by kernel_rfl
theorem make_sent (k : Nat) (hk : k ≤ 1000) (W : World) : ∃ cs : Array Value, cs.size = k * 2 ∧ (∀ j, j < k * 2 → ∃ u, cs[j]? = some u) ∧ (Instr.makeSlice 34 (.int .i64 (k : Int)) (.int .i64 (k : Int))).run Tryz.prog W = .ok (.slice (some ⟨W.heap.size, 0, none⟩) k k) (W.alloc (.cells cs 82)) := by
  obtain ⟨i0, hi, hz0, hz1, hz2⟩ := info_parts infoSent
  have h := run_make (P := Tryz.prog) W 34 82 i0 _ Tryz.underlying34 hi hz0 .i64 .i64 (k : Int) (k : Int) (by omega) (by omega) (by rw [hz2]; omega) (by omega)
  rw [hz1, Int.toNat_natCast] at h
  exact ⟨_, size_madeCells _ _, fun j hj => ⟨_, Array.getElem?_eq_getElem (by rw [size_madeCells]; exact hj)⟩, h⟩

/-- A text to each of the first n. -/
def SentTo (w : World) (v : Value) (n : Nat) (s : ByteArray) : Prop :=
  ∃ g, v = .slice (some ⟨g, 0, none⟩) n n ∧ ∃ cs, Blk w g cs 82 ∧ ∀ j, j < n → cs[j * 2]? = some (.int .i64 (j : Int)) ∧ cs[j * 2 + 1]? = some (.string s)
theorem SentTo.kpt {w w' : World} {v : Value} {n : Nat} {s : ByteArray} (h : SentTo w v n s) (k : Kpt w w') : SentTo w' v n s := by
  obtain ⟨g, hv, cs, X, hc⟩ := h
  exact ⟨g, hv, cs, k.blk g cs _ (by decide) (by decide) X, hc⟩

set_option maxHeartbeats 2000000 in
set_option maxRecDepth 100000 in
theorem toAll_calls (s : ByteArray) (w : World) (h : St w0 w p b x y T S q tm tc av C) (f : Nat) (hf : C.cf = f) (hf1 : f ≤ 4) :
    Calls Tryz.prog 24 #[.pointer (some ⟨q, 0, none⟩), .string s] w fun e w' => ∃ v, e = .returned v ∧ SentTo w' v (3 * f + 1) s ∧ Below w.heap.size w w' := by
  have c0 : w.cell? ⟨q, 0, none⟩ = some (.int .i64 C.cf) := h.blk.cell rfl
  have c1 : w.cell? ⟨q, 1, none⟩ = some (.int .i64 C.cc) := h.blk.cell rfl
  have c2 : w.cell? ⟨q, 2, none⟩ = some (.int .i64 C.cg) := h.blk.cell rfl
  have c3 : w.cell? ⟨q, 3, none⟩ = some (.int .i64 C.cp) := h.blk.cell rfl
  rw [hf] at c0
  have HSz : Hid (∀ wx, Calls Tryz.prog 19 #[.agg #[.int .i64 (f : Int), .int .i64 C.cc, .int .i64 C.cg, .int .i64 C.cp]] wx fun e w' => e = .returned (.int .i64 ((3 * f + 1 : Nat) : Int)) ∧ Below wx.heap.size wx w') := fun wx => by
    have := size_calls f C.cc C.cg C.cp wx (by omega) (by omega)
    rw [show ((3 * f + 1 : Nat) : Int) = 3 * (f : Int) + 1 from by push_cast; rfl]
    exact this
  have hn : 3 * f + 1 ≤ 13 := by omega
  obtain ⟨n, hN⟩ : ∃ n, 3 * f + 1 = n := ⟨_, rfl⟩
  rw [hN] at HSz hn ⊢
  have HF : Hid _ := hf
  clear hf hN
  go_enter Tryz.func24, Tryz.ntmps24
  go_wp2_with fail
  refine Calls.mono (HSz.out _) ?_
  rintro e w1 ⟨rfl, b1⟩
  obtain ⟨cs0, hcs, hcu, hmk⟩ := make_sent n (by omega) w1
  have HC0 : Hid (∀ j, j < n * 2 → ∃ u, cs0[j]? = some u) := hcu
  have HZ0 : Hid (cs0.size = n * 2) := hcs
  have X0 := blk_new w1 w1.heap.size cs0 82 rfl
  obtain ⟨W2, hW2⟩ : ∃ W2, w1.alloc (.cells cs0 82) = W2 := ⟨_, rfl⟩
  rw [hW2] at X0 hmk
  have B2 : Below w.heap.size w W2 := chain b1 (by rw [← hW2]; go_grown)
  have z1 := b1.size
  clear hcs hcu hW2
  go_wp2
  go_loopw [15] (fun i wr => ∃ (k : Nat) (cs : Array Value), k ≤ n ∧ i = .int .i64 k ∧ Hid (cs.size = n * 2) ∧ Hid (∀ j, j < k → cs[j * 2]? = some (.int .i64 (j : Int)) ∧ cs[j * 2 + 1]? = some (.string s)) ∧ Blk wr w1.heap.size cs 82 ∧ Below w.heap.size w wr) (fun i _ => n - (intOf i).toNat)
  case atStart => exact ⟨0, cs0, Nat.zero_le _, rfl, HZ0, fun j hj => absurd hj (Nat.not_lt_zero _), X0, B2⟩
  case round =>
    obtain ⟨k, cs, hk, rfl, HZ, HC, X, br⟩ := hrel
    by_cases hlt : k < n
    · have hd : decide ((k : Int) < n) = true := by simp only [decide_eq_true_eq]; omega
      have q0 : wr.cell? ⟨w1.heap.size, k * 2, none⟩ = some (cs[k * 2]'(by have := HZ.out; omega)) := X.cell (Array.getElem?_eq_getElem _)
      have f0 : wr.frozen? ⟨w1.heap.size, k * 2, none⟩ = false := X.frozen
      have X2 := X.set (k * 2) (.int .i64 (k : Int))
      have q1 : (wr.setCell ⟨w1.heap.size, k * 2, none⟩ (.int .i64 (k : Int))).cell? ⟨w1.heap.size, k * 2 + 1, none⟩ = some (cs[k * 2 + 1]'(by have := HZ.out; omega)) := X2.cell (by rw [Array.getElem?_setIfInBounds_ne (by omega)]; exact Array.getElem?_eq_getElem _)
      have f1 : (wr.setCell ⟨w1.heap.size, k * 2, none⟩ (.int .i64 (k : Int))).frozen? ⟨w1.heap.size, k * 2 + 1, none⟩ = false := X2.frozen
      have HX3 : Hid (Blk ((wr.setCell ⟨w1.heap.size, k * 2, none⟩ (.int .i64 (k : Int))).setCell ⟨w1.heap.size, k * 2 + 1, none⟩ (.string s)) w1.heap.size ((cs.setIfInBounds (k * 2) (.int .i64 (k : Int))).setIfInBounds (k * 2 + 1) (.string s)) 82) := X2.set (k * 2 + 1) (.string s)
      have HB3 : Hid (Below w.heap.size w ((wr.setCell ⟨w1.heap.size, k * 2, none⟩ (.int .i64 (k : Int))).setCell ⟨w1.heap.size, k * 2 + 1, none⟩ (.string s))) := (br.setCell (p := ⟨w1.heap.size, k * 2, none⟩) z1 _).setCell (p := ⟨w1.heap.size, k * 2 + 1, none⟩) z1 _
      clear X2
      go_wp2
      refine ⟨⟨k + 1, _, by omega, by norm_cast, ?_, ?_, HX3.out, HB3.out⟩, by simp [intOf]; omega⟩
      · show _ = _
        simp [HZ.out]
      · show ∀ j, _
        intro j hj
        have hz := HZ.out
        by_cases e : j = k
        · subst e
          constructor
          · rw [Array.getElem?_setIfInBounds_ne (by omega), Array.getElem?_setIfInBounds_self_of_lt (by omega)]
          · rw [Array.getElem?_setIfInBounds_self_of_lt (by simp; omega)]
        · rw [Array.getElem?_setIfInBounds_ne (by omega), Array.getElem?_setIfInBounds_ne (by omega), Array.getElem?_setIfInBounds_ne (by omega), Array.getElem?_setIfInBounds_ne (by omega)]
          exact HC.out j (by omega)
    · have hd : decide ((k : Int) < n) = false := by simp only [decide_eq_false_iff_not]; omega
      have : k = n := by omega
      have HK : Hid _ := this
      clear this
      go_wp2
      go_ret
      exact ⟨_, rfl, ⟨_, rfl, cs, X, fun j hj => HC.out j (by have := HK.out; omega)⟩, br⟩
end Go.Proofs.YtifbebomhhfaeaaGreat
