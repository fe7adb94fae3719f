/- All cash, and all of each good. -/
import Derived.Test.YtmcafgmjfgfaeaaDoorLr10
namespace Go.Proofs.YtmcafgmjfgfaeaaDoor
open Go.RowKit
set_option linter.unusedSimpArgs false
set_option linter.unusedVariables false
variable {p b g : Nat} {l : List Kt}

/-- Four numbers as an array. -/
def gC (f : Nat → Int) : Array Value := #[.int .i64 (f 2), .int .i64 (f 3), .int .i64 (f 4), .int .i64 (f 5)]
def totV (f : Nat → Int) : Value := .tuple #[.int .i64 (f 0), .agg (gC f)]
theorem Inv.sums {g : Nat} {l : List Kt} (H : Inv g l) (k : Nat) (hk : k ≤ l.length) {a h : Nat} (p : Part a h) : 0 ≤ tot (l.take k) a ∧ tot (l.take k) a ≤ 1099511627776 := by
  have h1 := tot_take_nonneg l a k (H.nn p) hk
  have h2 := tot_take_le l a k (H.nn p) hk
  have h3 := H.all a h p
  omega
theorem part0 : Part 0 1 := Or.inl ⟨rfl, rfl⟩
theorem part2 : Part 2 6 := Or.inr ⟨by omega, by omega, rfl⟩
theorem part3 : Part 3 7 := Or.inr ⟨by omega, by omega, rfl⟩
theorem part4 : Part 4 8 := Or.inr ⟨by omega, by omega, rfl⟩
theorem part5 : Part 5 9 := Or.inr ⟨by omega, by omega, rfl⟩

/-- One of four numbers. -/
theorem ix40 (a b c d : Value) (w : World) : (Instr.index 63 (.agg #[a, b, c, d]) (.int .i64 0)).run Tryd.prog w = .ok a w := by kernel_rfl
theorem ix41 (a b c d : Value) (w : World) : (Instr.index 63 (.agg #[a, b, c, d]) (.int .i64 1)).run Tryd.prog w = .ok b w := by kernel_rfl
theorem ix42 (a b c d : Value) (w : World) : (Instr.index 63 (.agg #[a, b, c, d]) (.int .i64 2)).run Tryd.prog w = .ok c w := by kernel_rfl
theorem ix43 (a b c d : Value) (w : World) : (Instr.index 63 (.agg #[a, b, c, d]) (.int .i64 3)).run Tryd.prog w = .ok d w := by kernel_rfl
attribute [go_sem] ix40 ix41 ix42 ix43

set_option maxRecDepth 100000 in
set_option maxHeartbeats 2000000 in
theorem totals_calls (w : World) (h : Lg w p b g l) : Calls Tryd.prog 45 #[.pointer (some ⟨p, 0, none⟩)] w fun e w' => e = .returned (totV (tot l)) ∧ Below w.heap.size w w' := by
  have hlen := h.inv.len
  have hpl := h.blk.lt
  have hbl := h.row.lt
  obtain ⟨W0, hW0, X0, B0, Z0⟩ : ∃ W0, (w.alloc (.cells #[.int .i64 0, .int .i64 0, .int .i64 0, .int .i64 0] 63)) = W0 ∧ Blk W0 w.heap.size (gC fun _ => 0) 63 ∧ Below w.heap.size w W0 ∧ W0.heap.size = w.heap.size + 1 := ⟨_, rfl, blk_new _ _ _ _ rfl, by go_grown, by simp⟩
  have hL0 := h.below B0
  have hma := made_calls W0 hL0
  have c0 : W0.cell? ⟨p, 0, none⟩ = some (.slice (some ⟨b, 0, none⟩) l.length l.length) := hL0.blk.cell rfl
  have hun := Tryd.underlying63
  have hsz : ∀ f, (Tryd.prog.info? 63).map (·.size) = some (gC f).size := fun _ => by kernel_rfl
  go_enter Tryd.func45, Tryd.ntmps45
  go_wp2_with fail
  refine hma.mono ?_
  rintro e w1 ⟨rfl, rfl⟩
  clear hma
  go_wp2
  go_loopw [2, 18] (fun c i wr => ∃ k : Nat, k ≤ l.length ∧ i = .int .i64 k ∧ c = .int .i64 (tot (l.take k) 0) ∧ Blk wr w.heap.size (gC (tot (l.take k))) 63 ∧ Below w.heap.size w wr ∧ w.heap.size < wr.heap.size) (fun _ i _ => l.length - (intOf i).toNat)
  case atStart => exact ⟨0, Nat.zero_le _, rfl, rfl, X0, B0, by omega⟩
  case round =>
    obtain ⟨k, hk, rfl, rfl, hB, hb, hgt⟩ := hrel
    by_cases hlt : k < l.length
    · have hd : decide ((k : Int) < l.length) = true := by simp only [decide_eq_true_eq]; omega
      have hLr := h.below hb
      have n0 := hLr.num0 hlt
      have n1 := hLr.num 1 hlt (by omega)
      have n2 := hLr.num 2 hlt (by omega)
      have n3 := hLr.num 3 hlt (by omega)
      have n4 := hLr.num 4 hlt (by omega)
      have n5 := hLr.num 5 hlt (by omega)
      have n6 := hLr.num 6 hlt (by omega)
      have n7 := hLr.num 7 hlt (by omega)
      have n8 := hLr.num 8 hlt (by omega)
      have n9 := hLr.num 9 hlt (by omega)
      have n10 := hLr.num 10 hlt (by omega)
      have n11 := hLr.rep hlt
      have z0 := h.inv.le part0 hlt
      have z2 := h.inv.le part2 hlt
      have z3 := h.inv.le part3 hlt
      have z4 := h.inv.le part4 hlt
      have z5 := h.inv.le part5 hlt
      have t0 := h.inv.sums k hk part0
      have t2 := h.inv.sums k hk part2
      have t3 := h.inv.sums k hk part3
      have t4 := h.inv.sums k hk part4
      have t5 := h.inv.sums k hk part5
      have HT : Hid (∀ f, tot (l.take (k + 1)) f = tot (l.take k) f + (kAt l k).n f) := fun f => tot_take l k f hlt
      have HB := hB
      unfold gC at hB
      have HQ : ∀ f, gC f = #[.int .i64 (f 2), .int .i64 (f 3), .int .i64 (f 4), .int .i64 (f 5)] := fun _ => rfl
      have HQ' : Hid _ := HQ
      clear HQ HB
      obtain ⟨W1, hW1, X1, Y1, B1, Z1⟩ : ∃ W1, (wr.alloc (.cells #[.int .i64 ((kAt l k).n 0), .int .i64 ((kAt l k).n 1), .int .i64 ((kAt l k).n 2), .int .i64 ((kAt l k).n 3), .int .i64 ((kAt l k).n 4), .int .i64 ((kAt l k).n 5), .int .i64 ((kAt l k).n 6), .int .i64 ((kAt l k).n 7), .int .i64 ((kAt l k).n 8), .int .i64 ((kAt l k).n 9), .int .i64 ((kAt l k).n 10), .string (kAt l k).reply] 67)) = W1 ∧ Blk W1 wr.heap.size ((kAt l k).cells.toArray) 67 ∧ Blk W1 w.heap.size #[.int .i64 (tot (l.take k) 2), .int .i64 (tot (l.take k) 3), .int .i64 (tot (l.take k) 4), .int .i64 (tot (l.take k) 5)] 63 ∧ Below wr.heap.size wr W1 ∧ W1.heap.size = wr.heap.size + 1 := ⟨_, rfl, blk_new _ _ _ _ rfl, hB.alloc _, by go_grown, by simp⟩
      generalize hK : kAt l k = kk at *
      generalize tot (l.take k) = f at *
      generalize hF : tot (l.take (k + 1)) = f2 at *
      have HK : Hid _ := hK
      have HF : Hid _ := hF
      clear hK hF
      have d0 : W1.cell? ⟨wr.heap.size, 0, none⟩ = some (.int .i64 (kk.n 0)) := X1.cell rfl
      have d2 : W1.cell? ⟨wr.heap.size, 2, none⟩ = some (.int .i64 (kk.n 2)) := X1.cell rfl
      have d3 : W1.cell? ⟨wr.heap.size, 3, none⟩ = some (.int .i64 (kk.n 3)) := X1.cell rfl
      have d4 : W1.cell? ⟨wr.heap.size, 4, none⟩ = some (.int .i64 (kk.n 4)) := X1.cell rfl
      have d5 : W1.cell? ⟨wr.heap.size, 5, none⟩ = some (.int .i64 (kk.n 5)) := X1.cell rfl
      have e0 : W1.cell? ⟨w.heap.size, 0, none⟩ = some (.int .i64 (f 2)) := Y1.cell rfl
      have g0 : W1.frozen? ⟨w.heap.size, 0, none⟩ = false := Y1.frozen
      obtain ⟨W2, hW2, Y2, B2, Z2⟩ : ∃ W2, W1.setCell ⟨w.heap.size, 0, none⟩ (.int .i64 (f 2 + kk.n 2)) = W2 ∧ Blk W2 w.heap.size #[.int .i64 (f 2 + kk.n 2), .int .i64 (f 3), .int .i64 (f 4), .int .i64 (f 5)] 63 ∧ Below w.heap.size W1 W2 ∧ W2.heap.size = W1.heap.size := ⟨_, rfl, Y1.set 0 _, (Below.refl _ _).setCell (p := ⟨w.heap.size, 0, none⟩) (Nat.le_refl _) _, by simp [World.setCell]⟩
      have e1 : W2.cell? ⟨w.heap.size, 1, none⟩ = some (.int .i64 (f 3)) := Y2.cell rfl
      have g1 : W2.frozen? ⟨w.heap.size, 1, none⟩ = false := Y2.frozen
      obtain ⟨W3, hW3, Y3, B3, Z3⟩ : ∃ W3, W2.setCell ⟨w.heap.size, 1, none⟩ (.int .i64 (f 3 + kk.n 3)) = W3 ∧ Blk W3 w.heap.size #[.int .i64 (f 2 + kk.n 2), .int .i64 (f 3 + kk.n 3), .int .i64 (f 4), .int .i64 (f 5)] 63 ∧ Below w.heap.size W2 W3 ∧ W3.heap.size = W2.heap.size := ⟨_, rfl, Y2.set 1 _, (Below.refl _ _).setCell (p := ⟨w.heap.size, 1, none⟩) (Nat.le_refl _) _, by simp [World.setCell]⟩
      have e2 : W3.cell? ⟨w.heap.size, 2, none⟩ = some (.int .i64 (f 4)) := Y3.cell rfl
      have g2 : W3.frozen? ⟨w.heap.size, 2, none⟩ = false := Y3.frozen
      obtain ⟨W4, hW4, Y4, B4, Z4⟩ : ∃ W4, W3.setCell ⟨w.heap.size, 2, none⟩ (.int .i64 (f 4 + kk.n 4)) = W4 ∧ Blk W4 w.heap.size #[.int .i64 (f 2 + kk.n 2), .int .i64 (f 3 + kk.n 3), .int .i64 (f 4 + kk.n 4), .int .i64 (f 5)] 63 ∧ Below w.heap.size W3 W4 ∧ W4.heap.size = W3.heap.size := ⟨_, rfl, Y3.set 2 _, (Below.refl _ _).setCell (p := ⟨w.heap.size, 2, none⟩) (Nat.le_refl _) _, by simp [World.setCell]⟩
      have e3 : W4.cell? ⟨w.heap.size, 3, none⟩ = some (.int .i64 (f 5)) := Y4.cell rfl
      have g3 : W4.frozen? ⟨w.heap.size, 3, none⟩ = false := Y4.frozen
      obtain ⟨W5, hW5, Y5, B5, Z5⟩ : ∃ W5, W4.setCell ⟨w.heap.size, 3, none⟩ (.int .i64 (f 5 + kk.n 5)) = W5 ∧ Blk W5 w.heap.size #[.int .i64 (f 2 + kk.n 2), .int .i64 (f 3 + kk.n 3), .int .i64 (f 4 + kk.n 4), .int .i64 (f 5 + kk.n 5)] 63 ∧ Below w.heap.size W4 W5 ∧ W5.heap.size = W4.heap.size := ⟨_, rfl, Y4.set 3 _, (Below.refl _ _).setCell (p := ⟨w.heap.size, 3, none⟩) (Nat.le_refl _) _, by simp [World.setCell]⟩
      have BB : Hid (Below w.heap.size w W5) := hb.trans (((((B1.mono (by omega)).trans B2).trans B3).trans B4).trans B5)
      have SZ : Hid (w.heap.size < W5.heap.size) := by show _ < _; omega
      clear B0 B1 B2 B3 B4 B5 Z0 Z1 Z2 Z3 Z4 Z5 X0 hB
      go_wp2
      refine wp_loop_rounds 5 ?_
      rw [rounds_succ]
      go_wp2
      rw [rounds_succ]
      go_wp2
      rw [rounds_succ]
      go_wp2
      rw [rounds_succ]
      go_wp2
      rw [rounds_succ]
      go_wp2
      refine ⟨⟨k + 1, by omega, by norm_cast, ?_, ?_, BB.out, SZ.out⟩, ?_⟩
      · rw [HF.out, HT.out]
      · rw [HF.out, HQ'.out, HT.out, HT.out, HT.out, HT.out]; exact Y5
      · simp [intOf]; omega
    · have hd : decide ((k : Int) < l.length) = false := by simp only [decide_eq_false_iff_not]; omega
      have htk : l.take k = l := List.take_of_length_le (by omega)
      rw [htk] at hB
      have hc : ∀ x, tot (l.take k) x = tot l x := fun x => by rw [htk]
      have HC : Hid _ := hc
      clear hc htk
      have r0 : wr.cell? ⟨w.heap.size, 0, none⟩ = some (.int .i64 (tot l 2)) := hB.cell rfl
      have r1 : wr.cell? ⟨w.heap.size, 1, none⟩ = some (.int .i64 (tot l 3)) := hB.cell rfl
      have r2 : wr.cell? ⟨w.heap.size, 2, none⟩ = some (.int .i64 (tot l 4)) := hB.cell rfl
      have r3 : wr.cell? ⟨w.heap.size, 3, none⟩ = some (.int .i64 (tot l 5)) := hB.cell rfl
      have g0 : wr.frozen? ⟨w.heap.size, 0, none⟩ = false := hB.frozen
      have g1 : wr.frozen? ⟨w.heap.size, 1, none⟩ = false := hB.frozen
      have g2 : wr.frozen? ⟨w.heap.size, 2, none⟩ = false := hB.frozen
      have g3 : wr.frozen? ⟨w.heap.size, 3, none⟩ = false := hB.frozen
      obtain ⟨W9, hW9, X9, B9⟩ : ∃ W9, ((((wr.setCell ⟨w.heap.size, 0, none⟩ (.int .i64 (tot l 2))).setCell ⟨w.heap.size, 1, none⟩ (.int .i64 (tot l 3))).setCell ⟨w.heap.size, 2, none⟩ (.int .i64 (tot l 4))).setCell ⟨w.heap.size, 3, none⟩ (.int .i64 (tot l 5))) = W9 ∧ Blk W9 w.heap.size (gC (tot l)) 63 ∧ Below w.heap.size wr W9 :=
        ⟨_, rfl, (((hB.set 0 _).set 1 _).set 2 _).set 3 _, ((((Below.refl _ _).setCell (p := ⟨w.heap.size, 0, none⟩) (Nat.le_refl _) _).setCell (p := ⟨w.heap.size, 1, none⟩) (Nat.le_refl _) _).setCell (p := ⟨w.heap.size, 2, none⟩) (Nat.le_refl _) _).setCell (p := ⟨w.heap.size, 3, none⟩) (Nat.le_refl _) _⟩
      have s0 : W9.cell? ⟨w.heap.size, 0, none⟩ = some (.int .i64 (tot l 2)) := X9.cell rfl
      have s1 : W9.cell? ⟨w.heap.size, 1, none⟩ = some (.int .i64 (tot l 3)) := X9.cell rfl
      have s2 : W9.cell? ⟨w.heap.size, 2, none⟩ = some (.int .i64 (tot l 4)) := X9.cell rfl
      have s3 : W9.cell? ⟨w.heap.size, 3, none⟩ = some (.int .i64 (tot l 5)) := X9.cell rfl
      go_wp2
      go_region
      go_wp2
      try simp only [Exit.inBlock, Exit.then]
      refine bodyPost_ret (by simp [results, Tryd.results45, go_sem, s0, s1, s2, s3]; rfl) rfl ?_
      refine ⟨by rw [HC.out]; rfl, ?_⟩
      exact (hb.trans B9).drew
end Go.Proofs.YtmcafgmjfgfaeaaDoor
