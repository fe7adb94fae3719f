/- Totals, and whether there is too much of something, of accounts whose totals may be too great. -/
import Derived.Test.YtmcafgmjfgfaeaaDoorLr29
namespace Go.Proofs.YtmcafgmjfgfaeaaDoor
open Go.RowKit
set_option linter.unusedSimpArgs false
set_option linter.unusedVariables false
variable {p b g : Nat} {l : List Kt}

theorem Wk.sum16 {l : List Kt} (H : Wk l) {a h : Nat} (p : Part a h) (k : Nat) (hk : k ≤ l.length) : 0 ≤ tot (l.take k) a ∧ tot (l.take k) a ≤ 17592186044416 := by
  have h1 := H.sums p k hk
  have h2 := H.len
  omega
/-- A ledger in memory, but for the totals' bound. -/
structure Lw (w : World) (p b g : Nat) (l : List Kt) : Prop where
  blk : Blk w p #[.slice (some ⟨b, 0, none⟩) l.length l.length, .int .i64 g] 62
  row : Blk w b (kC l) 67
  ne : p ≠ b
  wk : Wk l
theorem Lw.below {w w' : World} (h : Lw w p b g l) (hb : Below w.heap.size w w') : Lw w' p b g l := ⟨h.blk.below hb, h.row.below hb, h.ne, h.wk⟩
theorem Lw.num {w : World} (h : Lw w p b g l) {i : Nat} (j : Nat) (hi : i < l.length) (hj : j < 11) : w.cell? ⟨b, i * 12 + j, none⟩ = some (.int .i64 ((kAt l i).n j)) := h.row.cell (kC_get j hi (Kt.num _ j hj))
theorem Lw.rep {w : World} (h : Lw w p b g l) {i : Nat} (hi : i < l.length) : w.cell? ⟨b, i * 12 + 11, none⟩ = some (.string (kAt l i).reply) := h.row.cell (kC_get 11 hi rfl)
theorem Lw.num0 {w : World} (h : Lw w p b g l) {i : Nat} (hi : i < l.length) : w.cell? ⟨b, i * 12, none⟩ = some (.int .i64 ((kAt l i).n 0)) := h.num 0 hi (by omega)
theorem madeW_calls (w : World) (h : Lw w p b g l) : Calls Tryd.prog 36 #[.pointer (some ⟨p, 0, none⟩)] w fun e w' => e = .returned (.bool true) ∧ w' = w := by
  have c0 : w.cell? ⟨p, 0, none⟩ = some (.slice (some ⟨b, 0, none⟩) l.length l.length) := h.blk.cell rfl
  have hp := h.wk.pos
  go_enter Tryd.func36, Tryd.ntmps36
  go_wp2
  go_ret
  exact ⟨by simp [hp], rfl⟩

set_option maxRecDepth 100000 in
set_option maxHeartbeats 2000000 in
theorem totalsW_calls (w : World) (h : Lw w p b g l) : Calls Tryd.prog 45 #[.pointer (some ⟨p, 0, none⟩)] w fun e w' => e = .returned (totV (tot l)) ∧ Below w.heap.size w w' := by
  have hlen := h.wk.len
  have hpl := h.blk.lt
  have hbl := h.row.lt
  obtain ⟨W0, hW0, X0, B0, Z0⟩ : ∃ W0, (w.alloc (.cells #[.int .i64 0, .int .i64 0, .int .i64 0, .int .i64 0] 63)) = W0 ∧ Blk W0 w.heap.size (gC fun _ => 0) 63 ∧ Below w.heap.size w W0 ∧ W0.heap.size = w.heap.size + 1 := ⟨_, rfl, blk_new _ _ _ _ rfl, by go_grown, by simp⟩
  have hL0 := h.below B0
  have hma := madeW_calls W0 hL0
  have c0 : W0.cell? ⟨p, 0, none⟩ = some (.slice (some ⟨b, 0, none⟩) l.length l.length) := hL0.blk.cell rfl
  have hun := Tryd.underlying63
  have hsz : ∀ f, (Tryd.prog.info? 63).map (·.size) = some (gC f).size := fun _ => by kernel_rfl
  go_enter Tryd.func45, Tryd.ntmps45
  go_wp2_with fail
  refine hma.mono ?_
  rintro e w1 ⟨rfl, rfl⟩
  clear hma
  go_wp2
  go_loopw [2, 18] (fun c i wr => ∃ k : Nat, k ≤ l.length ∧ i = .int .i64 k ∧ c = .int .i64 (tot (l.take k) 0) ∧ Blk wr w.heap.size (gC (tot (l.take k))) 63 ∧ Below w.heap.size w wr ∧ w.heap.size < wr.heap.size) (fun _ i _ => l.length - (intOf i).toNat)
  case atStart => exact ⟨0, Nat.zero_le _, rfl, rfl, X0, B0, by omega⟩
  case round =>
    obtain ⟨k, hk, rfl, rfl, hB, hb, hgt⟩ := hrel
    by_cases hlt : k < l.length
    · have hd : decide ((k : Int) < l.length) = true := by simp only [decide_eq_true_eq]; omega
      have hLr := h.below hb
      have n0 := hLr.num0 hlt
      have n1 := hLr.num 1 hlt (by omega)
      have n2 := hLr.num 2 hlt (by omega)
      have n3 := hLr.num 3 hlt (by omega)
      have n4 := hLr.num 4 hlt (by omega)
      have n5 := hLr.num 5 hlt (by omega)
      have n6 := hLr.num 6 hlt (by omega)
      have n7 := hLr.num 7 hlt (by omega)
      have n8 := hLr.num 8 hlt (by omega)
      have n9 := hLr.num 9 hlt (by omega)
      have n10 := hLr.num 10 hlt (by omega)
      have n11 := hLr.rep hlt
      have z0 := h.wk.held k hlt _ _ part0
      have z2 := h.wk.held k hlt _ _ part2
      have z3 := h.wk.held k hlt _ _ part3
      have z4 := h.wk.held k hlt _ _ part4
      have z5 := h.wk.held k hlt _ _ part5
      have t0 := h.wk.sum16 part0 k hk
      have t2 := h.wk.sum16 part2 k hk
      have t3 := h.wk.sum16 part3 k hk
      have t4 := h.wk.sum16 part4 k hk
      have t5 := h.wk.sum16 part5 k hk
      have HT : Hid (∀ f, tot (l.take (k + 1)) f = tot (l.take k) f + (kAt l k).n f) := fun f => tot_take l k f hlt
      have HB := hB
      unfold gC at hB
      have HQ : ∀ f, gC f = #[.int .i64 (f 2), .int .i64 (f 3), .int .i64 (f 4), .int .i64 (f 5)] := fun _ => rfl
      have HQ' : Hid _ := HQ
      clear HQ HB
      obtain ⟨W1, hW1, X1, Y1, B1, Z1⟩ : ∃ W1, (wr.alloc (.cells #[.int .i64 ((kAt l k).n 0), .int .i64 ((kAt l k).n 1), .int .i64 ((kAt l k).n 2), .int .i64 ((kAt l k).n 3), .int .i64 ((kAt l k).n 4), .int .i64 ((kAt l k).n 5), .int .i64 ((kAt l k).n 6), .int .i64 ((kAt l k).n 7), .int .i64 ((kAt l k).n 8), .int .i64 ((kAt l k).n 9), .int .i64 ((kAt l k).n 10), .string (kAt l k).reply] 67)) = W1 ∧ Blk W1 wr.heap.size ((kAt l k).cells.toArray) 67 ∧ Blk W1 w.heap.size #[.int .i64 (tot (l.take k) 2), .int .i64 (tot (l.take k) 3), .int .i64 (tot (l.take k) 4), .int .i64 (tot (l.take k) 5)] 63 ∧ Below wr.heap.size wr W1 ∧ W1.heap.size = wr.heap.size + 1 := ⟨_, rfl, blk_new _ _ _ _ rfl, hB.alloc _, by go_grown, by simp⟩
      generalize hK : kAt l k = kk at *
      generalize tot (l.take k) = f at *
      generalize hF : tot (l.take (k + 1)) = f2 at *
      have HK : Hid _ := hK
      have HF : Hid _ := hF
      clear hK hF
      have d0 : W1.cell? ⟨wr.heap.size, 0, none⟩ = some (.int .i64 (kk.n 0)) := X1.cell rfl
      have d2 : W1.cell? ⟨wr.heap.size, 2, none⟩ = some (.int .i64 (kk.n 2)) := X1.cell rfl
      have d3 : W1.cell? ⟨wr.heap.size, 3, none⟩ = some (.int .i64 (kk.n 3)) := X1.cell rfl
      have d4 : W1.cell? ⟨wr.heap.size, 4, none⟩ = some (.int .i64 (kk.n 4)) := X1.cell rfl
      have d5 : W1.cell? ⟨wr.heap.size, 5, none⟩ = some (.int .i64 (kk.n 5)) := X1.cell rfl
      have e0 : W1.cell? ⟨w.heap.size, 0, none⟩ = some (.int .i64 (f 2)) := Y1.cell rfl
      have g0 : W1.frozen? ⟨w.heap.size, 0, none⟩ = false := Y1.frozen
      obtain ⟨W2, hW2, Y2, B2, Z2⟩ : ∃ W2, W1.setCell ⟨w.heap.size, 0, none⟩ (.int .i64 (f 2 + kk.n 2)) = W2 ∧ Blk W2 w.heap.size #[.int .i64 (f 2 + kk.n 2), .int .i64 (f 3), .int .i64 (f 4), .int .i64 (f 5)] 63 ∧ Below w.heap.size W1 W2 ∧ W2.heap.size = W1.heap.size := ⟨_, rfl, Y1.set 0 _, (Below.refl _ _).setCell (p := ⟨w.heap.size, 0, none⟩) (Nat.le_refl _) _, by simp [World.setCell]⟩
      have e1 : W2.cell? ⟨w.heap.size, 1, none⟩ = some (.int .i64 (f 3)) := Y2.cell rfl
      have g1 : W2.frozen? ⟨w.heap.size, 1, none⟩ = false := Y2.frozen
      obtain ⟨W3, hW3, Y3, B3, Z3⟩ : ∃ W3, W2.setCell ⟨w.heap.size, 1, none⟩ (.int .i64 (f 3 + kk.n 3)) = W3 ∧ Blk W3 w.heap.size #[.int .i64 (f 2 + kk.n 2), .int .i64 (f 3 + kk.n 3), .int .i64 (f 4), .int .i64 (f 5)] 63 ∧ Below w.heap.size W2 W3 ∧ W3.heap.size = W2.heap.size := ⟨_, rfl, Y2.set 1 _, (Below.refl _ _).setCell (p := ⟨w.heap.size, 1, none⟩) (Nat.le_refl _) _, by simp [World.setCell]⟩
      have e2 : W3.cell? ⟨w.heap.size, 2, none⟩ = some (.int .i64 (f 4)) := Y3.cell rfl
      have g2 : W3.frozen? ⟨w.heap.size, 2, none⟩ = false := Y3.frozen
      obtain ⟨W4, hW4, Y4, B4, Z4⟩ : ∃ W4, W3.setCell ⟨w.heap.size, 2, none⟩ (.int .i64 (f 4 + kk.n 4)) = W4 ∧ Blk W4 w.heap.size #[.int .i64 (f 2 + kk.n 2), .int .i64 (f 3 + kk.n 3), .int .i64 (f 4 + kk.n 4), .int .i64 (f 5)] 63 ∧ Below w.heap.size W3 W4 ∧ W4.heap.size = W3.heap.size := ⟨_, rfl, Y3.set 2 _, (Below.refl _ _).setCell (p := ⟨w.heap.size, 2, none⟩) (Nat.le_refl _) _, by simp [World.setCell]⟩
      have e3 : W4.cell? ⟨w.heap.size, 3, none⟩ = some (.int .i64 (f 5)) := Y4.cell rfl
      have g3 : W4.frozen? ⟨w.heap.size, 3, none⟩ = false := Y4.frozen
      obtain ⟨W5, hW5, Y5, B5, Z5⟩ : ∃ W5, W4.setCell ⟨w.heap.size, 3, none⟩ (.int .i64 (f 5 + kk.n 5)) = W5 ∧ Blk W5 w.heap.size #[.int .i64 (f 2 + kk.n 2), .int .i64 (f 3 + kk.n 3), .int .i64 (f 4 + kk.n 4), .int .i64 (f 5 + kk.n 5)] 63 ∧ Below w.heap.size W4 W5 ∧ W5.heap.size = W4.heap.size := ⟨_, rfl, Y4.set 3 _, (Below.refl _ _).setCell (p := ⟨w.heap.size, 3, none⟩) (Nat.le_refl _) _, by simp [World.setCell]⟩
      have BB : Hid (Below w.heap.size w W5) := hb.trans (((((B1.mono (by omega)).trans B2).trans B3).trans B4).trans B5)
      have SZ : Hid (w.heap.size < W5.heap.size) := by show _ < _; omega
      clear B0 B1 B2 B3 B4 B5 Z0 Z1 Z2 Z3 Z4 Z5 X0 hB
      go_wp2
      refine wp_loop_rounds 5 ?_
      rw [rounds_succ]
      go_wp2
      rw [rounds_succ]
      go_wp2
      rw [rounds_succ]
      go_wp2
      rw [rounds_succ]
      go_wp2
      rw [rounds_succ]
      go_wp2
      refine ⟨⟨k + 1, by omega, by norm_cast, ?_, ?_, BB.out, SZ.out⟩, ?_⟩
      · rw [HF.out, HT.out]
      · rw [HF.out, HQ'.out, HT.out, HT.out, HT.out, HT.out]; exact Y5
      · simp [intOf]; omega
    · have hd : decide ((k : Int) < l.length) = false := by simp only [decide_eq_false_iff_not]; omega
      have htk : l.take k = l := List.take_of_length_le (by omega)
      rw [htk] at hB
      have hc : ∀ x, tot (l.take k) x = tot l x := fun x => by rw [htk]
      have HC : Hid _ := hc
      clear hc htk
      have r0 : wr.cell? ⟨w.heap.size, 0, none⟩ = some (.int .i64 (tot l 2)) := hB.cell rfl
      have r1 : wr.cell? ⟨w.heap.size, 1, none⟩ = some (.int .i64 (tot l 3)) := hB.cell rfl
      have r2 : wr.cell? ⟨w.heap.size, 2, none⟩ = some (.int .i64 (tot l 4)) := hB.cell rfl
      have r3 : wr.cell? ⟨w.heap.size, 3, none⟩ = some (.int .i64 (tot l 5)) := hB.cell rfl
      have g0 : wr.frozen? ⟨w.heap.size, 0, none⟩ = false := hB.frozen
      have g1 : wr.frozen? ⟨w.heap.size, 1, none⟩ = false := hB.frozen
      have g2 : wr.frozen? ⟨w.heap.size, 2, none⟩ = false := hB.frozen
      have g3 : wr.frozen? ⟨w.heap.size, 3, none⟩ = false := hB.frozen
      obtain ⟨W9, hW9, X9, B9⟩ : ∃ W9, ((((wr.setCell ⟨w.heap.size, 0, none⟩ (.int .i64 (tot l 2))).setCell ⟨w.heap.size, 1, none⟩ (.int .i64 (tot l 3))).setCell ⟨w.heap.size, 2, none⟩ (.int .i64 (tot l 4))).setCell ⟨w.heap.size, 3, none⟩ (.int .i64 (tot l 5))) = W9 ∧ Blk W9 w.heap.size (gC (tot l)) 63 ∧ Below w.heap.size wr W9 :=
        ⟨_, rfl, (((hB.set 0 _).set 1 _).set 2 _).set 3 _, ((((Below.refl _ _).setCell (p := ⟨w.heap.size, 0, none⟩) (Nat.le_refl _) _).setCell (p := ⟨w.heap.size, 1, none⟩) (Nat.le_refl _) _).setCell (p := ⟨w.heap.size, 2, none⟩) (Nat.le_refl _) _).setCell (p := ⟨w.heap.size, 3, none⟩) (Nat.le_refl _) _⟩
      have s0 : W9.cell? ⟨w.heap.size, 0, none⟩ = some (.int .i64 (tot l 2)) := X9.cell rfl
      have s1 : W9.cell? ⟨w.heap.size, 1, none⟩ = some (.int .i64 (tot l 3)) := X9.cell rfl
      have s2 : W9.cell? ⟨w.heap.size, 2, none⟩ = some (.int .i64 (tot l 4)) := X9.cell rfl
      have s3 : W9.cell? ⟨w.heap.size, 3, none⟩ = some (.int .i64 (tot l 5)) := X9.cell rfl
      go_wp2
      go_region
      go_wp2
      try simp only [Exit.inBlock, Exit.then]
      refine bodyPost_ret (by simp [results, Tryd.results45, go_sem, s0, s1, s2, s3]; rfl) rfl ?_
      refine ⟨by rw [HC.out]; rfl, ?_⟩
      exact (hb.trans B9).drew
def overB (l : List Kt) : Bool := decide (1099511627776 < tot l 2) || (decide (1099511627776 < tot l 3) || (decide (1099511627776 < tot l 4) || (decide (1099511627776 < tot l 5) || decide (1099511627776 < tot l 0))))
theorem overB_no {l : List Kt} (h : overB l = false) {a b : Nat} (p : Part a b) : tot l a ≤ 1099511627776 := by
  unfold overB at h
  simp only [Bool.or_eq_false_iff, decide_eq_false_iff_not] at h
  obtain ⟨h2, h3, h4, h5, h0⟩ := h
  rcases p with ⟨rfl, rfl⟩ | ⟨p1, p2, rfl⟩
  · omega
  · rcases (show a = 2 ∨ a = 3 ∨ a = 4 ∨ a = 5 by omega) with rfl | rfl | rfl | rfl <;> omega
set_option maxRecDepth 100000 in
set_option maxHeartbeats 2000000 in
theorem overW_calls (w : World) (h : Lw w p b g l) : Calls Tryd.prog 44 #[.pointer (some ⟨p, 0, none⟩)] w fun e w' => e = .returned (.bool (overB l)) ∧ Below w.heap.size w w' := by
  have HT : Hid _ := totalsW_calls w h
  have HR : Hid (overB l = (decide (1099511627776 < tot l 2) || (decide (1099511627776 < tot l 3) || (decide (1099511627776 < tot l 4) || (decide (1099511627776 < tot l 5) || decide (1099511627776 < tot l 0)))))) := rfl
  generalize overB l = R at *
  unfold totV gC at HT
  clear h
  generalize tot l = f at *
  go_enter Tryd.func44, Tryd.ntmps44
  go_wp2_with fail
  refine Calls.mono HT.out ?_
  rintro e w1 ⟨rfl, b1⟩
  clear HT
  have z1 := b1.size
  obtain ⟨W2, hW2, X2, B2⟩ : ∃ W2, (w1.alloc (.cells #[.int .i64 (f 2), .int .i64 (f 3), .int .i64 (f 4), .int .i64 (f 5)] 63)) = W2 ∧ Blk W2 w1.heap.size #[.int .i64 (f 2), .int .i64 (f 3), .int .i64 (f 4), .int .i64 (f 5)] 63 ∧ Below w1.heap.size w1 W2 := ⟨_, rfl, blk_new _ _ _ _ rfl, by go_grown⟩
  have c0 : W2.cell? ⟨w1.heap.size, 0, none⟩ = some (.int .i64 (f 2)) := X2.cell rfl
  have c1 : W2.cell? ⟨w1.heap.size, 1, none⟩ = some (.int .i64 (f 3)) := X2.cell rfl
  have c2 : W2.cell? ⟨w1.heap.size, 2, none⟩ = some (.int .i64 (f 4)) := X2.cell rfl
  have c3 : W2.cell? ⟨w1.heap.size, 3, none⟩ = some (.int .i64 (f 5)) := X2.cell rfl
  have HB : Hid (Below w.heap.size w W2) := b1.trans (B2.mono z1)
  clear B2 X2
  go_wp2_with fail
  go_loopw [13] (fun i wr => ∃ j : Nat, j ≤ 4 ∧ i = .int .i64 j ∧ Hid (∀ k, k < j → decide (1099511627776 < f (2 + k)) = false) ∧ wr = W2) (fun i _ => 4 - (intOf i).toNat)
  case atStart => exact ⟨0, by omega, rfl, fun k hk => by omega, rfl⟩
  case round =>
    obtain ⟨j, hj, rfl, HJ, rfl⟩ := hrel
    by_cases hlt : j < 4
    · have : j = 0 ∨ j = 1 ∨ j = 2 ∨ j = 3 := by omega
      rcases this with rfl | rfl | rfl | rfl
      · cases d : decide (1099511627776 < f 2)
        · go_wp2_with fail
          refine ⟨⟨1, by omega, rfl, fun k hk => ?_, trivial⟩, by simp [intOf]⟩
          by_cases e : k = 0
          · rw [e]; exact d
          · exact HJ.out k (by omega)
        · have hf : Hid (R = true) := by
            show _ = _
            rw [HR.out, d]
            simp
          go_wp2
          go_ret
          exact ⟨by rw [hf.out]; first | rfl | simp, HB.out⟩
      · cases d : decide (1099511627776 < f 3)
        · go_wp2_with fail
          refine ⟨⟨2, by omega, rfl, fun k hk => ?_, trivial⟩, by simp [intOf]⟩
          by_cases e : k = 1
          · rw [e]; exact d
          · exact HJ.out k (by omega)
        · have hf : Hid (R = true) := by
            show _ = _
            rw [HR.out, d]
            simp
          go_wp2
          go_ret
          exact ⟨by rw [hf.out]; first | rfl | simp, HB.out⟩
      · cases d : decide (1099511627776 < f 4)
        · go_wp2_with fail
          refine ⟨⟨3, by omega, rfl, fun k hk => ?_, trivial⟩, by simp [intOf]⟩
          by_cases e : k = 2
          · rw [e]; exact d
          · exact HJ.out k (by omega)
        · have hf : Hid (R = true) := by
            show _ = _
            rw [HR.out, d]
            simp
          go_wp2
          go_ret
          exact ⟨by rw [hf.out]; first | rfl | simp, HB.out⟩
      · cases d : decide (1099511627776 < f 5)
        · go_wp2_with fail
          refine ⟨⟨4, by omega, rfl, fun k hk => ?_, trivial⟩, by simp [intOf]⟩
          by_cases e : k = 3
          · rw [e]; exact d
          · exact HJ.out k (by omega)
        · have hf : Hid (R = true) := by
            show _ = _
            rw [HR.out, d]
            simp
          go_wp2
          go_ret
          exact ⟨by rw [hf.out]; first | rfl | simp, HB.out⟩
    · have hj4 : j = 4 := by omega
      subst hj4
      have g0 := HJ.out 0 (by omega)
      have g1 := HJ.out 1 (by omega)
      have g2 := HJ.out 2 (by omega)
      have g3 := HJ.out 3 (by omega)
      simp only [Nat.add_zero, show 2 + 1 = 3 from rfl, show 2 + 2 = 4 from rfl, show 2 + 3 = 5 from rfl] at g0 g1 g2 g3
      have HR2 : Hid (R = decide (1099511627776 < f 0)) := by show _ = _; rw [HR.out, g0, g1, g2, g3]; rfl
      clear g0 g1 g2 g3 HR HJ
      cases d : decide (1099511627776 < f 0)
      all_goals rw [d] at HR2
      all_goals go_wp2
      all_goals go_ret
      all_goals exact ⟨by rw [HR2.out]; first | rfl | simp, HB.out⟩
end Go.Proofs.YtmcafgmjfgfaeaaDoor
