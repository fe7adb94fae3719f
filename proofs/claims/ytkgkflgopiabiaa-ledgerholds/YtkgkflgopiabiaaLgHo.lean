/- LedgerHolds for every script: it answers true. -/
import Derived.Test.YtkgkflgopiabiaaLgE
import Derived.Test.YtkgkflgopiabiaaLgJ
namespace Go.Proofs.Ytkgkflgopiabiaa
open Go.RowKit
set_option linter.unusedSimpArgs false
set_option linter.unusedVariables false

theorem accA_get (k : Kt) (q : Nat) (h : q < 10) : (accA k)[q]? = some (.int .i64 (k.n q)) := by
  have : q = 0 ∨ q = 1 ∨ q = 2 ∨ q = 3 ∨ q = 4 ∨ q = 5 ∨ q = 6 ∨ q = 7 ∨ q = 8 ∨ q = 9 := by omega
  rcases this with rfl | rfl | rfl | rfl | rfl | rfl | rfl | rfl | rfl | rfl <;> rfl

set_option maxRecDepth 100000 in
set_option maxHeartbeats 2000000 in
theorem holds_calls (v : Value) (ls : List Ac) (w : World) (hl : Acs w v ls) (hz : ls.length * 56 ≤ 140737488351232) :
    Calls Try.prog 5 #[v] w fun e w' => e = .returned (.bool true) ∧ Below w.heap.size w w' := by
  have HB : Hid _ := begun_calls v ls w hl hz
  have HA : Hid _ := awake_calls
  have hlen : (runs 2 empty3 (ls.take 100)).length = 3 := foldl_len 2 _ empty3
  generalize runs 2 empty3 (ls.take 100) = L at *
  go_enter Try.func5, Try.ntmps5
  go_wp2_with fail
  refine Calls.mono HB.out ?_
  rintro e w1 ⟨p, b, rfl, L1, b1, hp, hb⟩
  clear HB hl hz
  have HT : Hid _ := totals_calls w1 L1
  unfold totV gC at HT
  go_wp2_with fail
  refine Calls.mono HT.out ?_
  rintro e w2 ⟨rfl, b2⟩
  clear HT
  obtain ⟨W3, hW3, X3, B3⟩ : ∃ W3, (w2.alloc (.cells #[.int .i64 (tot L 2), .int .i64 (tot L 3), .int .i64 (tot L 4), .int .i64 (tot L 5)] 41)) = W3 ∧ Blk W3 w2.heap.size (gC (tot L)) 41 ∧ Below w2.heap.size w2 W3 := ⟨_, rfl, blk_new _ _ _ _ rfl, by go_grown⟩
  have L3 := (L1.below b2).below B3
  have z1 := b1.size
  have z2 := b2.size
  have z3 := B3.size
  have BB : Below w.heap.size w W3 := (b1.trans (b2.mono (by omega))).trans (B3.mono (by omega))
  have inv := L3.inv
  have t0 := inv.all 0 1 part0
  have t0' := tot_nonneg L 0 (inv.nn part0)
  have hd0 : decide (tot L 0 < 0) = false := decide_eq_false (by omega)
  have hd1 : decide (1099511627776 < tot L 0) = false := decide_eq_false (by omega)
  have HI : Hid _ := inv
  clear inv
  go_wp2
  go_loopw [6] (fun i wr => ∃ k : Nat, k ≤ 3 ∧ i = .int .i64 k ∧ Lg wr p b 2 L ∧ Blk wr w2.heap.size (gC (tot L)) 41 ∧ Below w.heap.size w wr) (fun i _ => 3 - (intOf i).toNat)
  case atStart => exact ⟨0, by omega, rfl, L3, X3, BB⟩
  case round =>
    obtain ⟨k, hk, rfl, Lr, Xr, br⟩ := hrel
    by_cases hlt : k < 3
    · have hd : decide ((k : Int) < 3) = true := by simp only [decide_eq_true_eq]; omega
      have hac := account_ok wr Lr k (by omega) (by omega)
      rw [Int.toNat_natCast] at hac
      have hi0 := HI.out.held k (by omega) 0 1 part0
      have HH : Hid (∀ q, q < 4 → 0 ≤ (kAt L k).n (6 + q) ∧ (kAt L k).n (6 + q) ≤ (kAt L k).n (2 + q) ∧ tot L (2 + q) ≤ 1099511627776 ∧ (1 < q → (kAt L k).n (2 + q) = 0)) := fun q hq => by
        have h1 := HI.out.held k (by omega) _ _ (partG q hq)
        have h2 := HI.out.all _ _ (partG q hq)
        exact ⟨h1.1, h1.2, h2, fun h => HI.out.none k (by omega) (2 + q) (by omega) (by omega)⟩
      have HG : Hid (∀ q, q < 10 → (accA (kAt L k))[q]? = some (.int .i64 ((kAt L k).n q))) := fun q hq => accA_get _ q hq
      generalize kAt L k = ka at *
      have HAC : Hid _ := hac
      clear hac
      unfold accV at HAC
      have hA : accA ka = #[.int .i64 (ka.n 0), .int .i64 (ka.n 1), .int .i64 (ka.n 2), .int .i64 (ka.n 3), .int .i64 (ka.n 4), .int .i64 (ka.n 5), .int .i64 (ka.n 6), .int .i64 (ka.n 7), .int .i64 (ka.n 8), .int .i64 (ka.n 9)] := rfl
      have HAA : Hid _ := hA
      rw [hA] at HAC
      clear hA
      go_wp2_with fail
      refine Calls.mono HAC.out ?_
      rintro e w4 ⟨rfl, b4⟩
      clear HAC
      obtain ⟨W5, hW5, X5, B5⟩ : ∃ W5, (w4.alloc (.cells #[.int .i64 (ka.n 0), .int .i64 (ka.n 1), .int .i64 (ka.n 2), .int .i64 (ka.n 3), .int .i64 (ka.n 4), .int .i64 (ka.n 5), .int .i64 (ka.n 6), .int .i64 (ka.n 7), .int .i64 (ka.n 8), .int .i64 (ka.n 9)] 47)) = W5 ∧ Blk W5 w4.heap.size (accA ka) 47 ∧ Below w4.heap.size w4 W5 := ⟨_, rfl, blk_new _ _ _ _ rfl, by go_grown⟩
      have c0 : W5.cell? ⟨w4.heap.size, 0, none⟩ = some (.int .i64 (ka.n 0)) := X5.cell rfl
      have c1 : W5.cell? ⟨w4.heap.size, 1, none⟩ = some (.int .i64 (ka.n 1)) := X5.cell rfl
      have L5 := (Lr.below b4).below B5
      have Y5 := (Xr.below b4).below B5
      have q4 := b4.size
      have q5 := B5.size
      have zr := br.size
      have BW : Below w.heap.size w W5 := (br.trans (b4.mono (by omega))).trans (B5.mono (by omega))
      have e0 : decide (ka.n 1 < 0) = false := decide_eq_false (by omega)
      have e1 : decide (ka.n 0 < ka.n 1) = false := decide_eq_false (by omega)
      go_wp2
      rename World => wq
      go_loopw [9] (fun i wr => ∃ j : Nat, j ≤ 4 ∧ i = .int .i64 j ∧ Lg wr p b 2 L ∧ Blk wr w2.heap.size (gC (tot L)) 41 ∧ Blk wr w4.heap.size (accA ka) 47 ∧ Below w.heap.size w wr) (fun i _ => 4 - (intOf i).toNat)
      case atStart => exact ⟨0, by omega, rfl, L5, Y5, X5, BW⟩
      case round =>
        obtain ⟨j, hj, rfl, Lq, Yq, Xq, bq⟩ := hrel
        by_cases hjt : j < 4
        · have hdj : decide ((j : Int) < 4) = true := by simp only [decide_eq_true_eq]; omega
          obtain ⟨f1, f2, f3, f4⟩ := HH.out j hjt
          have g1 := Xq.cell (HG.out (6 + j) (by omega))
          have g2 := Xq.cell (HG.out (2 + j) (by omega))
          have g3 := Yq.cell (gC_get (tot L) j hjt)
          have i1 : decide (ka.n (6 + j) < 0) = false := decide_eq_false (by omega)
          have i2 : decide (ka.n (2 + j) < ka.n (6 + j)) = false := decide_eq_false (by omega)
          have i3 : decide (1099511627776 < tot L (2 + j)) = false := decide_eq_false (by omega)
          generalize ka.n (6 + j) = x at *
          generalize tot L (2 + j) = t at *
          by_cases h1 : 1 < j
          · have i4 : decide (1 < (j : Int)) = true := decide_eq_true (by omega)
            have i5 := f4 h1
            rw [i5] at g2 i2
            clear f4 i5
            go_wp2
            go_quiet (fail)
            go_wp2
            refine ⟨⟨j + 1, by omega, by norm_cast, ?_⟩, ?_⟩
            · exact ⟨Lq.below (drewN_below _ _ _), Yq.below (drewN_below _ _ _), Xq.below (drewN_below _ _ _), bq.trans (drewN_below _ _ _)⟩
            · simp [intOf]; omega
          · have i4 : decide (1 < (j : Int)) = false := decide_eq_false (by omega)
            clear f4
            generalize ka.n (2 + j) = y at *
            go_wp2
            go_quiet (fail)
            go_wp2
            refine ⟨⟨j + 1, by omega, by norm_cast, ?_⟩, ?_⟩
            · exact ⟨Lq.below (drewN_below _ _ _), Yq.below (drewN_below _ _ _), Xq.below (drewN_below _ _ _), bq.trans (drewN_below _ _ _)⟩
            · simp [intOf]; omega
        · have hdj : decide ((j : Int) < 4) = false := by simp only [decide_eq_false_iff_not]; omega
          go_wp2
          refine ⟨⟨k + 1, by omega, by norm_cast, Lq, Yq, bq⟩, ?_⟩
          simp [intOf]; omega
    · have hd : decide ((k : Int) < 3) = false := by simp only [decide_eq_false_iff_not]; omega
      go_wp2_with fail
      refine (HA.out _).mono ?_
      rintro e w6 ⟨rfl, b6⟩
      go_wp2
      go_ret
      exact ⟨rfl, br.trans (b6.mono br.size)⟩
end Go.Proofs.Ytkgkflgopiabiaa
