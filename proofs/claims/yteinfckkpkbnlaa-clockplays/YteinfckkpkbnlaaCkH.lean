/- The document's Shares. -/
import Derived.Test.YteinfckkpkbnlaaCkG
namespace Go.Proofs.Yteinfckkpkbnlaa
open Go.RowKit
set_option linter.unusedSimpArgs false
set_option linter.unusedVariables false

set_option maxRecDepth 100000 in
set_option maxHeartbeats 1000000 in
theorem refShares_bad (v : Value) (l : List Int) (n : Int) (w : World) (hv : Rd w v l) (hz : l.length ≤ 140737488351232) (h : ¬ Sh n l) :
    Calls Try.prog 39 #[.int .i64 n, v] w fun e w' => e = .returned (.tuple #[.slice none 0 0, .bool false]) ∧ w' = w := by
  have hv' := hv
  obtain ⟨c, cap, rfl, hc⟩ := hv'
  have HC : Hid _ := hc
  have HV : Hid _ := hv
  have HN : Hid _ := h
  clear hc hv h
  go_enter Try.func39, Try.ntmps39
  go_wp2
  go_loopw [6] (fun i wr => ∃ k : Nat, k ≤ l.length ∧ i = .int .i64 k ∧ (∀ j, j < k → 0 ≤ gAt l j ∧ gAt l j ≤ 1048576) ∧ wr = w) (fun i _ => l.length - (intOf i).toNat)
  case atStart => exact ⟨0, Nat.zero_le _, rfl, fun j hj => absurd hj (Nat.not_lt_zero _), rfl⟩
  case round =>
    obtain ⟨k, hk, rfl, hal, rfl⟩ := hrel
    have HAL : Hid _ := hal
    clear hal
    by_cases hlt : k < l.length
    · have hd : decide ((k : Int) < l.length) = true := by simp only [decide_eq_true_eq]; omega
      obtain ⟨g, off, rfl, hg, hx⟩ := HC.out k hlt
      generalize hy : gAt l k = y at *
      have HY : Hid _ := hy
      clear hy
      by_cases h1 : y < 0
      · have d1 : decide (y < 0) = true := decide_eq_true h1
        go_wp2
        go_ret2
        exact ⟨rfl, rfl⟩
      · have d1 : decide (y < 0) = false := decide_eq_false h1
        by_cases h2 : 1048576 < y
        · have d2 : decide (1048576 < y) = true := decide_eq_true h2
          go_wp2
          go_ret2
          exact ⟨rfl, rfl⟩
        · have d2 : decide (1048576 < y) = false := decide_eq_false h2
          go_wp2
          refine ⟨⟨k + 1, by omega, by norm_cast, ?_, by trivial⟩, ?_⟩
          · intro j hj
            by_cases e : j = k
            · subst e; rw [HY.out]; omega
            · exact HAL.out j (by omega)
          · simp [intOf]; omega
    · have hd : decide ((k : Int) < l.length) = false := by simp only [decide_eq_false_iff_not]; omega
      have hkk : k = l.length := by omega
      subst hkk
      by_cases h1 : 16 < l.length
      · have d1 : decide (16 < (l.length : Int)) = true := decide_eq_true (by omega)
        go_wp2
        go_ret2
        exact ⟨rfl, rfl⟩
      · have d1 : decide (16 < (l.length : Int)) = false := decide_eq_false (by omega)
        by_cases h2 : n < 0
        · have d2 : decide (n < 0) = true := decide_eq_true h2
          go_wp2
          go_ret2
          exact ⟨rfl, rfl⟩
        · have d2 : decide (n < 0) = false := decide_eq_false h2
          by_cases h3 : 1048576 < n
          · have d3 : decide (1048576 < n) = true := decide_eq_true h3
            go_wp2
            go_ret2
            exact ⟨rfl, rfl⟩
          · have d3 : decide (1048576 < n) = false := decide_eq_false h3
            have hs := sum_calls _ l wr HV.out hz (sumSmall (by omega) fun i hi => by have := HAL.out i hi; omega)
            have hlt4 : sumL l < n := Int.not_le.1 fun e => HN.out ⟨by omega, HAL.out, by omega, by omega, e⟩
            generalize sumL l = S at *
            have d4 : decide (S < n) = true := decide_eq_true hlt4
            go_wp2_with fail
            refine hs.mono ?_
            rintro e w2 ⟨rfl, rfl⟩
            go_wp2
            go_ret2
            exact ⟨rfl, rfl⟩

theorem tab_snoc (k : Nat) (f : Nat → Int) : tab (k + 1) f = tab k f ++ [f k] := by
  unfold tab; rw [List.range_succ, List.map_append]; rfl

set_option maxRecDepth 100000 in
set_option maxHeartbeats 2000000 in
theorem refShares_ok (v : Value) (l : List Int) (n : Int) (w : World) (hv : Rd w v l) (h : Sh n l) :
    Calls Try.prog 39 #[.int .i64 n, v] w fun e w' => ∃ u, e = .returned (.tuple #[u, .bool true]) ∧ Rwn w' w.heap.size u (shares n l) ∧ Below w.heap.size w w' := by
  obtain ⟨i0, hi, hz0, hz1, hz2⟩ := info_parts infoInt
  have hg : Shg l := ⟨h.1, h.2.1⟩
  have hlen := h.1
  have hn0 := h.2.2.1
  have hn1 := h.2.2.2.1
  have HV : Hid _ := hv
  have hs := sum_calls _ l w hv (by omega) (sumSmall (by omega) fun i hi => by have := h.2.1 i hi; omega)
  have hs4 := h.2.2.2.2
  obtain ⟨c, cap, rfl, hc⟩ := hv
  have HC : Hid _ := hc
  clear hc
  have HBS : Hid (∀ i, i < l.length → 0 ≤ bas n (sumL l) (gAt l) i ∧ bas n (sumL l) (gAt l) i ≤ gAt l i) := fun i hi => by
    have := bas_ok (m := l.length) (g := gAt l) (n := n) (fun i hi => (h.2.1 i hi).1) hn0 h.2.2.2.2 hi
    exact ⟨this.1, this.2.1⟩
  have HLO : Hid (0 ≤ n - sumTo (bas n (sumL l) (gAt l)) l.length) := (left_ok (m := l.length) (g := gAt l) (n := n) (fun i hi => (h.2.1 i hi).1) hn0 h.2.2.2.2).1
  have hS := hg.sums (Nat.le_refl _)
  have HG : Hid (∀ i, i < l.length → 0 ≤ gAt l i ∧ gAt l i ≤ 1048576) := hg.2
  clear h hg
  have hS1 : 0 ≤ sumL l ∧ sumL l ≤ 16777216 := hS
  have HSZ : Hid (∀ i, i < l.length → gAt l i ≤ sumL l) := fun i hi => one_le (g := gAt l) (m := l.length) (fun j hj => (HG.out j hj).1) hi
  generalize hSl : sumL l = S at *
  have HSL : Hid _ := hSl
  clear hSl hS
  have d4 : decide (S < n) = false := decide_eq_false (by omega)
  have d1 : decide (16 < (l.length : Int)) = false := decide_eq_false (by omega)
  have d2 : decide (n < 0) = false := decide_eq_false (by omega)
  have d3 : decide (1048576 < n) = false := decide_eq_false (by omega)
  go_enter Try.func39, Try.ntmps39
  go_wp2
  go_loopw [6] (fun i wr => ∃ k : Nat, k ≤ l.length ∧ i = .int .i64 k ∧ wr = w) (fun i _ => l.length - (intOf i).toNat)
  case atStart => exact ⟨0, Nat.zero_le _, rfl, rfl⟩
  case round =>
    obtain ⟨k, hk, rfl, rfl⟩ := hrel
    by_cases hlt : k < l.length
    · have hd : decide ((k : Int) < l.length) = true := by simp only [decide_eq_true_eq]; omega
      obtain ⟨g, off, rfl, hg, hx⟩ := HC.out k hlt
      have hgk := HG.out k hlt
      generalize gAt l k = y at *
      have e1 : decide (y < 0) = false := decide_eq_false (by omega)
      have e2 : decide (1048576 < y) = false := decide_eq_false (by omega)
      go_wp2
      refine ⟨⟨k + 1, by omega, by norm_cast, by trivial⟩, ?_⟩
      simp [intOf]; omega
    · have hd : decide ((k : Int) < l.length) = false := by simp only [decide_eq_false_iff_not]; omega
      have hkk : k = l.length := by omega
      subst hkk
      obtain ⟨w0, rfl⟩ : ∃ w0, w0 = wr := ⟨wr, rfl⟩
      go_wp2_with fail
      refine hs.mono ?_
      rintro e w2 ⟨rfl, rfl⟩
      go_wp2_with fail
      refine hs.mono ?_
      rintro e w3 ⟨rfl, rfl⟩
      clear hs hd hlt
      go_wp2
      go_loopw [8, 9] (fun o i wr => ∃ k : Nat, k ≤ l.length ∧ i = .int .i64 k ∧ wr.ownsRow w3.heap.size 3 1 o k (iL (tab k (bas n S (gAt l)))) ∧ Below w3.heap.size w3 wr) (fun _ i _ => l.length - (intOf i).toNat)
      case atStart => exact ⟨0, Nat.zero_le _, rfl, World.ownsRow_nil _ _ _ _, Below.refl _ _⟩
      case round =>
        obtain ⟨k, hk, rfl, ho, br⟩ := hrel
        have zr := br.size
        by_cases hlt : k < l.length
        · have hd : decide ((k : Int) < l.length) = true := by simp only [decide_eq_true_eq]; omega
          obtain ⟨g, off, rfl, hgb, hx0⟩ := HC.out k hlt
          have hx := (br.cell (p := ⟨g, off + k, none⟩) hgb).trans hx0
          clear hx0
          have hgk := HG.out k hlt
          have hbk := HBS.out k hlt
          have hle := HSZ.out k hlt
          have HO : Hid _ := ho
          have HT : Hid _ := tab_snoc k (bas n S (gAt l))
          clear ho
          by_cases h0 : 0 < S
          · have e0 : decide (0 < S) = true := decide_eq_true h0
            have hm0 : 0 ≤ n * gAt l k := Int.mul_nonneg hn0 (by omega)
            have hbe : bas n S (gAt l) k = (n * gAt l k).tdiv S := by
              unfold bas
              split
              · rfl
              · have : gAt l k = 0 := by omega
                rw [this]; simp
            have hm1 : n * gAt l k ≤ 1048576 * 1048576 := by
              have h1 : n * gAt l k ≤ 1048576 * gAt l k := Int.mul_le_mul_of_nonneg_right hn1 (by omega)
              have h2 : (1048576 : Int) * gAt l k ≤ 1048576 * 1048576 := Int.mul_le_mul_of_nonneg_left hgk.2 (by omega)
              omega
            have hwm : IntKind.i64.wrap (n * gAt l k) = n * gAt l k := by rw [IntKind.wrap_i64]; omega
            have hwq : IntKind.i64.wrap ((n * gAt l k).tdiv S) = bas n S (gAt l) k := by rw [hbe.symm, IntKind.wrap_i64]; omega
            have hSz : (S == 0) = false := by simp; omega
            clear hbe
            generalize bas n S (gAt l) k = bk at *
            generalize gAt l k = gk at *
            go_wp2_with (at_builtin; refine wpList_append_own _ rfl (.tmp 66) (.tmp 68) 43 rfl w3.heap.size 3 i0 (.int .i64 0) 1 8 Try.underlying43 hi hz0 hz1 hz2 rfl (by decide) _ _ _ rfl (World.ownsRow.alloc HO.out _) ⟨wr.heap.size, 0, none⟩ 1 1 [.int .i64 bk] rfl rfl ?c1 ?c2 ?c3 ?c4 ?c5 ?_)
            case c1 => exact cell_one_new _ _ _
            case c2 => intro u hu; simp at hu; subst hu; rfl
            case c3 => unfold maxLen; omega
            case c4 => omega
            case c5 => simp; omega
            intro v' w4 ho' hg' _
            go_wp2
            refine ⟨⟨k + 1, by omega, by norm_cast, ?_, ?_⟩, by simp [intOf]; omega⟩
            · rw [HT.out, iL_snoc]; exact ho'
            · exact below_grownC (br.alloc (by omega) _) hg' (fun q hq => (World.ownsRow.lt HO.out q hq).1) (by simp; omega)
          · have e0 : decide (0 < S) = false := decide_eq_false h0
            have hbe : bas n S (gAt l) k = 0 := by
              unfold bas
              rw [if_neg (by omega)]
            rw [hbe] at HT
            clear hbe hbk
            generalize gAt l k = gk at *
            go_wp2_with (at_builtin; refine wpList_append_own _ rfl (.tmp 66) (.tmp 68) 43 rfl w3.heap.size 3 i0 (.int .i64 0) 1 8 Try.underlying43 hi hz0 hz1 hz2 rfl (by decide) _ _ _ rfl (World.ownsRow.alloc HO.out _) ⟨wr.heap.size, 0, none⟩ 1 1 [.int .i64 0] rfl rfl ?c1 ?c2 ?c3 ?c4 ?c5 ?_)
            case c2 => rfl
            case c3 => unfold maxLen; omega
            case c4 => omega
            case c5 => first | omega | (simp; omega)
            intro v' w4 ho' hg' _
            go_wp2
            refine ⟨⟨k + 1, by omega, by norm_cast, ?_, ?_⟩, by simp [intOf]; omega⟩
            · rw [HT.out, iL_snoc]; exact ho'
            · exact below_grownC (br.alloc (by omega) _) hg' (fun q hq => (World.ownsRow.lt HO.out q hq).1) (by simp; omega)
        · have hd : decide ((k : Int) < l.length) = false := by simp only [decide_eq_false_iff_not]; omega
          have hkk : k = l.length := by omega
          subst hkk
          have HTL : Hid ((tab l.length (bas n S (gAt l))).length = l.length) := tab_len _ _
          have hrw : Rwn wr w3.heap.size u8 (tab l.length (bas n S (gAt l))) := rwn_own (by rw [HTL.out]; exact ho)
          have hS2 := sum_calls u8 (tab l.length (bas n S (gAt l))) wr hrw.rd (by rw [HTL.out]; omega) (sumSmall (by rw [HTL.out]; omega) fun i hi => by
            rw [HTL.out] at hi
            rw [tab_at _ hi]
            have h1 := HBS.out i hi
            have h2 := HG.out i hi
            omega)
          rw [sumL_tab] at hS2
          have HRW : Hid (Rwn wr w3.heap.size u8 (over (tab l.length (bas n S (gAt l))) (shr (n - sumTo (bas n S (gAt l)) l.length) (bas n S (gAt l)) (gAt l)) 0)) := hrw
          have HO2 : Hid _ := ho
          clear ho hrw hlt hd
          have hl00 := HLO.out
          have hsb : 0 ≤ sumTo (bas n S (gAt l)) l.length := sumTo_nonneg fun i hi => (HBS.out i hi).1
          generalize hBB : sumTo (bas n S (gAt l)) l.length = BB at *
          have HBB : Hid _ := hBB
          clear hBB
          obtain ⟨wq, rfl⟩ : ∃ wq, wq = wr := ⟨wr, rfl⟩
          go_wp2_with fail
          refine hS2.mono ?_
          rintro e w5 ⟨rfl, rfl⟩
          clear hS2
          go_wp2
          have hwl : IntKind.i64.wrap (n - BB) = n - BB := by rw [IntKind.wrap_i64]; omega
          generalize hl0 : n - BB = l0 at *
          have HL0 : Hid _ := hl0
          have hl01 : l0 ≤ n := by omega
          clear hl0
          go_loopw [11, 12] (fun f i wr => ∃ k : Nat, k ≤ l.length ∧ i = .int .i64 k ∧ f = .int .i64 (lf l0 (bas n S (gAt l)) (gAt l) k) ∧ Rwn wr w3.heap.size u8 (over (tab l.length (bas n S (gAt l))) (shr l0 (bas n S (gAt l)) (gAt l)) k) ∧ Below w3.heap.size w3 wr) (fun _ i _ => l.length - (intOf i).toNat)
          case atStart => exact ⟨0, Nat.zero_le _, rfl, rfl, HRW.out, br⟩
          case round =>
            obtain ⟨k, hk, rfl, rfl, Yr, cr⟩ := hrel
            have HF : Hid (0 ≤ lf l0 (bas n S (gAt l)) (gAt l) k ∧ lf l0 (bas n S (gAt l)) (gAt l) k ≤ l0) := ⟨lf_nonneg _ _ _ hl00 _, lf_le _ _ _ _⟩
            by_cases hlt : k < l.length
            · have hd : decide ((k : Int) < l.length) = true := by simp only [decide_eq_true_eq]; omega
              have hki : (k : Int) < l.length := by omega
              obtain ⟨g, off, rfl, hgb, hx0⟩ := HC.out k hlt
              have hx := (cr.cell (p := ⟨g, off + k, none⟩) hgb).trans hx0
              clear hx0
              have hgk := HG.out k hlt
              have hbk := HBS.out k hlt
              have hf := HF.out
              have hOL : (over (tab l.length (bas n S (gAt l))) (shr l0 (bas n S (gAt l)) (gAt l)) k).length = l.length := by rw [over_len, HTL.out]
              obtain ⟨g2, cap2, hu8, hB2, hg2, x0, f0, hset⟩ := Yr.at_ (i := k) (by rw [hOL]; exact hlt)
              rw [hOL] at hu8
              rw [over_at _ _ _ _ (by rw [HTL.out]; exact hlt), if_neg (by omega), tab_at _ hlt] at x0
              have HR1 : Hid (shr l0 (bas n S (gAt l)) (gAt l) k = bas n S (gAt l) k + 1 → Rwn (wr.setCell ⟨g2, k, none⟩ (.int .i64 (bas n S (gAt l) k + 1))) w3.heap.size u8 (over (tab l.length (bas n S (gAt l))) (shr l0 (bas n S (gAt l)) (gAt l)) (k + 1))) := fun e => by
                rw [over, e]; exact hset _
              have HR2 : Hid (shr l0 (bas n S (gAt l)) (gAt l) k = bas n S (gAt l) k → Rwn wr w3.heap.size u8 (over (tab l.length (bas n S (gAt l))) (shr l0 (bas n S (gAt l)) (gAt l)) (k + 1))) := fun e => by
                rw [over_same _ _ _ (by rw [HTL.out]; exact hlt) (by rw [tab_at _ hlt, e])]; exact Yr
              have HB2 : Hid (Below w3.heap.size w3 (wr.setCell ⟨g2, k, none⟩ (.int .i64 (bas n S (gAt l) k + 1)))) := cr.setCell (p := ⟨g2, k, none⟩) hB2 _
              have HT : Hid (lf l0 (bas n S (gAt l)) (gAt l) (k + 1) = if 0 < lf l0 (bas n S (gAt l)) (gAt l) k ∧ bas n S (gAt l) k < gAt l k then lf l0 (bas n S (gAt l)) (gAt l) k - 1 else lf l0 (bas n S (gAt l)) (gAt l) k) := rfl
              have HU : Hid (shr l0 (bas n S (gAt l)) (gAt l) k = if 0 < lf l0 (bas n S (gAt l)) (gAt l) k ∧ bas n S (gAt l) k < gAt l k then bas n S (gAt l) k + 1 else bas n S (gAt l) k) := rfl
              have HVO : Hid _ := hu8
              clear hOL hset Yr
              generalize lf l0 (bas n S (gAt l)) (gAt l) k = f at *
              generalize bas n S (gAt l) k = bk at *
              generalize gAt l k = gk at *
              by_cases h1 : 0 < f
              · have hd1 : decide (0 < f) = true := decide_eq_true h1
                by_cases h2 : bk < gk
                · have hd2 : decide (bk < gk) = true := decide_eq_true h2
                  subst hu8
                  clear HVO
                  go_wp2
                  go_quiet (fail)
                  go_wp2
                  rename_i nq
                  refine ⟨⟨k + 1, by omega, by norm_cast, by rw [HT.out, if_pos ⟨h1, h2⟩], ?_, ?_⟩, ?_⟩
                  · exact Rwn.drew (HR1.out (by rw [HU.out, if_pos ⟨h1, h2⟩])) nq
                  · exact HB2.out.trans (drewN_below _ _ nq)
                  · simp [intOf]; omega
                · have hd2 : decide (bk < gk) = false := decide_eq_false h2
                  subst hu8
                  clear HVO
                  go_wp2
                  go_quiet (fail)
                  go_wp2
                  refine ⟨⟨k + 1, by omega, by norm_cast, by rw [HT.out, if_neg (by omega)], Rwn.drew (HR2.out (by rw [HU.out, if_neg (by omega)])) _, cr.trans (drewN_below _ _ _)⟩, ?_⟩
                  simp [intOf]; omega
              · have hd1 : decide (0 < f) = false := decide_eq_false h1
                clear hu8
                go_wp2
                go_quiet (fail)
                go_wp2
                refine ⟨⟨k + 1, by omega, by norm_cast, by rw [HT.out, if_neg (by omega)], Rwn.drew (HR2.out (by rw [HU.out, if_neg (by omega)])) _, cr.trans (drewN_below _ _ _)⟩, ?_⟩
                simp [intOf]; omega
            · have hd : decide ((k : Int) < l.length) = false := by simp only [decide_eq_false_iff_not]; omega
              have hkk : k = l.length := by omega
              have HK : Hid (over (tab l.length (bas n S (gAt l))) (shr l0 (bas n S (gAt l)) (gAt l)) k = shares n l) := by
                show _ = _
                have e := over_all (tab l.length (bas n S (gAt l))) (shr l0 (bas n S (gAt l)) (gAt l))
                rw [HTL.out] at e
                rw [hkk, e]
                unfold shares
                rw [HSL.out, HBB.out, HL0.out]
              clear hkk
              go_wp2
              go_ret2
              refine ⟨_, rfl, ?_, cr⟩
              rw [← HK.out]; exact Yr
end Go.Proofs.Yteinfckkpkbnlaa
