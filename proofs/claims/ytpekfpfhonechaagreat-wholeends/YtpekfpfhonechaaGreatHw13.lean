/- sumOf, Shares, gaps. -/
import Derived.Test.YtpekfpfhonechaaGreatHw11
namespace Go.Proofs.YtpekfpfhonechaaGreat.Clo
open Go.RowKit
set_option linter.unusedSimpArgs false
set_option linter.unusedVariables false
variable {p b : Nat} {a : Au}

/-- Numbers in a slice. -/
def Rd (w : World) (v : Value) (l : List Int) : Prop :=
  ∃ c cap, v = .slice c l.length cap ∧ ∀ i, i < l.length → ∃ g off, c = some ⟨g, off, none⟩ ∧ g < w.heap.size ∧ w.cell? ⟨g, off + i, none⟩ = some (.int .i64 (gAt l i))
theorem Rd.below {w w' : World} {v : Value} {l : List Int} (h : Rd w v l) (hb : Below w.heap.size w w') : Rd w' v l := by
  obtain ⟨c, cap, rfl, hc⟩ := h
  refine ⟨c, cap, rfl, fun i hi => ?_⟩
  obtain ⟨g, off, rfl, hg, hx⟩ := hc i hi
  exact ⟨g, off, rfl, Nat.lt_of_lt_of_le hg hb.size, (hb.cell (p := ⟨g, off + i, none⟩) hg).trans hx⟩
theorem rd_blk {w : World} {k : Nat} {l : List Int} {t : TypeId} (X : Blk w k (iC l) t) (c : Nat) : Rd w (.slice (some ⟨k, 0, none⟩) l.length c) l :=
  ⟨_, _, rfl, fun i hi => ⟨k, 0, rfl, X.lt, by rw [Nat.zero_add]; exact X.cell (iC_get hi)⟩⟩
theorem rd_nil (w : World) : Rd w (.slice none 0 0) [] := ⟨none, 0, rfl, fun i hi => absurd hi (Nat.not_lt_zero _)⟩

theorem infoInt : (Tryz.prog.info? 3).map (fun i => (i.zero, i.size, i.bytes)) = some (some (.int .i64 0), 1, 8) := by kernel_rfl
theorem made_int (k : Nat) : madeCells (Value.int .i64 0).cells (k * 1) = iC (List.replicate k 0) := by
  apply Array.ext_getElem?
  intro i
  by_cases hi : i < k
  · rw [iC_get (by simpa using hi), gAt_rep]
    unfold madeCells
    rw [Array.getElem?_map, Array.getElem?_range, if_pos (by omega)]
    simp [Value.cells, Nat.mod_one]
  · rw [Array.getElem?_eq_none (by rw [size_madeCells]; omega), Array.getElem?_eq_none (by rw [iC_size]; simp; omega)]
theorem make_ints (k : Nat) (hk : k ≤ 1000) (W : World) : (Instr.makeSlice 81 (.int .i64 (k : Int)) (.int .i64 (k : Int))).run Tryz.prog W = .ok (.slice (some ⟨W.heap.size, 0, none⟩) k k) (W.alloc (.cells (iC (List.replicate k 0)) 3)) := by
  obtain ⟨i0, hi, hz0, hz1, hz2⟩ := info_parts infoInt
  have h := run_make (P := Tryz.prog) W 81 3 i0 _ Tryz.underlying81 hi hz0 .i64 .i64 (k : Int) (k : Int) (by omega) (by omega) (by rw [hz2]; omega) (by omega)
  rw [hz1, Int.toNat_natCast, made_int] at h
  exact h

def Shg (l : List Int) : Prop := l.length ≤ 16 ∧ ∀ i, i < l.length → 0 ≤ gAt l i ∧ gAt l i ≤ 1048576
theorem Shg.sums {l : List Int} (h : Shg l) {k : Nat} (hk : k ≤ l.length) : 0 ≤ sumTo (gAt l) k ∧ sumTo (gAt l) k ≤ 16777216 := by
  have hl := h.1
  refine ⟨sumTo_nonneg fun i hi => (h.2 i (by omega)).1, ?_⟩
  have := sumTo_le (f := gAt l) (m := 1048576) (k := k) fun i hi => (h.2 i (by omega)).2
  omega

set_option maxRecDepth 100000 in
theorem sumOf_calls (v : Value) (l : List Int) (w : World) (hv : Rd w v l) (hz : l.length ≤ 140737488351232) (x : Int) (t : Bool) (h1 : Shg l → x = sumL l ∧ t = true) (h2 : ¬ Shg l → x = 0 ∧ t = false) :
    Calls Tryz.prog 154 #[v] w fun e w' => e = .returned (.tuple #[.int .i64 x, .bool t]) ∧ w' = w := by
  obtain ⟨c, cap, rfl, hc⟩ := hv
  have H1 : Hid _ := h1
  have H2 : Hid _ := h2
  have HC : Hid _ := hc
  have HW : Hid _ := fun z => inn_calls z 0 1048576 w
  clear h1 h2 hc
  by_cases hl : 16 < l.length
  · have hd : decide (16 < (l.length : Int)) = true := decide_eq_true (by omega)
    go_enter Tryz.func154, Tryz.ntmps154
    go_wp2
    go_ret2
    obtain ⟨rfl, rfl⟩ := H2.out (fun h => absurd h.1 (by omega))
    exact ⟨rfl, rfl⟩
  · have hd : decide (16 < (l.length : Int)) = false := decide_eq_false (by omega)
    go_enter Tryz.func154, Tryz.ntmps154
    go_wp2
    go_loopw [4, 12] (fun c i wr => ∃ k : Nat, k ≤ l.length ∧ i = .int .i64 k ∧ c = .int .i64 (sumTo (gAt l) k) ∧ (∀ j, j < k → 0 ≤ gAt l j ∧ gAt l j ≤ 1048576) ∧ wr = w) (fun _ i _ => l.length - (intOf i).toNat)
    case atStart => exact ⟨0, Nat.zero_le _, rfl, rfl, fun j hj => absurd hj (Nat.not_lt_zero _), rfl⟩
    case round =>
      obtain ⟨k, hk, rfl, rfl, hal, rfl⟩ := hrel
      have HAL : Hid _ := hal
      by_cases hlt : k < l.length
      · have hd : decide ((k : Int) < l.length) = true := by simp only [decide_eq_true_eq]; omega
        obtain ⟨g, off, rfl, hg, hx⟩ := HC.out k hlt
        have s0 : 0 ≤ sumTo (gAt l) k := sumTo_nonneg fun i hi => (hal i hi).1
        have s1 : sumTo (gAt l) k ≤ 16777216 := by
          have := sumTo_le (f := gAt l) (m := 1048576) (k := k) fun i hi => (hal i hi).2
          omega
        clear hal
        have HT : Hid (sumTo (gAt l) (k + 1) = sumTo (gAt l) k + gAt l k) := rfl
        generalize sumTo (gAt l) k = s at *
        generalize hy : gAt l k = y at *
        have HY : Hid _ := hy
        clear hy
        have hw := HW.out y
        by_cases hq : 0 ≤ y ∧ y ≤ 1048576
        · rw [show decide (0 ≤ y ∧ y ≤ 1048576) = true from decide_eq_true hq] at hw
          go_wp2_with fail
          refine hw.mono ?_
          rintro e w2 ⟨rfl, rfl⟩
          go_wp2
          refine ⟨⟨k + 1, by omega, by norm_cast, by rw [HT.out], ?_, trivial⟩, ?_⟩
          · intro j hj
            by_cases e : j = k
            · subst e; rw [HY.out]; exact hq
            · exact HAL.out j (by omega)
          · simp [intOf]; omega
        · rw [show decide (0 ≤ y ∧ y ≤ 1048576) = false from decide_eq_false hq] at hw
          go_wp2_with fail
          refine hw.mono ?_
          rintro e w2 ⟨rfl, rfl⟩
          go_wp2
          go_ret2
          obtain ⟨rfl, rfl⟩ := H2.out (fun h => hq (by rw [← HY.out]; exact h.2 k hlt))
          exact ⟨rfl, rfl⟩
      · have hd : decide ((k : Int) < l.length) = false := by simp only [decide_eq_false_iff_not]; omega
        have hkk : k = l.length := by omega
        have HK : Hid (sumTo (gAt l) k = sumL l) := by show _ = _; rw [hkk]; rfl
        have HA : Hid (Shg l) := ⟨by omega, fun i hi => hal i (by omega)⟩
        clear hkk hal
        generalize sumTo (gAt l) k = s at *
        go_wp2
        go_ret2
        obtain ⟨rfl, rfl⟩ := H1.out HA.out
        exact ⟨by rw [← HK.out]; rfl, rfl⟩

set_option maxRecDepth 100000 in
set_option maxHeartbeats 1000000 in
theorem shares_ok (v : Value) (l : List Int) (n : Int) (w : World) (hv : Rd w v l) (h : Sh n l) :
    Calls Tryz.prog 143 #[.int .i64 n, v] w fun e w' => e = .returned (.tuple #[.slice (some ⟨w.heap.size, 0, none⟩) l.length l.length, .int .i64 0]) ∧ Blk w' w.heap.size (iC (shares n l)) 3 ∧ Below w.heap.size w w' := by
  have hg : Shg l := ⟨h.1, h.2.1⟩
  have hlen := h.1
  have hn0 := h.2.2.1
  have hn1 := h.2.2.2.1
  have hs := sumOf_calls _ l w hv (by omega) (sumL l) true (fun _ => ⟨rfl, rfl⟩) (fun e => absurd hg e)
  obtain ⟨M, hM⟩ : ∃ M, (if 1048576 < sumL l then 1048576 else sumL l) = M := ⟨_, rfl⟩
  have hw := inn_calls n 0 M w
  have hq : 0 ≤ n ∧ n ≤ M := by
    rw [← hM]
    refine ⟨hn0, ?_⟩
    have := h.2.2.2.2
    split <;> omega
  rw [show decide (0 ≤ n ∧ n ≤ M) = true from decide_eq_true hq] at hw
  obtain ⟨c, cap, rfl, hc⟩ := hv
  have HC : Hid _ := hc
  clear hc
  have hmk := make_ints l.length (by omega) w
  obtain ⟨W1, hW1, X1, B1, Z1⟩ : ∃ W1, w.alloc (.cells (iC (List.replicate l.length 0)) 3) = W1 ∧ Blk W1 w.heap.size (iC (over (List.replicate l.length 0) (bas n (sumL l) (gAt l)) 0)) 3 ∧ Below w.heap.size w W1 ∧ W1.heap.size = w.heap.size + 1 := ⟨_, rfl, blk_new _ _ _ _ rfl, by go_grown, by simp⟩
  have HSH : Hid _ := h
  have HBS : Hid (∀ i, i < l.length → 0 ≤ bas n (sumL l) (gAt l) i ∧ bas n (sumL l) (gAt l) i ≤ gAt l i) := fun i hi => by
    have := bas_ok (m := l.length) (g := gAt l) (n := n) (fun i hi => (h.2.1 i hi).1) hn0 h.2.2.2.2 hi
    exact ⟨this.1, this.2.1⟩
  have HLO : Hid (0 ≤ n - sumTo (bas n (sumL l) (gAt l)) l.length) := (left_ok (m := l.length) (g := gAt l) (n := n) (fun i hi => (h.2.1 i hi).1) hn0 h.2.2.2.2).1
  have hS := hg.sums (Nat.le_refl _)
  have HG : Hid (∀ i, i < l.length → 0 ≤ gAt l i ∧ gAt l i ≤ 1048576) := hg.2
  clear h hg
  generalize hSl : sumL l = S at *
  have hS' : S ≤ 16777216 := by rw [← hSl]; exact hS.2
  have HSL : Hid _ := hSl
  have HSP : Hid (∀ i, i < l.length → 0 < gAt l i → 1 ≤ S) := fun i hi h0 => by
    have := one_le (g := gAt l) (m := l.length) (fun j hj => (HG.out j hj).1) hi
    rw [← hSl]; unfold sumL; omega
  clear hSl hS
  go_enter Tryz.func143, Tryz.ntmps143
  go_wp2_with fail
  refine hs.mono ?_
  rintro e w2 ⟨rfl, rfl⟩
  go_wp2_with fail
  refine hw.mono ?_
  rintro e w2 ⟨rfl, rfl⟩
  clear hw hs
  go_wp2
  go_loopw [9, 34] (fun c i wr => ∃ k : Nat, k ≤ l.length ∧ i = .int .i64 k ∧ c = .int .i64 (n - sumTo (bas n S (gAt l)) k) ∧ Blk wr w2.heap.size (iC (over (List.replicate l.length 0) (bas n S (gAt l)) k)) 3 ∧ Below w2.heap.size w2 wr) (fun _ i _ => l.length - (intOf i).toNat)
  case atStart => exact ⟨0, Nat.zero_le _, rfl, by simp [sumTo], X1, B1⟩
  case round =>
    obtain ⟨k, hk, rfl, rfl, Xr, br⟩ := hrel
    have HS0 : Hid (0 ≤ sumTo (bas n S (gAt l)) k ∧ sumTo (bas n S (gAt l)) k ≤ n) := by
      have h1 : 0 ≤ sumTo (bas n S (gAt l)) k := sumTo_nonneg fun i hi => (HBS.out i (by omega)).1
      have h2 : sumTo (bas n S (gAt l)) k ≤ sumTo (bas n S (gAt l)) l.length := sumTo_part (fun i hi => (HBS.out i hi).1) hk
      have h3 := HLO.out
      exact ⟨h1, by omega⟩
    by_cases hlt : k < l.length
    · have hd : decide ((k : Int) < l.length) = true := by simp only [decide_eq_true_eq]; omega
      obtain ⟨g, off, rfl, hgb, hx0⟩ := HC.out k hlt
      have hx := (br.cell (p := ⟨g, off + k, none⟩) hgb).trans hx0
      clear hx0
      have hgk := HG.out k hlt
      have hbk := HBS.out k hlt
      have hs0 := HS0.out
      have x0 : wr.cell? ⟨w2.heap.size, k, none⟩ = some (.int .i64 0) := by
        have := Xr.cell (iC_get (i := k) (by rw [over_len]; simpa using hlt))
        rw [over_at _ _ _ _ (by simpa using hlt), if_neg (by omega), gAt_rep] at this
        exact this
      have f0 : wr.frozen? ⟨w2.heap.size, k, none⟩ = false := Xr.frozen
      have HT : Hid (sumTo (bas n S (gAt l)) (k + 1) = sumTo (bas n S (gAt l)) k + bas n S (gAt l) k) := rfl
      by_cases h0 : 0 < gAt l k
      · have hdg : decide (0 < gAt l k) = true := decide_eq_true h0
        have hS1 := HSP.out k hlt h0
        have hbe : bas n S (gAt l) k = (n * gAt l k).tdiv S := by unfold bas; rw [if_pos h0]
        have hm0 : 0 ≤ n * gAt l k := Int.mul_nonneg hn0 (by omega)
        have hm1 : n * gAt l k ≤ 1048576 * 1048576 := by
          have h1 : n * gAt l k ≤ 1048576 * gAt l k := Int.mul_le_mul_of_nonneg_right hn1 (by omega)
          have h2 : (1048576 : Int) * gAt l k ≤ 1048576 * 1048576 := Int.mul_le_mul_of_nonneg_left hgk.2 (by omega)
          omega
        have hwm : IntKind.i64.wrap (n * gAt l k) = n * gAt l k := by rw [IntKind.wrap_i64]; omega
        have hwq : IntKind.i64.wrap ((n * gAt l k).tdiv S) = bas n S (gAt l) k := by rw [hbe.symm, IntKind.wrap_i64]; omega
        have hSz : (S == 0) = false := by simp; omega
        have R1 := Xr.set k (.int .i64 (bas n S (gAt l) k))
        rw [iC_set] at R1
        have HR1 : Hid (Blk (wr.setCell ⟨w2.heap.size, k, none⟩ (.int .i64 (bas n S (gAt l) k))) w2.heap.size (iC (over (List.replicate l.length 0) (bas n S (gAt l)) (k + 1))) 3) := R1
        have HB2 : Hid (Below w2.heap.size w2 (wr.setCell ⟨w2.heap.size, k, none⟩ (.int .i64 (bas n S (gAt l) k)))) := br.setCell (p := ⟨w2.heap.size, k, none⟩) (Nat.le_refl _) _
        have x1 : (wr.setCell ⟨w2.heap.size, k, none⟩ (.int .i64 (bas n S (gAt l) k))).cell? ⟨w2.heap.size, k, none⟩ = some (.int .i64 (bas n S (gAt l) k)) := by
          have := Blk.cell HR1.out (iC_get (i := k) (by rw [over_len]; simpa using hlt))
          rw [over_at _ _ _ _ (by simpa using hlt), if_pos (by omega)] at this
          exact this
        clear R1 hbe
        generalize sumTo (bas n S (gAt l)) k = s at *
        generalize bas n S (gAt l) k = bk at *
        generalize gAt l k = gk at *
        obtain ⟨W3, hW3⟩ : ∃ W3, wr.setCell ⟨w2.heap.size, k, none⟩ (.int .i64 bk) = W3 := ⟨_, rfl⟩
        rw [hW3] at HR1 HB2 x1
        go_wp2
        refine ⟨⟨k + 1, by omega, by norm_cast, by rw [HT.out]; congr 1; omega, HR1.out, HB2.out⟩, ?_⟩
        simp [intOf]; omega
      · have hdg : decide (0 < gAt l k) = false := decide_eq_false h0
        have hbe : bas n S (gAt l) k = 0 := by unfold bas; rw [if_neg h0]
        have HO : Hid (over (List.replicate l.length 0) (bas n S (gAt l)) (k + 1) = over (List.replicate l.length 0) (bas n S (gAt l)) k) := over_same _ _ _ (by simpa using hlt) (by rw [gAt_rep, hbe])
        rw [hbe] at HT
        generalize sumTo (bas n S (gAt l)) k = s at *
        generalize gAt l k = gk at *
        clear hbe hbk
        go_wp2
        refine ⟨⟨k + 1, by omega, by norm_cast, by rw [HT.out, Int.add_zero], by rw [HO.out]; exact Xr, br⟩, ?_⟩
        simp [intOf]; omega
    · have hd : decide ((k : Int) < l.length) = false := by simp only [decide_eq_false_iff_not]; omega
      have hkk : k = l.length := by omega
      clear X1 hd hlt
      subst hkk
      generalize hl0 : n - sumTo (bas n S (gAt l)) l.length = l0 at *
      have HL0 : Hid _ := hl0
      have hl00 := HLO.out
      have hl01 : l0 ≤ n := by have := HS0.out; omega
      clear hl0 HS0
      obtain ⟨wq, rfl⟩ : ∃ wq, wq = wr := ⟨wr, rfl⟩
      go_wp2
      go_loopw [9, 58] (fun c i wr => ∃ k : Nat, k ≤ l.length ∧ i = .int .i64 k ∧ c = .int .i64 (lf l0 (bas n S (gAt l)) (gAt l) k) ∧ Blk wr w2.heap.size (iC (over (over (List.replicate l.length 0) (bas n S (gAt l)) l.length) (shr l0 (bas n S (gAt l)) (gAt l)) k)) 3 ∧ Below w2.heap.size w2 wr) (fun _ i _ => l.length - (intOf i).toNat)
      case atStart => exact ⟨0, Nat.zero_le _, rfl, rfl, Xr, br⟩
      case round =>
        obtain ⟨k, hk, rfl, rfl, Yr, cr⟩ := hrel
        have hle : (over (List.replicate l.length 0) (bas n S (gAt l)) l.length).length = l.length := by rw [over_len]; simp
        have HF : Hid (0 ≤ lf l0 (bas n S (gAt l)) (gAt l) k ∧ lf l0 (bas n S (gAt l)) (gAt l) k ≤ l0) := ⟨lf_nonneg _ _ _ hl00 _, lf_le _ _ _ _⟩
        by_cases hlt : k < l.length
        · have hd : decide ((k : Int) < l.length) = true := by simp only [decide_eq_true_eq]; omega
          obtain ⟨g, off, rfl, hgb, hx0⟩ := HC.out k hlt
          have hx := (cr.cell (p := ⟨g, off + k, none⟩) hgb).trans hx0
          clear hx0
          have hgk := HG.out k hlt
          have hbk := HBS.out k hlt
          have hf := HF.out
          have hbase : gAt (over (List.replicate l.length 0) (bas n S (gAt l)) l.length) k = bas n S (gAt l) k := by
            rw [over_at _ _ _ _ (by simpa using hlt), if_pos hlt]
          have x0 : wr.cell? ⟨w2.heap.size, k, none⟩ = some (.int .i64 (bas n S (gAt l) k)) := by
            have := Yr.cell (iC_get (i := k) (by rw [over_len, hle]; exact hlt))
            rw [over_at _ _ _ _ (by rw [hle]; exact hlt), if_neg (by omega), hbase] at this
            exact this
          have f0 : wr.frozen? ⟨w2.heap.size, k, none⟩ = false := Yr.frozen
          have R1 := Yr.set k (.int .i64 (bas n S (gAt l) k + 1))
          rw [iC_set] at R1
          have HR1 : Hid (shr l0 (bas n S (gAt l)) (gAt l) k = bas n S (gAt l) k + 1 → Blk (wr.setCell ⟨w2.heap.size, k, none⟩ (.int .i64 (bas n S (gAt l) k + 1))) w2.heap.size (iC (over (over (List.replicate l.length 0) (bas n S (gAt l)) l.length) (shr l0 (bas n S (gAt l)) (gAt l)) (k + 1))) 3) := fun e => by
            rw [over, e]; exact R1
          have HR2 : Hid (shr l0 (bas n S (gAt l)) (gAt l) k = bas n S (gAt l) k → Blk wr w2.heap.size (iC (over (over (List.replicate l.length 0) (bas n S (gAt l)) l.length) (shr l0 (bas n S (gAt l)) (gAt l)) (k + 1))) 3) := fun e => by
            rw [over_same _ _ _ (by rw [hle]; exact hlt) (by rw [hbase, e])]; exact Yr
          have HB2 : Hid (Below w2.heap.size w2 (wr.setCell ⟨w2.heap.size, k, none⟩ (.int .i64 (bas n S (gAt l) k + 1)))) := cr.setCell (p := ⟨w2.heap.size, k, none⟩) (Nat.le_refl _) _
          have HT : Hid (lf l0 (bas n S (gAt l)) (gAt l) (k + 1) = if 0 < lf l0 (bas n S (gAt l)) (gAt l) k ∧ bas n S (gAt l) k < gAt l k then lf l0 (bas n S (gAt l)) (gAt l) k - 1 else lf l0 (bas n S (gAt l)) (gAt l) k) := rfl
          have HU : Hid (shr l0 (bas n S (gAt l)) (gAt l) k = if 0 < lf l0 (bas n S (gAt l)) (gAt l) k ∧ bas n S (gAt l) k < gAt l k then bas n S (gAt l) k + 1 else bas n S (gAt l) k) := rfl
          clear R1 hbase hle Yr
          generalize lf l0 (bas n S (gAt l)) (gAt l) k = f at *
          generalize bas n S (gAt l) k = bk at *
          generalize gAt l k = gk at *
          by_cases h1 : 0 < f
          · have hd1 : decide (0 < f) = true := decide_eq_true h1
            by_cases h2 : bk < gk
            · have hd2 : decide (bk < gk) = true := decide_eq_true h2
              obtain ⟨W3, hW3⟩ : ∃ W3, wr.setCell ⟨w2.heap.size, k, none⟩ (.int .i64 (bk + 1)) = W3 := ⟨_, rfl⟩
              rw [hW3] at HR1 HB2
              go_wp2
              refine ⟨⟨k + 1, by omega, by norm_cast, by rw [HT.out, if_pos ⟨h1, h2⟩], HR1.out (by rw [HU.out, if_pos ⟨h1, h2⟩]), HB2.out⟩, ?_⟩
              simp [intOf]; omega
            · have hd2 : decide (bk < gk) = false := decide_eq_false h2
              go_wp2
              refine ⟨⟨k + 1, by omega, by norm_cast, by rw [HT.out, if_neg (fun e => h2 e.2)], HR2.out (by rw [HU.out, if_neg (fun e => h2 e.2)]), cr⟩, ?_⟩
              simp [intOf]; omega
          · have hd1 : decide (0 < f) = false := decide_eq_false h1
            go_wp2
            refine ⟨⟨k + 1, by omega, by norm_cast, by rw [HT.out, if_neg (fun e => h1 e.1)], HR2.out (by rw [HU.out, if_neg (fun e => h1 e.1)]), cr⟩, ?_⟩
            simp [intOf]; omega
        · have hd : decide ((k : Int) < l.length) = false := by simp only [decide_eq_false_iff_not]; omega
          have hkk : k = l.length := by omega
          have HK : Hid (iC (over (over (List.replicate l.length 0) (bas n S (gAt l)) l.length) (shr l0 (bas n S (gAt l)) (gAt l)) k) = iC (shares n l)) := by
            show _ = _
            have e := over_all (over (List.replicate l.length 0) (bas n S (gAt l)) l.length) (shr l0 (bas n S (gAt l)) (gAt l))
            rw [hle] at e
            rw [hkk, e]
            unfold shares
            rw [HSL.out, HL0.out]
          clear hkk hle
          go_wp2
          go_ret2
          refine ⟨rfl, ?_, cr⟩
          rw [← HK.out]; exact Yr

def Au.gaps (a : Au) : List Int := tab a.ds.length (fun i => wasOf a.ds i - nowOf a.ds i)
set_option maxRecDepth 100000 in
theorem gaps_calls (w : World) (h : Lc w p b a) : Calls Tryz.prog 144 #[.pointer (some ⟨p, 0, none⟩)] w fun e w' => e = .returned (.slice (some ⟨w.heap.size, 0, none⟩) a.ds.length a.ds.length) ∧ Blk w' w.heap.size (iC a.gaps) 3 ∧ Below w.heap.size w w' := by
  have hlen := h.inv.len
  have c5 : w.cell? ⟨p, 5, none⟩ = some (.slice (some ⟨b, 0, none⟩) a.ds.length a.ds.length) := h.blk.cell rfl
  have hmk := make_ints a.ds.length (by omega) w
  obtain ⟨W1, hW1, X1, B1, Z1⟩ : ∃ W1, w.alloc (.cells (iC (List.replicate a.ds.length 0)) 3) = W1 ∧ Blk W1 w.heap.size (iC (over (List.replicate a.ds.length 0) (fun i => wasOf a.ds i - nowOf a.ds i) 0)) 3 ∧ Below w.heap.size w W1 ∧ W1.heap.size = w.heap.size + 1 := ⟨_, rfl, blk_new _ _ _ _ rfl, by go_grown, by simp⟩
  have HZ : Hid _ := Z1
  clear Z1
  have L1 := h.below B1
  have g5 : W1.cell? ⟨p, 5, none⟩ = some (.slice (some ⟨b, 0, none⟩) a.ds.length a.ds.length) := L1.blk.cell rfl
  go_enter Tryz.func144, Tryz.ntmps144
  go_wp2
  go_loopw [17] (fun i wr => ∃ k : Nat, k ≤ a.ds.length ∧ i = .int .i64 k ∧ Blk wr w.heap.size (iC (over (List.replicate a.ds.length 0) (fun i => wasOf a.ds i - nowOf a.ds i) k)) 3 ∧ Below w.heap.size w wr ∧ w.heap.size < wr.heap.size) (fun i _ => a.ds.length - (intOf i).toNat)
  case atStart => exact ⟨0, Nat.zero_le _, rfl, X1, B1, by have := HZ.out; omega⟩
  case round =>
    obtain ⟨k, hk, rfl, Xr, br, hsz⟩ := hrel
    by_cases hlt : k < a.ds.length
    · have hd : decide ((k : Int) < a.ds.length) = true := by simp only [decide_eq_true_eq]; omega
      have Lr := h.below br
      have n0 := Lr.was hlt
      have n1 := Lr.now hlt
      have t1 := h.inv.dm k hlt
      obtain ⟨W2, hW2, X2, Y2, B2⟩ : ∃ W2, (wr.alloc (.cells #[.int .i64 (wasOf a.ds k), .int .i64 (nowOf a.ds k)] 83)) = W2 ∧ Blk W2 wr.heap.size #[.int .i64 (wasOf a.ds k), .int .i64 (nowOf a.ds k)] 83 ∧ Blk W2 w.heap.size (iC (over (List.replicate a.ds.length 0) (fun i => wasOf a.ds i - nowOf a.ds i) k)) 3 ∧ Below w.heap.size w W2 := ⟨_, rfl, blk_new _ _ _ _ rfl, Xr.alloc _, br.trans (by go_grown)⟩
      have e0 : W2.cell? ⟨wr.heap.size, 0, none⟩ = some (.int .i64 (wasOf a.ds k)) := X2.cell rfl
      have e1 : W2.cell? ⟨wr.heap.size, 1, none⟩ = some (.int .i64 (nowOf a.ds k)) := X2.cell rfl
      have x0 : W2.cell? ⟨w.heap.size, k, none⟩ = some (.int .i64 0) := by
        have := Y2.cell (iC_get (i := k) (by rw [over_len]; simpa using hlt))
        rw [over_at _ _ _ _ (by simpa using hlt), if_neg (by omega), gAt_rep] at this
        exact this
      have f0 : W2.frozen? ⟨w.heap.size, k, none⟩ = false := Y2.frozen
      have R1 := Y2.set k (.int .i64 (wasOf a.ds k - nowOf a.ds k))
      rw [iC_set] at R1
      have HR1 : Hid (Blk (W2.setCell ⟨w.heap.size, k, none⟩ (.int .i64 (wasOf a.ds k - nowOf a.ds k))) w.heap.size (iC (over (List.replicate a.ds.length 0) (fun i => wasOf a.ds i - nowOf a.ds i) (k + 1))) 3) := R1
      have HB2 : Hid (Below w.heap.size w (W2.setCell ⟨w.heap.size, k, none⟩ (.int .i64 (wasOf a.ds k - nowOf a.ds k)))) := B2.setCell (p := ⟨w.heap.size, k, none⟩) (Nat.le_refl _) _
      have HSZ : Hid (w.heap.size < (W2.setCell ⟨w.heap.size, k, none⟩ (.int .i64 (wasOf a.ds k - nowOf a.ds k))).heap.size) := by
        show _ < _
        have := HB2.out.size
        have e : (W2.setCell ⟨w.heap.size, k, none⟩ (.int .i64 (wasOf a.ds k - nowOf a.ds k))).heap.size = W2.heap.size := by simp [World.setCell]
        have := X2.lt
        omega
      clear R1 X2 Y2
      generalize wasOf a.ds k = y at *
      generalize nowOf a.ds k = x at *
      obtain ⟨W3, hW3⟩ : ∃ W3, W2.setCell ⟨w.heap.size, k, none⟩ (.int .i64 (y - x)) = W3 := ⟨_, rfl⟩
      rw [hW3] at HR1 HB2 HSZ
      go_wp2
      refine ⟨⟨k + 1, by omega, by norm_cast, HR1.out, HB2.out, HSZ.out⟩, ?_⟩
      simp [intOf]; omega
    · have hd : decide ((k : Int) < a.ds.length) = false := by simp only [decide_eq_false_iff_not]; omega
      have hkk : k = a.ds.length := by omega
      have HK : Hid (iC (over (List.replicate a.ds.length 0) (fun i => wasOf a.ds i - nowOf a.ds i) k) = iC a.gaps) := by
        show _ = _
        have e := over_all (List.replicate a.ds.length 0) (fun i => wasOf a.ds i - nowOf a.ds i)
        rw [List.length_replicate] at e
        rw [hkk, e]
        rfl
      clear hkk
      go_wp2
      go_ret
      refine ⟨rfl, ?_, br⟩
      rw [← HK.out]; exact Xr
end Go.Proofs.YtpekfpfhonechaaGreat.Clo
