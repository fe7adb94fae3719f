/- The program's Median, and QuoteMedian for every floats. -/
import Derived.Test.YtoblekdjncikaaaQtMe
namespace Go.Proofs.Ytoblekdjncikaaa
open Go.RowKit
set_option linter.unusedSimpArgs false
set_option linter.unusedVariables false

set_option maxHeartbeats 2000000 in
set_option maxRecDepth 100000 in
theorem median_calls (lv : Value) (l : List Nat) (w : World) (hl : Fls w lv l) (hz : l.length ≤ 1000) :
    Calls Try.prog 15 #[lv] w fun e w' => e = .returned (.float .f64 (medR l)) ∧ Below w.heap.size w w' := by
  have HS : Hid _ := fun wx => sorted_calls lv l wx
  have HF : Hid _ := hl
  have HL : Hid _ := fls_bound hl
  have hnl : (nums l).length ≤ l.length := List.length_filter_le _ _
  have hsl : (srtR l).length = l.length := srtR_length _
  have HNa : Hid _ := fun j hj => srt_nan (l := l) HL.out j hj
  have HFr : Hid _ := fun j hj => srt_front (l := l) HL.out j hj
  generalize hA : medR l = A at *
  have HA : Hid _ := hA
  clear hA hl
  unfold medR at HA
  generalize (nums l).length = n at *
  generalize srtR (nums l) = s at *
  go_enter Try.func15, Try.ntmps15
  go_wp2_with fail
  refine (HS.out _ HF.out hz).mono ?_
  rintro e w1 ⟨g, rfl, hg, hX, b1⟩
  generalize srtR l = t at *
  have HX : Hid _ := hX
  clear hX
  have hgl : g < w1.heap.size := Blk.lt HX.out
  go_wp2_with fail
  rename World => W1
  go_loopw [4] (fun i wr => ∃ k : Nat, n ≤ k ∧ k ≤ l.length ∧ i = .int .i64 k ∧ Below W1.heap.size W1 wr) (fun i _ => (intOf i).toNat)
  case atStart => exact ⟨l.length, hnl, Nat.le_refl _, rfl, Below.refl _ _⟩
  case round =>
    obtain ⟨k, hnk, hkl, rfl, hb⟩ := hrel
    by_cases hk0 : k = 0
    · subst hk0
      have hn0 : n = 0 := by omega
      subst hn0
      rw [if_pos rfl] at HA
      go_wp2_with fail
      refine (nan_calls _).mono ?_
      rintro e w2 ⟨rfl, rfl⟩
      go_wp2
      go_ret
      exact ⟨by rw [← HA.out]; rfl, b1.trans (hb.mono b1.size)⟩
    · obtain ⟨q, rfl⟩ : ∃ q, k = q + 1 := ⟨k - 1, by omega⟩
      have hqt : q < t.length := by omega
      have hd : decide (0 < ((q + 1 : Nat) : Int)) = true := by simp only [decide_eq_true_eq]; omega
      have hi1 : IntKind.i64.wrap (((q + 1 : Nat) : Int) - 1) = (q : Int) := by rw [IntKind.wrap_i64]; omega
      have hi2 : IntKind.i64.wrap (q : Int) = (q : Int) := by rw [IntKind.wrap_i64]; omega
      have t2 : (q : Int) < (l.length : Int) := by omega
      have t5 : q < l.length := by omega
      have c0 := (Blk.below HX.out hb).cell (flC_arr t q hqt)
      have hna := HNa.out q hqt
      generalize t[q] = x at *
      go_wp2_with fail
      refine (isNaN_calls x _).mono ?_
      rintro e w2 ⟨rfl, rfl⟩
      by_cases hnq : n ≤ q
      · rw [hna, decide_eq_true hnq]
        clear hna
        go_wp2_with fail
        exact ⟨⟨q, by omega, by omega, by go_num, hb⟩, by simp [intOf]⟩
      · rw [hna, decide_eq_false hnq]
        clear hna c0
        have hnq' : n = q + 1 := by omega
        subst hnq'
        rw [if_neg (by omega)] at HA
        have hne : (((q + 1 : Nat) : Int) == 0) = false := by rw [beq_eq_false_iff_ne]; omega
        have hq := tdiv_two (q + 1)
        have hr := tmod_two (q + 1)
        by_cases h1 : (q + 1) % 2 = 1
        · rw [if_pos h1] at HA
          rw [h1] at hr
          obtain ⟨ht, he⟩ := HFr.out ((q + 1) / 2) (by omega)
          rw [← he] at HA
          have c1 := (Blk.below HX.out hb).cell (flC_arr t ((q + 1) / 2) ht)
          have hlt2 : (q + 1) / 2 < l.length := by omega
          generalize t[(q + 1) / 2] = y at *
          generalize (q + 1) / 2 = m at *
          have t6 : (m : Int) < (l.length : Int) := by omega
          have hne2 : ((q : Int) + 1 == 0) = false := by rw [beq_eq_false_iff_ne]; omega
          rw [show (((q + 1 : Nat) : Int)) = (q : Int) + 1 from rfl] at hq hr
          clear he
          go_wp2_with fail
          go_ret
          exact ⟨by rw [← HA.out]; rfl, b1.trans (hb.mono b1.size)⟩
        · rw [if_neg h1] at HA
          rw [show (q + 1) % 2 = 0 by omega] at hr
          obtain ⟨ht, he⟩ := HFr.out ((q + 1) / 2) (by omega)
          obtain ⟨ht2, he2⟩ := HFr.out ((q + 1) / 2 - 1) (by omega)
          rw [← he, ← he2] at HA
          have c1 := (Blk.below HX.out hb).cell (flC_arr t ((q + 1) / 2) ht)
          have c2 := (Blk.below HX.out hb).cell (flC_arr t ((q + 1) / 2 - 1) ht2)
          have hlt2 : (q + 1) / 2 < l.length := by omega
          have hpos2 : 1 ≤ (q + 1) / 2 := by omega
          generalize t[(q + 1) / 2] = y at *
          generalize t[(q + 1) / 2 - 1] = z at *
          generalize (q + 1) / 2 = m at *
          obtain ⟨r, rfl⟩ : ∃ r, m = r + 1 := ⟨m - 1, by omega⟩
          rw [Nat.add_sub_cancel] at c2
          have hne2 : ((q : Int) + 1 == 0) = false := by rw [beq_eq_false_iff_ne]; omega
          rw [show (((q + 1 : Nat) : Int)) = (q : Int) + 1 from rfl] at hq hr
          have hi3 : IntKind.i64.wrap (((r + 1 : Nat) : Int) - 1) = (r : Int) := by rw [IntKind.wrap_i64]; omega
          have hi4 : IntKind.i64.wrap (r : Int) = (r : Int) := by rw [IntKind.wrap_i64]; omega
          have s1 : (0 : Int) ≤ (r : Int) := by omega
          have s2 : (r : Int) < (l.length : Int) := by omega
          have s3 : (r : Int) + 1 < (l.length : Int) := by omega
          have s4 : (0 : Int) ≤ (r : Int) + 1 := by omega
          have s5 : r < l.length := by omega
          have hi5 : IntKind.i64.wrap ((r : Int) + 1) = (r : Int) + 1 := by rw [IntKind.wrap_i64]; omega
          have hi6 : IntKind.i64.wrap ((r : Int) + 1 - 1) = (r : Int) := by rw [IntKind.wrap_i64]; omega
          rw [show (((r + 1 : Nat) : Int)) = (r : Int) + 1 from rfl] at hq
          have hq2 : (((q + 1 : Nat) : Int)).tdiv 2 = (r : Int) + 1 := hq
          have HM : Hid _ := fun wx => mid_calls z y wx
          clear he he2
          go_wp2_with fail
          go_region_with (go_at_call 33; refine (HM.out _).mono ?_; rintro e w3 ⟨rfl, b3⟩)
          all_goals
            go_wp2_with fail
            go_ret
            have hB := b1.trans (hb.mono b1.size)
            exact ⟨by rw [← HA.out]; rfl, hB.trans ((Below.refl _ _).drew.trans (b3.mono (by simp; exact hB.size)))⟩
end Go.Proofs.Ytoblekdjncikaaa
