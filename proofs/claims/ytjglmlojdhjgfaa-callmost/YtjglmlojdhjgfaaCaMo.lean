/- At no price more is traded than is told: the walk. -/
import Derived.Test.YtjglmlojdhjgfaaCaRi
import Derived.Test.YtjglmlojdhjgfaaCaTu
namespace Go.Proofs.Ytjglmlojdhjgfaa
open Go.Shelf Go.RowKit Go.Lib Go.Sort
set_option linter.unusedSimpArgs false
set_option linter.unusedVariables false

theorem crs_pr {J : List Od} (h : ∀ o ∈ J, mayB o = true) : 0 ≤ (J.foldl (crS J) (0, 0)).1 ∧ (J.foldl (crS J) (0, 0)).1 ≤ 1099511627776 := by
  have hb := best_all h
  generalize J.foldl (crS J) (0, 0) = s at *
  rcases hb with ⟨rfl, h0⟩ | ⟨q, hq, hs, hpos, hall⟩
  · exact ⟨by decide, by decide⟩
  · have hm := h q hq
    unfold mayB at hm
    simp only [Bool.and_eq_true, decide_eq_true_eq] at hm
    rw [hs]
    exact hm.1.2

set_option maxHeartbeats 16000000 in
set_option maxRecDepth 100000 in
/-- The law behind its cut: no more than 64 orders. -/
theorem most64_calls (g off cap : Nat) (pp : Option Addr) (v0 : Value) (L : List Od) (price : Int) (w : World) (hl : Ods w (.slice pp L.length cap) L) (hn : L.length ≤ 64) (cut : Bool) (n0 cap0 : Nat) (hv0 : v0 = .slice pp n0 cap0)
    (hcut : if cut then 64 < n0 ∧ n0 ≤ cap0 ∧ L.length = 64 ∧ cap = cap0 ∧ pp = some ⟨g, off, none⟩ ∧ n0 ≤ 9223372036854775807 else n0 = L.length ∧ cap = cap0) :
    Calls Try.prog 4 #[v0, .int .i64 price] w fun e w' => e = .returned (.bool true) ∧ Below w.heap.size w w' := by
  have HC : Hid _ := cross_calls (.slice pp L.length cap) L w hl (by omega)
  have hjd : jdg L = L.filter mayB := by unfold jdg; rw [if_neg (by omega)]
  have HT : Hid _ := fun (y : Int) (wx : World) (hb : Below w.heap.size w wx) => refTraded_calls (.slice pp L.length cap) L y wx (hl.below hb) hn
  obtain ⟨J, hJe⟩ : ∃ J, L.filter mayB = J := ⟨_, rfl⟩
  have HJ : Hid (∀ o ∈ J, mayB o = true) := fun o ho => by rw [← hJe] at ho; exact (List.mem_filter.1 ho).2
  rw [hJe] at HT
  obtain ⟨P, N, hPN⟩ : ∃ P N, crs L = (P, N) := ⟨_, _, rfl⟩
  have HCR : Hid ((P, N) = J.foldl (crS J) (0, 0)) := by show _ = _; rw [← hPN, crs, hjd, hJe]
  rw [hPN] at HC
  have hpb := crs_pr HJ.out
  have hNP := (crs_hits HJ.out).2.1
  have hN0 := (crs_hits HJ.out).2.2
  rw [← HCR.out] at hpb hNP hN0
  simp only at hpb hNP hN0
  have HNP : Hid _ := hNP
  obtain ⟨pz, cz, hvz, hcs⟩ := hl
  injection hvz with e1 _ e3
  subst e1 e3
  have HCS : Hid _ := hcs
  clear hcs hPN hJe hjd hNP
  cases cut
  · simp only [Bool.false_eq_true, if_false] at hcut
    obtain ⟨rfl, rfl⟩ := hcut
    subst hv0
    have q0 : ¬ (64 : Int) < (L.length : Int) := by omega
    have q00 : decide ((64 : Int) < (L.length : Int)) = false := decide_eq_false q0
    go_enter Try.func4, Try.ntmps4
    go_wp2_with fail
    refine Calls.mono HC.out ?_
    rintro e w1 ⟨rfl, b1⟩
    have t1 := (crs_most HJ.out price).1
    have t2 := (crs_most HJ.out price).2
    have t3 := (crs_hits HJ.out).1
    rw [← HCR.out] at t1 t2 t3
    simp only at t1 t2 t3
    obtain ⟨T, hT⟩ : ∃ T, trd J price = T := ⟨_, rfl⟩
    obtain ⟨U, hU⟩ : ∃ U, trd J P = U := ⟨_, rfl⟩
    have HTE : Hid _ := hT
    have HUE : Hid _ := hU
    rw [hT] at t1 t2
    rw [hU] at t3
    clear hT hU
    have q1 : decide (N < T) = false := by simp only [decide_eq_false_iff_not]; omega
    have q1p : ¬ N < T := by omega
    by_cases hN : 0 < N
    · have q2 : decide (0 < N) = true := decide_eq_true hN
      by_cases hA : price < P
      · have q3 : decide (price < P) = true := decide_eq_true hA
        have q6 : decide (N ≤ T) = false := by simp only [decide_eq_false_iff_not]; omega
        have q6p : ¬ N ≤ T := by omega
        have q8 : U = N := t3 hN
        have q9 : (U == N) = true := by simpa using q8
        have HCy1 : Hid _ := HT.out price w1 b1
        rw [HTE.out] at HCy1
        go_wp2_with fail
        refine Calls.mono HCy1.out ?_
        rintro e y1 ⟨rfl, by1⟩
        have By1 := b1.trans (by1.mono b1.size)
        have HCy2 : Hid _ := HT.out price y1 By1
        rw [HTE.out] at HCy2
        go_wp2_with fail
        refine Calls.mono HCy2.out ?_
        rintro e y2 ⟨rfl, by2⟩
        have By2 := By1.trans (by2.mono By1.size)
        have HCy3 : Hid _ := HT.out P y2 By2
        rw [HUE.out] at HCy3
        go_wp2_with fail
        refine Calls.mono HCy3.out ?_
        rintro e y3 ⟨rfl, by3⟩
        have By3 := By2.trans (by3.mono By2.size)
        go_wp2
        go_loopw [7] (fun iv wr => ∃ k : Nat, k ≤ L.length ∧ iv = .int .i64 k ∧ Below w.heap.size w wr) (fun iv _ => L.length - (intOf iv).toNat)
        case atStart => exact ⟨0, Nat.zero_le _, rfl, By3⟩
        case round =>
          obtain ⟨k, hk, rfl, hb⟩ := hrel
          have hz := hb.size
          clear q1 q1p t1 t2 t3 HTE HUE
          try clear q8 q9
          try clear q2
          try clear q3
          try clear q6 q6p
          clear hN
          by_cases hlt : k < L.length
          · have hkl : (k : Int) < (L.length : Int) := by omega
            obtain ⟨o, ho⟩ : ∃ o, L[k]? = some o := ⟨L[k], by simp [hlt]⟩
            rcases HCS.out with hnil | ⟨gb, off, hp, hcs⟩
            · exfalso; rw [hnil] at hlt; simp at hlt
            subst hp
            have d2 := (hb.cell (p := ⟨gb, off + k * 6 + 2, none⟩) (World.block_lt_of_cell? _ _ (Ods.six hcs ho).2.2.1)).trans (Ods.six hcs ho).2.2.1
            generalize o.pr = at_ at d2
            clear hcs ho
            have t1 := (crs_most HJ.out at_).1
            have t2 := (crs_most HJ.out at_).2
            have t3 := (crs_most HJ.out (P - 1)).2
            rw [← HCR.out] at t1 t2 t3
            simp only at t1 t2 t3
            obtain ⟨T, hT⟩ : ∃ T, trd J at_ = T := ⟨_, rfl⟩
            obtain ⟨U, hU⟩ : ∃ U, trd J (P - 1) = U := ⟨_, rfl⟩
            have HTE : Hid _ := hT
            have HUE : Hid _ := hU
            rw [hT] at t1 t2
            rw [hU] at t3
            clear hT hU
            have q1 : decide (N < T) = false := by simp only [decide_eq_false_iff_not]; omega
            have q1p : ¬ N < T := by omega
            by_cases hN : 0 < N
            · have q2 : decide (0 < N) = true := decide_eq_true hN
              by_cases hA : at_ < P
              · have q3 : decide (at_ < P) = true := decide_eq_true hA
                have q6 : decide (N ≤ T) = false := by simp only [decide_eq_false_iff_not]; omega
                have q6p : ¬ N ≤ T := by omega
                have HCy1 : Hid _ := HT.out at_ wr hb
                rw [HTE.out] at HCy1
                go_wp2_with fail
                refine Calls.mono HCy1.out ?_
                rintro e y1 ⟨rfl, by1⟩
                have By1 := hb.trans (by1.mono hb.size)
                have HCy2 : Hid _ := HT.out at_ y1 By1
                rw [HTE.out] at HCy2
                go_wp2_with fail
                refine Calls.mono HCy2.out ?_
                rintro e y2 ⟨rfl, by2⟩
                have By2 := By1.trans (by2.mono By1.size)
                by_cases hP : 0 < P
                · have q4 : decide (0 < P) = true := decide_eq_true hP
                  have q5 : decide (N ≤ U) = false := by simp only [decide_eq_false_iff_not]; omega
                  have q5p : ¬ N ≤ U := by omega
                  have HCy3 : Hid _ := HT.out (P - 1) y2 By2
                  rw [HUE.out] at HCy3
                  go_wp2_with fail
                  refine Calls.mono HCy3.out ?_
                  rintro e y3 ⟨rfl, by3⟩
                  have By3 := By2.trans (by3.mono By2.size)
                  go_wp2
                  exact ⟨⟨k + 1, by omega, by norm_cast, By3⟩, by simp [intOf]; omega⟩
                · have q4 : decide (0 < P) = false := decide_eq_false hP
                  go_wp2
                  exact ⟨⟨k + 1, by omega, by norm_cast, By2⟩, by simp [intOf]; omega⟩
              · have q3 : decide (at_ < P) = false := decide_eq_false hA
                have HCy1 : Hid _ := HT.out at_ wr hb
                rw [HTE.out] at HCy1
                go_wp2_with fail
                refine Calls.mono HCy1.out ?_
                rintro e y1 ⟨rfl, by1⟩
                have By1 := hb.trans (by1.mono hb.size)
                by_cases hP : 0 < P
                · have q4 : decide (0 < P) = true := decide_eq_true hP
                  have q5 : decide (N ≤ U) = false := by simp only [decide_eq_false_iff_not]; omega
                  have q5p : ¬ N ≤ U := by omega
                  have HCy3 : Hid _ := HT.out (P - 1) y1 By1
                  rw [HUE.out] at HCy3
                  go_wp2_with fail
                  refine Calls.mono HCy3.out ?_
                  rintro e y3 ⟨rfl, by3⟩
                  have By3 := By1.trans (by3.mono By1.size)
                  go_wp2
                  exact ⟨⟨k + 1, by omega, by norm_cast, By3⟩, by simp [intOf]; omega⟩
                · have q4 : decide (0 < P) = false := decide_eq_false hP
                  go_wp2
                  exact ⟨⟨k + 1, by omega, by norm_cast, By1⟩, by simp [intOf]; omega⟩
            · have q2 : decide (0 < N) = false := decide_eq_false hN
              have HCy1 : Hid _ := HT.out at_ wr hb
              rw [HTE.out] at HCy1
              go_wp2_with fail
              refine Calls.mono HCy1.out ?_
              rintro e y1 ⟨rfl, by1⟩
              have By1 := hb.trans (by1.mono hb.size)
              go_wp2
              exact ⟨⟨k + 1, by omega, by norm_cast, By1⟩, by simp [intOf]; omega⟩
          · have hkl : ¬ (k : Int) < (L.length : Int) := by omega
            have hNP := HNP.out
            by_cases hN : 0 < N
            · have q2 : decide (0 < N) = true := decide_eq_true hN
              go_wp2_with fail
              refine (awake_calls _).mono ?_
              rintro e w9 ⟨rfl, b9⟩
              go_wp2
              go_ret
              exact ⟨rfl, hb.trans (b9.mono hb.size)⟩
            · have q2 : decide (0 < N) = false := decide_eq_false hN
              have hP0 : (P == 0) = true := by simp; exact hNP (by omega)
              have hP1 : P = 0 := hNP (by omega)
              go_wp2_with fail
              refine (awake_calls _).mono ?_
              rintro e w9 ⟨rfl, b9⟩
              go_wp2
              go_ret
              exact ⟨rfl, hb.trans (b9.mono hb.size)⟩
      · have q3 : decide (price < P) = false := decide_eq_false hA
        have q8 : U = N := t3 hN
        have q9 : (U == N) = true := by simpa using q8
        have HCy1 : Hid _ := HT.out price w1 b1
        rw [HTE.out] at HCy1
        go_wp2_with fail
        refine Calls.mono HCy1.out ?_
        rintro e y1 ⟨rfl, by1⟩
        have By1 := b1.trans (by1.mono b1.size)
        have HCy3 : Hid _ := HT.out P y1 By1
        rw [HUE.out] at HCy3
        go_wp2_with fail
        refine Calls.mono HCy3.out ?_
        rintro e y3 ⟨rfl, by3⟩
        have By3 := By1.trans (by3.mono By1.size)
        go_wp2
        go_loopw [7] (fun iv wr => ∃ k : Nat, k ≤ L.length ∧ iv = .int .i64 k ∧ Below w.heap.size w wr) (fun iv _ => L.length - (intOf iv).toNat)
        case atStart => exact ⟨0, Nat.zero_le _, rfl, By3⟩
        case round =>
          obtain ⟨k, hk, rfl, hb⟩ := hrel
          have hz := hb.size
          clear q1 q1p t1 t2 t3 HTE HUE
          try clear q8 q9
          try clear q2
          try clear q3
          try clear q6 q6p
          clear hN
          by_cases hlt : k < L.length
          · have hkl : (k : Int) < (L.length : Int) := by omega
            obtain ⟨o, ho⟩ : ∃ o, L[k]? = some o := ⟨L[k], by simp [hlt]⟩
            rcases HCS.out with hnil | ⟨gb, off, hp, hcs⟩
            · exfalso; rw [hnil] at hlt; simp at hlt
            subst hp
            have d2 := (hb.cell (p := ⟨gb, off + k * 6 + 2, none⟩) (World.block_lt_of_cell? _ _ (Ods.six hcs ho).2.2.1)).trans (Ods.six hcs ho).2.2.1
            generalize o.pr = at_ at d2
            clear hcs ho
            have t1 := (crs_most HJ.out at_).1
            have t2 := (crs_most HJ.out at_).2
            have t3 := (crs_most HJ.out (P - 1)).2
            rw [← HCR.out] at t1 t2 t3
            simp only at t1 t2 t3
            obtain ⟨T, hT⟩ : ∃ T, trd J at_ = T := ⟨_, rfl⟩
            obtain ⟨U, hU⟩ : ∃ U, trd J (P - 1) = U := ⟨_, rfl⟩
            have HTE : Hid _ := hT
            have HUE : Hid _ := hU
            rw [hT] at t1 t2
            rw [hU] at t3
            clear hT hU
            have q1 : decide (N < T) = false := by simp only [decide_eq_false_iff_not]; omega
            have q1p : ¬ N < T := by omega
            by_cases hN : 0 < N
            · have q2 : decide (0 < N) = true := decide_eq_true hN
              by_cases hA : at_ < P
              · have q3 : decide (at_ < P) = true := decide_eq_true hA
                have q6 : decide (N ≤ T) = false := by simp only [decide_eq_false_iff_not]; omega
                have q6p : ¬ N ≤ T := by omega
                have HCy1 : Hid _ := HT.out at_ wr hb
                rw [HTE.out] at HCy1
                go_wp2_with fail
                refine Calls.mono HCy1.out ?_
                rintro e y1 ⟨rfl, by1⟩
                have By1 := hb.trans (by1.mono hb.size)
                have HCy2 : Hid _ := HT.out at_ y1 By1
                rw [HTE.out] at HCy2
                go_wp2_with fail
                refine Calls.mono HCy2.out ?_
                rintro e y2 ⟨rfl, by2⟩
                have By2 := By1.trans (by2.mono By1.size)
                by_cases hP : 0 < P
                · have q4 : decide (0 < P) = true := decide_eq_true hP
                  have q5 : decide (N ≤ U) = false := by simp only [decide_eq_false_iff_not]; omega
                  have q5p : ¬ N ≤ U := by omega
                  have HCy3 : Hid _ := HT.out (P - 1) y2 By2
                  rw [HUE.out] at HCy3
                  go_wp2_with fail
                  refine Calls.mono HCy3.out ?_
                  rintro e y3 ⟨rfl, by3⟩
                  have By3 := By2.trans (by3.mono By2.size)
                  go_wp2
                  exact ⟨⟨k + 1, by omega, by norm_cast, By3⟩, by simp [intOf]; omega⟩
                · have q4 : decide (0 < P) = false := decide_eq_false hP
                  go_wp2
                  exact ⟨⟨k + 1, by omega, by norm_cast, By2⟩, by simp [intOf]; omega⟩
              · have q3 : decide (at_ < P) = false := decide_eq_false hA
                have HCy1 : Hid _ := HT.out at_ wr hb
                rw [HTE.out] at HCy1
                go_wp2_with fail
                refine Calls.mono HCy1.out ?_
                rintro e y1 ⟨rfl, by1⟩
                have By1 := hb.trans (by1.mono hb.size)
                by_cases hP : 0 < P
                · have q4 : decide (0 < P) = true := decide_eq_true hP
                  have q5 : decide (N ≤ U) = false := by simp only [decide_eq_false_iff_not]; omega
                  have q5p : ¬ N ≤ U := by omega
                  have HCy3 : Hid _ := HT.out (P - 1) y1 By1
                  rw [HUE.out] at HCy3
                  go_wp2_with fail
                  refine Calls.mono HCy3.out ?_
                  rintro e y3 ⟨rfl, by3⟩
                  have By3 := By1.trans (by3.mono By1.size)
                  go_wp2
                  exact ⟨⟨k + 1, by omega, by norm_cast, By3⟩, by simp [intOf]; omega⟩
                · have q4 : decide (0 < P) = false := decide_eq_false hP
                  go_wp2
                  exact ⟨⟨k + 1, by omega, by norm_cast, By1⟩, by simp [intOf]; omega⟩
            · have q2 : decide (0 < N) = false := decide_eq_false hN
              have HCy1 : Hid _ := HT.out at_ wr hb
              rw [HTE.out] at HCy1
              go_wp2_with fail
              refine Calls.mono HCy1.out ?_
              rintro e y1 ⟨rfl, by1⟩
              have By1 := hb.trans (by1.mono hb.size)
              go_wp2
              exact ⟨⟨k + 1, by omega, by norm_cast, By1⟩, by simp [intOf]; omega⟩
          · have hkl : ¬ (k : Int) < (L.length : Int) := by omega
            have hNP := HNP.out
            by_cases hN : 0 < N
            · have q2 : decide (0 < N) = true := decide_eq_true hN
              go_wp2_with fail
              refine (awake_calls _).mono ?_
              rintro e w9 ⟨rfl, b9⟩
              go_wp2
              go_ret
              exact ⟨rfl, hb.trans (b9.mono hb.size)⟩
            · have q2 : decide (0 < N) = false := decide_eq_false hN
              have hP0 : (P == 0) = true := by simp; exact hNP (by omega)
              have hP1 : P = 0 := hNP (by omega)
              go_wp2_with fail
              refine (awake_calls _).mono ?_
              rintro e w9 ⟨rfl, b9⟩
              go_wp2
              go_ret
              exact ⟨rfl, hb.trans (b9.mono hb.size)⟩
    · have q2 : decide (0 < N) = false := decide_eq_false hN
      have HCy1 : Hid _ := HT.out price w1 b1
      rw [HTE.out] at HCy1
      go_wp2_with fail
      refine Calls.mono HCy1.out ?_
      rintro e y1 ⟨rfl, by1⟩
      have By1 := b1.trans (by1.mono b1.size)
      go_wp2
      go_loopw [7] (fun iv wr => ∃ k : Nat, k ≤ L.length ∧ iv = .int .i64 k ∧ Below w.heap.size w wr) (fun iv _ => L.length - (intOf iv).toNat)
      case atStart => exact ⟨0, Nat.zero_le _, rfl, By1⟩
      case round =>
        obtain ⟨k, hk, rfl, hb⟩ := hrel
        have hz := hb.size
        clear q1 q1p t1 t2 t3 HTE HUE
        try clear q8 q9
        try clear q2
        try clear q3
        try clear q6 q6p
        clear hN
        by_cases hlt : k < L.length
        · have hkl : (k : Int) < (L.length : Int) := by omega
          obtain ⟨o, ho⟩ : ∃ o, L[k]? = some o := ⟨L[k], by simp [hlt]⟩
          rcases HCS.out with hnil | ⟨gb, off, hp, hcs⟩
          · exfalso; rw [hnil] at hlt; simp at hlt
          subst hp
          have d2 := (hb.cell (p := ⟨gb, off + k * 6 + 2, none⟩) (World.block_lt_of_cell? _ _ (Ods.six hcs ho).2.2.1)).trans (Ods.six hcs ho).2.2.1
          generalize o.pr = at_ at d2
          clear hcs ho
          have t1 := (crs_most HJ.out at_).1
          have t2 := (crs_most HJ.out at_).2
          have t3 := (crs_most HJ.out (P - 1)).2
          rw [← HCR.out] at t1 t2 t3
          simp only at t1 t2 t3
          obtain ⟨T, hT⟩ : ∃ T, trd J at_ = T := ⟨_, rfl⟩
          obtain ⟨U, hU⟩ : ∃ U, trd J (P - 1) = U := ⟨_, rfl⟩
          have HTE : Hid _ := hT
          have HUE : Hid _ := hU
          rw [hT] at t1 t2
          rw [hU] at t3
          clear hT hU
          have q1 : decide (N < T) = false := by simp only [decide_eq_false_iff_not]; omega
          have q1p : ¬ N < T := by omega
          by_cases hN : 0 < N
          · have q2 : decide (0 < N) = true := decide_eq_true hN
            by_cases hA : at_ < P
            · have q3 : decide (at_ < P) = true := decide_eq_true hA
              have q6 : decide (N ≤ T) = false := by simp only [decide_eq_false_iff_not]; omega
              have q6p : ¬ N ≤ T := by omega
              have HCy1 : Hid _ := HT.out at_ wr hb
              rw [HTE.out] at HCy1
              go_wp2_with fail
              refine Calls.mono HCy1.out ?_
              rintro e y1 ⟨rfl, by1⟩
              have By1 := hb.trans (by1.mono hb.size)
              have HCy2 : Hid _ := HT.out at_ y1 By1
              rw [HTE.out] at HCy2
              go_wp2_with fail
              refine Calls.mono HCy2.out ?_
              rintro e y2 ⟨rfl, by2⟩
              have By2 := By1.trans (by2.mono By1.size)
              by_cases hP : 0 < P
              · have q4 : decide (0 < P) = true := decide_eq_true hP
                have q5 : decide (N ≤ U) = false := by simp only [decide_eq_false_iff_not]; omega
                have q5p : ¬ N ≤ U := by omega
                have HCy3 : Hid _ := HT.out (P - 1) y2 By2
                rw [HUE.out] at HCy3
                go_wp2_with fail
                refine Calls.mono HCy3.out ?_
                rintro e y3 ⟨rfl, by3⟩
                have By3 := By2.trans (by3.mono By2.size)
                go_wp2
                exact ⟨⟨k + 1, by omega, by norm_cast, By3⟩, by simp [intOf]; omega⟩
              · have q4 : decide (0 < P) = false := decide_eq_false hP
                go_wp2
                exact ⟨⟨k + 1, by omega, by norm_cast, By2⟩, by simp [intOf]; omega⟩
            · have q3 : decide (at_ < P) = false := decide_eq_false hA
              have HCy1 : Hid _ := HT.out at_ wr hb
              rw [HTE.out] at HCy1
              go_wp2_with fail
              refine Calls.mono HCy1.out ?_
              rintro e y1 ⟨rfl, by1⟩
              have By1 := hb.trans (by1.mono hb.size)
              by_cases hP : 0 < P
              · have q4 : decide (0 < P) = true := decide_eq_true hP
                have q5 : decide (N ≤ U) = false := by simp only [decide_eq_false_iff_not]; omega
                have q5p : ¬ N ≤ U := by omega
                have HCy3 : Hid _ := HT.out (P - 1) y1 By1
                rw [HUE.out] at HCy3
                go_wp2_with fail
                refine Calls.mono HCy3.out ?_
                rintro e y3 ⟨rfl, by3⟩
                have By3 := By1.trans (by3.mono By1.size)
                go_wp2
                exact ⟨⟨k + 1, by omega, by norm_cast, By3⟩, by simp [intOf]; omega⟩
              · have q4 : decide (0 < P) = false := decide_eq_false hP
                go_wp2
                exact ⟨⟨k + 1, by omega, by norm_cast, By1⟩, by simp [intOf]; omega⟩
          · have q2 : decide (0 < N) = false := decide_eq_false hN
            have HCy1 : Hid _ := HT.out at_ wr hb
            rw [HTE.out] at HCy1
            go_wp2_with fail
            refine Calls.mono HCy1.out ?_
            rintro e y1 ⟨rfl, by1⟩
            have By1 := hb.trans (by1.mono hb.size)
            go_wp2
            exact ⟨⟨k + 1, by omega, by norm_cast, By1⟩, by simp [intOf]; omega⟩
        · have hkl : ¬ (k : Int) < (L.length : Int) := by omega
          have hNP := HNP.out
          by_cases hN : 0 < N
          · have q2 : decide (0 < N) = true := decide_eq_true hN
            go_wp2_with fail
            refine (awake_calls _).mono ?_
            rintro e w9 ⟨rfl, b9⟩
            go_wp2
            go_ret
            exact ⟨rfl, hb.trans (b9.mono hb.size)⟩
          · have q2 : decide (0 < N) = false := decide_eq_false hN
            have hP0 : (P == 0) = true := by simp; exact hNP (by omega)
            have hP1 : P = 0 := hNP (by omega)
            go_wp2_with fail
            refine (awake_calls _).mono ?_
            rintro e w9 ⟨rfl, b9⟩
            go_wp2
            go_ret
            exact ⟨rfl, hb.trans (b9.mono hb.size)⟩
  · simp only [if_true] at hcut
    obtain ⟨c1, c2, c3, rfl, rfl, c6⟩ := hcut
    subst hv0
    have q0 : (64 : Int) < (n0 : Int) := by omega
    have q00 : decide ((64 : Int) < (n0 : Int)) = true := decide_eq_true q0
    have q01 : (64 : Int) ≤ (cap : Int) := by omega
    have q02 : ¬ cap = 0 := by omega
    have HC3 : Hid _ := c3
    rw [c3] at HC HT
    clear c3
    go_enter Try.func4, Try.ntmps4
    go_wp2_with fail
    refine Calls.mono HC.out ?_
    rintro e w1 ⟨rfl, b1⟩
    have t1 := (crs_most HJ.out price).1
    have t2 := (crs_most HJ.out price).2
    have t3 := (crs_hits HJ.out).1
    rw [← HCR.out] at t1 t2 t3
    simp only at t1 t2 t3
    obtain ⟨T, hT⟩ : ∃ T, trd J price = T := ⟨_, rfl⟩
    obtain ⟨U, hU⟩ : ∃ U, trd J P = U := ⟨_, rfl⟩
    have HTE : Hid _ := hT
    have HUE : Hid _ := hU
    rw [hT] at t1 t2
    rw [hU] at t3
    clear hT hU
    have q1 : decide (N < T) = false := by simp only [decide_eq_false_iff_not]; omega
    have q1p : ¬ N < T := by omega
    by_cases hN : 0 < N
    · have q2 : decide (0 < N) = true := decide_eq_true hN
      by_cases hA : price < P
      · have q3 : decide (price < P) = true := decide_eq_true hA
        have q6 : decide (N ≤ T) = false := by simp only [decide_eq_false_iff_not]; omega
        have q6p : ¬ N ≤ T := by omega
        have q8 : U = N := t3 hN
        have q9 : (U == N) = true := by simpa using q8
        have HCy1 : Hid _ := HT.out price w1 b1
        rw [HTE.out] at HCy1
        go_wp2_with fail
        refine Calls.mono HCy1.out ?_
        rintro e y1 ⟨rfl, by1⟩
        have By1 := b1.trans (by1.mono b1.size)
        have HCy2 : Hid _ := HT.out price y1 By1
        rw [HTE.out] at HCy2
        go_wp2_with fail
        refine Calls.mono HCy2.out ?_
        rintro e y2 ⟨rfl, by2⟩
        have By2 := By1.trans (by2.mono By1.size)
        have HCy3 : Hid _ := HT.out P y2 By2
        rw [HUE.out] at HCy3
        go_wp2_with fail
        refine Calls.mono HCy3.out ?_
        rintro e y3 ⟨rfl, by3⟩
        have By3 := By2.trans (by3.mono By2.size)
        go_wp2
        go_loopw [7] (fun iv wr => ∃ k : Nat, k ≤ L.length ∧ iv = .int .i64 k ∧ Below w.heap.size w wr) (fun iv _ => L.length - (intOf iv).toNat)
        case atStart => exact ⟨0, Nat.zero_le _, rfl, By3⟩
        case round =>
          obtain ⟨k, hk, rfl, hb⟩ := hrel
          have hz := hb.size
          clear q1 q1p t1 t2 t3 HTE HUE
          try clear q8 q9
          try clear q2
          try clear q3
          try clear q6 q6p
          clear hN
          by_cases hlt : k < L.length
          · have hkl : (k : Int) < 64 := by have := HC3.out; omega
            obtain ⟨o, ho⟩ : ∃ o, L[k]? = some o := ⟨L[k], by simp [hlt]⟩
            rcases HCS.out with hnil | ⟨gb, off2, hp, hcs⟩
            · exfalso; rw [hnil] at hlt; simp at hlt
            obtain ⟨rfl, rfl⟩ : g = gb ∧ off = off2 := by injection hp with hp1; injection hp1 with hp1 hp2; exact ⟨hp1, hp2⟩
            have d2 := (hb.cell (p := ⟨g, off + k * 6 + 2, none⟩) (World.block_lt_of_cell? _ _ (Ods.six hcs ho).2.2.1)).trans (Ods.six hcs ho).2.2.1
            generalize o.pr = at_ at d2
            clear hcs ho
            have t1 := (crs_most HJ.out at_).1
            have t2 := (crs_most HJ.out at_).2
            have t3 := (crs_most HJ.out (P - 1)).2
            rw [← HCR.out] at t1 t2 t3
            simp only at t1 t2 t3
            obtain ⟨T, hT⟩ : ∃ T, trd J at_ = T := ⟨_, rfl⟩
            obtain ⟨U, hU⟩ : ∃ U, trd J (P - 1) = U := ⟨_, rfl⟩
            have HTE : Hid _ := hT
            have HUE : Hid _ := hU
            rw [hT] at t1 t2
            rw [hU] at t3
            clear hT hU
            have q1 : decide (N < T) = false := by simp only [decide_eq_false_iff_not]; omega
            have q1p : ¬ N < T := by omega
            by_cases hN : 0 < N
            · have q2 : decide (0 < N) = true := decide_eq_true hN
              by_cases hA : at_ < P
              · have q3 : decide (at_ < P) = true := decide_eq_true hA
                have q6 : decide (N ≤ T) = false := by simp only [decide_eq_false_iff_not]; omega
                have q6p : ¬ N ≤ T := by omega
                have HCy1 : Hid _ := HT.out at_ wr hb
                rw [HTE.out] at HCy1
                go_wp2_with fail
                refine Calls.mono HCy1.out ?_
                rintro e y1 ⟨rfl, by1⟩
                have By1 := hb.trans (by1.mono hb.size)
                have HCy2 : Hid _ := HT.out at_ y1 By1
                rw [HTE.out] at HCy2
                go_wp2_with fail
                refine Calls.mono HCy2.out ?_
                rintro e y2 ⟨rfl, by2⟩
                have By2 := By1.trans (by2.mono By1.size)
                by_cases hP : 0 < P
                · have q4 : decide (0 < P) = true := decide_eq_true hP
                  have q5 : decide (N ≤ U) = false := by simp only [decide_eq_false_iff_not]; omega
                  have q5p : ¬ N ≤ U := by omega
                  have HCy3 : Hid _ := HT.out (P - 1) y2 By2
                  rw [HUE.out] at HCy3
                  go_wp2_with fail
                  refine Calls.mono HCy3.out ?_
                  rintro e y3 ⟨rfl, by3⟩
                  have By3 := By2.trans (by3.mono By2.size)
                  go_wp2
                  exact ⟨⟨k + 1, by omega, by norm_cast, By3⟩, by simp [intOf]; omega⟩
                · have q4 : decide (0 < P) = false := decide_eq_false hP
                  go_wp2
                  exact ⟨⟨k + 1, by omega, by norm_cast, By2⟩, by simp [intOf]; omega⟩
              · have q3 : decide (at_ < P) = false := decide_eq_false hA
                have HCy1 : Hid _ := HT.out at_ wr hb
                rw [HTE.out] at HCy1
                go_wp2_with fail
                refine Calls.mono HCy1.out ?_
                rintro e y1 ⟨rfl, by1⟩
                have By1 := hb.trans (by1.mono hb.size)
                by_cases hP : 0 < P
                · have q4 : decide (0 < P) = true := decide_eq_true hP
                  have q5 : decide (N ≤ U) = false := by simp only [decide_eq_false_iff_not]; omega
                  have q5p : ¬ N ≤ U := by omega
                  have HCy3 : Hid _ := HT.out (P - 1) y1 By1
                  rw [HUE.out] at HCy3
                  go_wp2_with fail
                  refine Calls.mono HCy3.out ?_
                  rintro e y3 ⟨rfl, by3⟩
                  have By3 := By1.trans (by3.mono By1.size)
                  go_wp2
                  exact ⟨⟨k + 1, by omega, by norm_cast, By3⟩, by simp [intOf]; omega⟩
                · have q4 : decide (0 < P) = false := decide_eq_false hP
                  go_wp2
                  exact ⟨⟨k + 1, by omega, by norm_cast, By1⟩, by simp [intOf]; omega⟩
            · have q2 : decide (0 < N) = false := decide_eq_false hN
              have HCy1 : Hid _ := HT.out at_ wr hb
              rw [HTE.out] at HCy1
              go_wp2_with fail
              refine Calls.mono HCy1.out ?_
              rintro e y1 ⟨rfl, by1⟩
              have By1 := hb.trans (by1.mono hb.size)
              go_wp2
              exact ⟨⟨k + 1, by omega, by norm_cast, By1⟩, by simp [intOf]; omega⟩
          · have hkl : ¬ (k : Int) < 64 := by have := HC3.out; omega
            have hNP := HNP.out
            by_cases hN : 0 < N
            · have q2 : decide (0 < N) = true := decide_eq_true hN
              go_wp2_with fail
              refine (awake_calls _).mono ?_
              rintro e w9 ⟨rfl, b9⟩
              go_wp2
              go_ret
              exact ⟨rfl, hb.trans (b9.mono hb.size)⟩
            · have q2 : decide (0 < N) = false := decide_eq_false hN
              have hP0 : (P == 0) = true := by simp; exact hNP (by omega)
              have hP1 : P = 0 := hNP (by omega)
              go_wp2_with fail
              refine (awake_calls _).mono ?_
              rintro e w9 ⟨rfl, b9⟩
              go_wp2
              go_ret
              exact ⟨rfl, hb.trans (b9.mono hb.size)⟩
      · have q3 : decide (price < P) = false := decide_eq_false hA
        have q8 : U = N := t3 hN
        have q9 : (U == N) = true := by simpa using q8
        have HCy1 : Hid _ := HT.out price w1 b1
        rw [HTE.out] at HCy1
        go_wp2_with fail
        refine Calls.mono HCy1.out ?_
        rintro e y1 ⟨rfl, by1⟩
        have By1 := b1.trans (by1.mono b1.size)
        have HCy3 : Hid _ := HT.out P y1 By1
        rw [HUE.out] at HCy3
        go_wp2_with fail
        refine Calls.mono HCy3.out ?_
        rintro e y3 ⟨rfl, by3⟩
        have By3 := By1.trans (by3.mono By1.size)
        go_wp2
        go_loopw [7] (fun iv wr => ∃ k : Nat, k ≤ L.length ∧ iv = .int .i64 k ∧ Below w.heap.size w wr) (fun iv _ => L.length - (intOf iv).toNat)
        case atStart => exact ⟨0, Nat.zero_le _, rfl, By3⟩
        case round =>
          obtain ⟨k, hk, rfl, hb⟩ := hrel
          have hz := hb.size
          clear q1 q1p t1 t2 t3 HTE HUE
          try clear q8 q9
          try clear q2
          try clear q3
          try clear q6 q6p
          clear hN
          by_cases hlt : k < L.length
          · have hkl : (k : Int) < 64 := by have := HC3.out; omega
            obtain ⟨o, ho⟩ : ∃ o, L[k]? = some o := ⟨L[k], by simp [hlt]⟩
            rcases HCS.out with hnil | ⟨gb, off2, hp, hcs⟩
            · exfalso; rw [hnil] at hlt; simp at hlt
            obtain ⟨rfl, rfl⟩ : g = gb ∧ off = off2 := by injection hp with hp1; injection hp1 with hp1 hp2; exact ⟨hp1, hp2⟩
            have d2 := (hb.cell (p := ⟨g, off + k * 6 + 2, none⟩) (World.block_lt_of_cell? _ _ (Ods.six hcs ho).2.2.1)).trans (Ods.six hcs ho).2.2.1
            generalize o.pr = at_ at d2
            clear hcs ho
            have t1 := (crs_most HJ.out at_).1
            have t2 := (crs_most HJ.out at_).2
            have t3 := (crs_most HJ.out (P - 1)).2
            rw [← HCR.out] at t1 t2 t3
            simp only at t1 t2 t3
            obtain ⟨T, hT⟩ : ∃ T, trd J at_ = T := ⟨_, rfl⟩
            obtain ⟨U, hU⟩ : ∃ U, trd J (P - 1) = U := ⟨_, rfl⟩
            have HTE : Hid _ := hT
            have HUE : Hid _ := hU
            rw [hT] at t1 t2
            rw [hU] at t3
            clear hT hU
            have q1 : decide (N < T) = false := by simp only [decide_eq_false_iff_not]; omega
            have q1p : ¬ N < T := by omega
            by_cases hN : 0 < N
            · have q2 : decide (0 < N) = true := decide_eq_true hN
              by_cases hA : at_ < P
              · have q3 : decide (at_ < P) = true := decide_eq_true hA
                have q6 : decide (N ≤ T) = false := by simp only [decide_eq_false_iff_not]; omega
                have q6p : ¬ N ≤ T := by omega
                have HCy1 : Hid _ := HT.out at_ wr hb
                rw [HTE.out] at HCy1
                go_wp2_with fail
                refine Calls.mono HCy1.out ?_
                rintro e y1 ⟨rfl, by1⟩
                have By1 := hb.trans (by1.mono hb.size)
                have HCy2 : Hid _ := HT.out at_ y1 By1
                rw [HTE.out] at HCy2
                go_wp2_with fail
                refine Calls.mono HCy2.out ?_
                rintro e y2 ⟨rfl, by2⟩
                have By2 := By1.trans (by2.mono By1.size)
                by_cases hP : 0 < P
                · have q4 : decide (0 < P) = true := decide_eq_true hP
                  have q5 : decide (N ≤ U) = false := by simp only [decide_eq_false_iff_not]; omega
                  have q5p : ¬ N ≤ U := by omega
                  have HCy3 : Hid _ := HT.out (P - 1) y2 By2
                  rw [HUE.out] at HCy3
                  go_wp2_with fail
                  refine Calls.mono HCy3.out ?_
                  rintro e y3 ⟨rfl, by3⟩
                  have By3 := By2.trans (by3.mono By2.size)
                  go_wp2
                  exact ⟨⟨k + 1, by omega, by norm_cast, By3⟩, by simp [intOf]; omega⟩
                · have q4 : decide (0 < P) = false := decide_eq_false hP
                  go_wp2
                  exact ⟨⟨k + 1, by omega, by norm_cast, By2⟩, by simp [intOf]; omega⟩
              · have q3 : decide (at_ < P) = false := decide_eq_false hA
                have HCy1 : Hid _ := HT.out at_ wr hb
                rw [HTE.out] at HCy1
                go_wp2_with fail
                refine Calls.mono HCy1.out ?_
                rintro e y1 ⟨rfl, by1⟩
                have By1 := hb.trans (by1.mono hb.size)
                by_cases hP : 0 < P
                · have q4 : decide (0 < P) = true := decide_eq_true hP
                  have q5 : decide (N ≤ U) = false := by simp only [decide_eq_false_iff_not]; omega
                  have q5p : ¬ N ≤ U := by omega
                  have HCy3 : Hid _ := HT.out (P - 1) y1 By1
                  rw [HUE.out] at HCy3
                  go_wp2_with fail
                  refine Calls.mono HCy3.out ?_
                  rintro e y3 ⟨rfl, by3⟩
                  have By3 := By1.trans (by3.mono By1.size)
                  go_wp2
                  exact ⟨⟨k + 1, by omega, by norm_cast, By3⟩, by simp [intOf]; omega⟩
                · have q4 : decide (0 < P) = false := decide_eq_false hP
                  go_wp2
                  exact ⟨⟨k + 1, by omega, by norm_cast, By1⟩, by simp [intOf]; omega⟩
            · have q2 : decide (0 < N) = false := decide_eq_false hN
              have HCy1 : Hid _ := HT.out at_ wr hb
              rw [HTE.out] at HCy1
              go_wp2_with fail
              refine Calls.mono HCy1.out ?_
              rintro e y1 ⟨rfl, by1⟩
              have By1 := hb.trans (by1.mono hb.size)
              go_wp2
              exact ⟨⟨k + 1, by omega, by norm_cast, By1⟩, by simp [intOf]; omega⟩
          · have hkl : ¬ (k : Int) < 64 := by have := HC3.out; omega
            have hNP := HNP.out
            by_cases hN : 0 < N
            · have q2 : decide (0 < N) = true := decide_eq_true hN
              go_wp2_with fail
              refine (awake_calls _).mono ?_
              rintro e w9 ⟨rfl, b9⟩
              go_wp2
              go_ret
              exact ⟨rfl, hb.trans (b9.mono hb.size)⟩
            · have q2 : decide (0 < N) = false := decide_eq_false hN
              have hP0 : (P == 0) = true := by simp; exact hNP (by omega)
              have hP1 : P = 0 := hNP (by omega)
              go_wp2_with fail
              refine (awake_calls _).mono ?_
              rintro e w9 ⟨rfl, b9⟩
              go_wp2
              go_ret
              exact ⟨rfl, hb.trans (b9.mono hb.size)⟩
    · have q2 : decide (0 < N) = false := decide_eq_false hN
      have HCy1 : Hid _ := HT.out price w1 b1
      rw [HTE.out] at HCy1
      go_wp2_with fail
      refine Calls.mono HCy1.out ?_
      rintro e y1 ⟨rfl, by1⟩
      have By1 := b1.trans (by1.mono b1.size)
      go_wp2
      go_loopw [7] (fun iv wr => ∃ k : Nat, k ≤ L.length ∧ iv = .int .i64 k ∧ Below w.heap.size w wr) (fun iv _ => L.length - (intOf iv).toNat)
      case atStart => exact ⟨0, Nat.zero_le _, rfl, By1⟩
      case round =>
        obtain ⟨k, hk, rfl, hb⟩ := hrel
        have hz := hb.size
        clear q1 q1p t1 t2 t3 HTE HUE
        try clear q8 q9
        try clear q2
        try clear q3
        try clear q6 q6p
        clear hN
        by_cases hlt : k < L.length
        · have hkl : (k : Int) < 64 := by have := HC3.out; omega
          obtain ⟨o, ho⟩ : ∃ o, L[k]? = some o := ⟨L[k], by simp [hlt]⟩
          rcases HCS.out with hnil | ⟨gb, off2, hp, hcs⟩
          · exfalso; rw [hnil] at hlt; simp at hlt
          obtain ⟨rfl, rfl⟩ : g = gb ∧ off = off2 := by injection hp with hp1; injection hp1 with hp1 hp2; exact ⟨hp1, hp2⟩
          have d2 := (hb.cell (p := ⟨g, off + k * 6 + 2, none⟩) (World.block_lt_of_cell? _ _ (Ods.six hcs ho).2.2.1)).trans (Ods.six hcs ho).2.2.1
          generalize o.pr = at_ at d2
          clear hcs ho
          have t1 := (crs_most HJ.out at_).1
          have t2 := (crs_most HJ.out at_).2
          have t3 := (crs_most HJ.out (P - 1)).2
          rw [← HCR.out] at t1 t2 t3
          simp only at t1 t2 t3
          obtain ⟨T, hT⟩ : ∃ T, trd J at_ = T := ⟨_, rfl⟩
          obtain ⟨U, hU⟩ : ∃ U, trd J (P - 1) = U := ⟨_, rfl⟩
          have HTE : Hid _ := hT
          have HUE : Hid _ := hU
          rw [hT] at t1 t2
          rw [hU] at t3
          clear hT hU
          have q1 : decide (N < T) = false := by simp only [decide_eq_false_iff_not]; omega
          have q1p : ¬ N < T := by omega
          by_cases hN : 0 < N
          · have q2 : decide (0 < N) = true := decide_eq_true hN
            by_cases hA : at_ < P
            · have q3 : decide (at_ < P) = true := decide_eq_true hA
              have q6 : decide (N ≤ T) = false := by simp only [decide_eq_false_iff_not]; omega
              have q6p : ¬ N ≤ T := by omega
              have HCy1 : Hid _ := HT.out at_ wr hb
              rw [HTE.out] at HCy1
              go_wp2_with fail
              refine Calls.mono HCy1.out ?_
              rintro e y1 ⟨rfl, by1⟩
              have By1 := hb.trans (by1.mono hb.size)
              have HCy2 : Hid _ := HT.out at_ y1 By1
              rw [HTE.out] at HCy2
              go_wp2_with fail
              refine Calls.mono HCy2.out ?_
              rintro e y2 ⟨rfl, by2⟩
              have By2 := By1.trans (by2.mono By1.size)
              by_cases hP : 0 < P
              · have q4 : decide (0 < P) = true := decide_eq_true hP
                have q5 : decide (N ≤ U) = false := by simp only [decide_eq_false_iff_not]; omega
                have q5p : ¬ N ≤ U := by omega
                have HCy3 : Hid _ := HT.out (P - 1) y2 By2
                rw [HUE.out] at HCy3
                go_wp2_with fail
                refine Calls.mono HCy3.out ?_
                rintro e y3 ⟨rfl, by3⟩
                have By3 := By2.trans (by3.mono By2.size)
                go_wp2
                exact ⟨⟨k + 1, by omega, by norm_cast, By3⟩, by simp [intOf]; omega⟩
              · have q4 : decide (0 < P) = false := decide_eq_false hP
                go_wp2
                exact ⟨⟨k + 1, by omega, by norm_cast, By2⟩, by simp [intOf]; omega⟩
            · have q3 : decide (at_ < P) = false := decide_eq_false hA
              have HCy1 : Hid _ := HT.out at_ wr hb
              rw [HTE.out] at HCy1
              go_wp2_with fail
              refine Calls.mono HCy1.out ?_
              rintro e y1 ⟨rfl, by1⟩
              have By1 := hb.trans (by1.mono hb.size)
              by_cases hP : 0 < P
              · have q4 : decide (0 < P) = true := decide_eq_true hP
                have q5 : decide (N ≤ U) = false := by simp only [decide_eq_false_iff_not]; omega
                have q5p : ¬ N ≤ U := by omega
                have HCy3 : Hid _ := HT.out (P - 1) y1 By1
                rw [HUE.out] at HCy3
                go_wp2_with fail
                refine Calls.mono HCy3.out ?_
                rintro e y3 ⟨rfl, by3⟩
                have By3 := By1.trans (by3.mono By1.size)
                go_wp2
                exact ⟨⟨k + 1, by omega, by norm_cast, By3⟩, by simp [intOf]; omega⟩
              · have q4 : decide (0 < P) = false := decide_eq_false hP
                go_wp2
                exact ⟨⟨k + 1, by omega, by norm_cast, By1⟩, by simp [intOf]; omega⟩
          · have q2 : decide (0 < N) = false := decide_eq_false hN
            have HCy1 : Hid _ := HT.out at_ wr hb
            rw [HTE.out] at HCy1
            go_wp2_with fail
            refine Calls.mono HCy1.out ?_
            rintro e y1 ⟨rfl, by1⟩
            have By1 := hb.trans (by1.mono hb.size)
            go_wp2
            exact ⟨⟨k + 1, by omega, by norm_cast, By1⟩, by simp [intOf]; omega⟩
        · have hkl : ¬ (k : Int) < 64 := by have := HC3.out; omega
          have hNP := HNP.out
          by_cases hN : 0 < N
          · have q2 : decide (0 < N) = true := decide_eq_true hN
            go_wp2_with fail
            refine (awake_calls _).mono ?_
            rintro e w9 ⟨rfl, b9⟩
            go_wp2
            go_ret
            exact ⟨rfl, hb.trans (b9.mono hb.size)⟩
          · have q2 : decide (0 < N) = false := decide_eq_false hN
            have hP0 : (P == 0) = true := by simp; exact hNP (by omega)
            have hP1 : P = 0 := hNP (by omega)
            go_wp2_with fail
            refine (awake_calls _).mono ?_
            rintro e w9 ⟨rfl, b9⟩
            go_wp2
            go_ret
            exact ⟨rfl, hb.trans (b9.mono hb.size)⟩
end Go.Proofs.Ytjglmlojdhjgfaa
