/- The walk of VlogWindow: an act of kind 3. -/
import Derived.Test.YtipjlonnllcfbabVlWn0
namespace Go.Proofs.Ytipjlonnllcfbab
open Go.Shelf Go.RowKit Go.Lib Go.Sort
open Go.ChangeMaps (setBlock)
set_option linter.unusedSimpArgs false
set_option linter.unusedVariables false
set_option maxHeartbeats 16000000 in
set_option maxRecDepth 100000 in
theorem win3 (v : Value) (l : List Ac) (ak af av aq : Int) (ad at' : ByteArray) (w : World) (hl : Acs w v l) (hz1 : ad.size ≤ 140737488351232) (hz2 : at'.size ≤ 140737488351232) (hak : arn ak 6 = 3) :
    Calls Try.prog 3 #[v, .agg #[.int .i64 ak, .int .i64 af, .int .i64 av, .int .i64 aq, .string ad, .string at']] w fun e w' => e = .returned (.bool true) ∧ Below w.heap.size w w' := by
  obtain ⟨W0, hW0, XA, B0, Z0⟩ : ∃ W0, (w.alloc (.cells #[.int .i64 ak, .int .i64 af, .int .i64 av, .int .i64 aq, .string ad, .string at'] 24)) = W0 ∧ Blk W0 w.heap.size #[.int .i64 ak, .int .i64 af, .int .i64 av, .int .i64 aq, .string ad, .string at'] 24 ∧ Below w.heap.size w W0 ∧ W0.heap.size = w.heap.size + 1 :=
    ⟨_, rfl, blk_new _ _ _ _ rfl, by go_grown, by simp⟩
  have hza : w.heap.size < W0.heap.size := by omega
  have HZ0 : Hid _ := Z0
  clear Z0
  have HBg := begun_calls v l W0 w hl B0
  have hn7 : (runs (Lv.new 7) (l.take 80)).n = 7 := runs_ok _ _ (new_inv (Or.inr (Or.inl rfl))) (fun k => Nat.zero_le 13)
  generalize runs (Lv.new 7) (l.take 80) = M at *
  have Hn7 : Hid _ := hn7
  obtain ⟨va, vcap, rfl, _⟩ := hl.any
  clear hl hn7
  go_enter Try.func3, Try.ntmps3
  go_wp2_with fail
  refine HBg.mono ?_
  rintro e w1 ⟨rfl, mp1, A1⟩
  have X1 := XA.below A1.bel
  have y0 : ∀ n, (w1.drewN n).cell? ⟨w.heap.size, 0, none⟩ = some (.int .i64 ak) := fun n => (X1.below (below_dN w1 n)).cell rfl
  have y1 : ∀ n, (w1.drewN n).cell? ⟨w.heap.size, 1, none⟩ = some (.int .i64 af) := fun n => (X1.below (below_dN w1 n)).cell rfl
  have y2 : ∀ n, (w1.drewN n).cell? ⟨w.heap.size, 2, none⟩ = some (.int .i64 av) := fun n => (X1.below (below_dN w1 n)).cell rfl
  have y3 : ∀ n, (w1.drewN n).cell? ⟨w.heap.size, 3, none⟩ = some (.int .i64 aq) := fun n => (X1.below (below_dN w1 n)).cell rfl
  have q0 : w1.cell? ⟨w.heap.size, 0, none⟩ = some (.int .i64 ak) := X1.cell rfl
  have q2 : w1.cell? ⟨w.heap.size, 2, none⟩ = some (.int .i64 av) := X1.cell rfl
  have q3 : w1.cell? ⟨w.heap.size, 3, none⟩ = some (.int .i64 aq) := X1.cell rfl
  have HVw : Hid (∀ n, Calls Try.prog 7 #[.pointer (some ⟨W0.heap.size, 0, none⟩)] (w1.drewN n) fun e w' => e = .returned (.int .i64 M.vw) ∧ w' = w1.drewN n) := fun n => view_calls (A1.lg.below (below_dN w1 n)) A1.inv
  have HLo : Hid (∀ n, Calls Try.prog 8 #[.pointer (some ⟨W0.heap.size, 0, none⟩)] (w1.drewN n) fun e w' => e = .returned (.int .i64 M.lo) ∧ w' = w1.drewN n) := fun n => low_calls (A1.lg.below (below_dN w1 n)) A1.inv
  have hlo := A1.inv.lo
  have hw8 : IntKind.i64.wrap (M.lo + 8) = M.lo + 8 := by rw [IntKind.wrap_i64]; omega
  have HA : Hid (∀ n, Ats W0.heap.size W0 (w1.drewN n) W0.heap.size mp1 M) := fun n => A1.below (below_dN w1 n)
  have HX : Hid (∀ n, Blk (w1.drewN n) w.heap.size #[.int .i64 ak, .int .i64 af, .int .i64 av, .int .i64 aq, .string ad, .string at'] 24) := fun n => X1.below (below_dN w1 n)
  have HBd : Hid (∀ n, Below w.heap.size w (w1.drewN n)) := fun n => B0.trans ((HA.out n).bel.mono (by omega))
  have hzd : w.heap.size ≤ w1.heap.size := (HBd.out 0).size
  clear A1 X1 XA HBg hW0
  go_wp2_with fail
  refine (around_calls ak 6 _ (by decide) (by decide)).mono ?_
  rintro e wa ⟨rfl, hwa⟩
  obtain rfl := hwa.symm
  rw [hak]
  go_wp2_with fail
  by_cases gv : av = M.vw
  rotate_left
  · have v1 : decide (av = M.vw) = false := decide_eq_false gv
    have v2 : (av == M.vw) = false := v1
    have v3 : (av != M.vw) = true := by simp [gv]
    by_cases gn : af < 0
    · have n1 : decide (af < 0) = true := decide_eq_true gn
      go_quiet (first | (go_at_call 7; exact Calls.quiet_of_same (HVw.out _)) | (go_at_call 8; exact Calls.quiet_of_same (HLo.out _)))
      have HKa : Hid (∀ n, _) := fun n => kept_calls (HA.out n).lg (HA.out n).inv (Fl.ok (HA.out n).fl)
      go_wp2_with fail
      refine (HKa.out _).mono ?_
      rintro e w3 ⟨kv, rfl, hkv, b3⟩
      obtain ⟨kp, kc, rfl⟩ := keptV_len hkv
      have A3 := (HA.out nq).below b3
      have X3 := (HX.out nq).below b3
      have HAc : Hid _ := act_calls A3.lg A3.inv ⟨ak, af, av, aq, ad, at'⟩ ⟨hz1, hz2⟩
      have hact : M.act ⟨ak, af, av, aq, ad, at'⟩ = (M, 1) := by
        unfold Lv.act
        show (if arn ak 6 = 0 then _ else if arn ak 6 = 1 then _ else if arn ak 6 = 2 then _ else if arn ak 6 = 3 then _ else if arn ak 6 = 4 then _ else _ : Lv × Int) = _
        rw [hak]
        exact vote_nobody (by rw [Hn7.out]; show ¬ (0 ≤ af ∧ af < _); omega) 4 av aq ad
      rw [hact] at HAc
      have u0 : w3.cell? ⟨w.heap.size, 0, none⟩ = some (.int .i64 ak) := X3.cell rfl
      have u1 : w3.cell? ⟨w.heap.size, 1, none⟩ = some (.int .i64 af) := X3.cell rfl
      have u2 : w3.cell? ⟨w.heap.size, 2, none⟩ = some (.int .i64 av) := X3.cell rfl
      have u3 : w3.cell? ⟨w.heap.size, 3, none⟩ = some (.int .i64 aq) := X3.cell rfl
      have u4 : w3.cell? ⟨w.heap.size, 4, none⟩ = some (.string ad) := X3.cell rfl
      have u5 : w3.cell? ⟨w.heap.size, 5, none⟩ = some (.string at') := X3.cell rfl
      have HA3 : Hid _ := A3
      have HX3 : Hid _ := X3
      have KL : Hid (True) := trivial
      clear hkv b3 A3 X3 hact HKa
      go_wp2_with fail
      refine Calls.mono HAc.out ?_
      rintro e w4 ⟨rfl, mp4, l4, s4⟩
      have A4 := Ats.step HA3.out l4 s4 HA3.out.inv HA3.out.fl
      have X4 := s4.keep HA3.out.lg HX3.out (by omega)
      have t4 : w4.cell? ⟨w.heap.size, 4, none⟩ = some (.string ad) := X4.cell rfl
      have HK4 : Hid _ := kept_calls A4.lg A4.inv (Fl.ok A4.fl)
      have HB4 : Hid (Below w.heap.size w w4) := B0.trans (A4.bel.mono (by omega))
      have hz4 : w.heap.size ≤ w4.heap.size := HB4.out.size
      clear l4 s4 A4 X4 u0 u1 u2 u3 u4 u5
      go_wp2_with fail
      refine Calls.mono HK4.out ?_
      rintro e w5 ⟨kv5, rfl, hkv5, b5⟩
      obtain ⟨kp5, kc5, rfl⟩ := keptV_len hkv5
      clear hkv5
      have HB5 : Hid (Below w.heap.size w w5) := HB4.out.trans (b5.mono hz4)
      have hz5 : w.heap.size ≤ w5.heap.size := HB5.out.size
      go_wp2_with fail
      refine (awake_calls _).mono ?_
      rintro e w6 ⟨rfl, b6⟩
      go_wp2
      go_ret
      exact ⟨rfl, HB5.out.trans (b6.mono hz5)⟩
    · have n1 : decide (af < 0) = false := decide_eq_false gn
      by_cases gm : 6 < af
      · have n2 : decide (6 < af) = true := decide_eq_true gm
        go_quiet (first | (go_at_call 7; exact Calls.quiet_of_same (HVw.out _)) | (go_at_call 8; exact Calls.quiet_of_same (HLo.out _)))
        have HKa : Hid (∀ n, _) := fun n => kept_calls (HA.out n).lg (HA.out n).inv (Fl.ok (HA.out n).fl)
        go_wp2_with fail
        refine (HKa.out _).mono ?_
        rintro e w3 ⟨kv, rfl, hkv, b3⟩
        obtain ⟨kp, kc, rfl⟩ := keptV_len hkv
        have A3 := (HA.out nq).below b3
        have X3 := (HX.out nq).below b3
        have HAc : Hid _ := act_calls A3.lg A3.inv ⟨ak, af, av, aq, ad, at'⟩ ⟨hz1, hz2⟩
        have hact : M.act ⟨ak, af, av, aq, ad, at'⟩ = (M, 1) := by
          unfold Lv.act
          show (if arn ak 6 = 0 then _ else if arn ak 6 = 1 then _ else if arn ak 6 = 2 then _ else if arn ak 6 = 3 then _ else if arn ak 6 = 4 then _ else _ : Lv × Int) = _
          rw [hak]
          exact vote_nobody (by rw [Hn7.out]; show ¬ (0 ≤ af ∧ af < _); omega) 4 av aq ad
        rw [hact] at HAc
        have u0 : w3.cell? ⟨w.heap.size, 0, none⟩ = some (.int .i64 ak) := X3.cell rfl
        have u1 : w3.cell? ⟨w.heap.size, 1, none⟩ = some (.int .i64 af) := X3.cell rfl
        have u2 : w3.cell? ⟨w.heap.size, 2, none⟩ = some (.int .i64 av) := X3.cell rfl
        have u3 : w3.cell? ⟨w.heap.size, 3, none⟩ = some (.int .i64 aq) := X3.cell rfl
        have u4 : w3.cell? ⟨w.heap.size, 4, none⟩ = some (.string ad) := X3.cell rfl
        have u5 : w3.cell? ⟨w.heap.size, 5, none⟩ = some (.string at') := X3.cell rfl
        have HA3 : Hid _ := A3
        have HX3 : Hid _ := X3
        have KL : Hid (True) := trivial
        clear hkv b3 A3 X3 hact HKa
        go_wp2_with fail
        refine Calls.mono HAc.out ?_
        rintro e w4 ⟨rfl, mp4, l4, s4⟩
        have A4 := Ats.step HA3.out l4 s4 HA3.out.inv HA3.out.fl
        have X4 := s4.keep HA3.out.lg HX3.out (by omega)
        have t4 : w4.cell? ⟨w.heap.size, 4, none⟩ = some (.string ad) := X4.cell rfl
        have HK4 : Hid _ := kept_calls A4.lg A4.inv (Fl.ok A4.fl)
        have HB4 : Hid (Below w.heap.size w w4) := B0.trans (A4.bel.mono (by omega))
        have hz4 : w.heap.size ≤ w4.heap.size := HB4.out.size
        clear l4 s4 A4 X4 u0 u1 u2 u3 u4 u5
        go_wp2_with fail
        refine Calls.mono HK4.out ?_
        rintro e w5 ⟨kv5, rfl, hkv5, b5⟩
        obtain ⟨kp5, kc5, rfl⟩ := keptV_len hkv5
        clear hkv5
        have HB5 : Hid (Below w.heap.size w w5) := HB4.out.trans (b5.mono hz4)
        have hz5 : w.heap.size ≤ w5.heap.size := HB5.out.size
        go_wp2_with fail
        refine (awake_calls _).mono ?_
        rintro e w6 ⟨rfl, b6⟩
        go_wp2
        go_ret
        exact ⟨rfl, HB5.out.trans (b6.mono hz5)⟩
      · have n2 : decide (6 < af) = false := decide_eq_false gm
        go_quiet (first | (go_at_call 7; exact Calls.quiet_of_same (HVw.out _)) | (go_at_call 8; exact Calls.quiet_of_same (HLo.out _)))
        have HKa : Hid (∀ n, _) := fun n => kept_calls (HA.out n).lg (HA.out n).inv (Fl.ok (HA.out n).fl)
        go_wp2_with fail
        refine (HKa.out _).mono ?_
        rintro e w3 ⟨kv, rfl, hkv, b3⟩
        obtain ⟨kp, kc, rfl⟩ := keptV_len hkv
        have A3 := (HA.out nq).below b3
        have X3 := (HX.out nq).below b3
        have HAc : Hid _ := act_calls A3.lg A3.inv ⟨ak, af, av, aq, ad, at'⟩ ⟨hz1, hz2⟩
        have hact : M.act ⟨ak, af, av, aq, ad, at'⟩ = (M, 100) := by
          unfold Lv.act
          show (if arn ak 6 = 0 then _ else if arn ak 6 = 1 then _ else if arn ak 6 = 2 then _ else if arn ak 6 = 3 then _ else if arn ak 6 = 4 then _ else _ : Lv × Int) = _
          rw [hak]
          exact vote_out (by rw [Hn7.out]; show 0 ≤ af ∧ af < _; omega) (by decide) (Or.inr gv) ad
        rw [hact] at HAc
        have u0 : w3.cell? ⟨w.heap.size, 0, none⟩ = some (.int .i64 ak) := X3.cell rfl
        have u1 : w3.cell? ⟨w.heap.size, 1, none⟩ = some (.int .i64 af) := X3.cell rfl
        have u2 : w3.cell? ⟨w.heap.size, 2, none⟩ = some (.int .i64 av) := X3.cell rfl
        have u3 : w3.cell? ⟨w.heap.size, 3, none⟩ = some (.int .i64 aq) := X3.cell rfl
        have u4 : w3.cell? ⟨w.heap.size, 4, none⟩ = some (.string ad) := X3.cell rfl
        have u5 : w3.cell? ⟨w.heap.size, 5, none⟩ = some (.string at') := X3.cell rfl
        have HA3 : Hid _ := A3
        have HX3 : Hid _ := X3
        have KL : Hid (True) := trivial
        clear hkv b3 A3 X3 hact HKa
        go_wp2_with fail
        refine Calls.mono HAc.out ?_
        rintro e w4 ⟨rfl, mp4, l4, s4⟩
        have A4 := Ats.step HA3.out l4 s4 HA3.out.inv HA3.out.fl
        have X4 := s4.keep HA3.out.lg HX3.out (by omega)
        have t4 : w4.cell? ⟨w.heap.size, 4, none⟩ = some (.string ad) := X4.cell rfl
        have HK4 : Hid _ := kept_calls A4.lg A4.inv (Fl.ok A4.fl)
        have HB4 : Hid (Below w.heap.size w w4) := B0.trans (A4.bel.mono (by omega))
        have hz4 : w.heap.size ≤ w4.heap.size := HB4.out.size
        clear l4 s4 A4 X4 u0 u1 u2 u3 u4 u5
        go_wp2_with fail
        refine Calls.mono HK4.out ?_
        rintro e w5 ⟨kv5, rfl, hkv5, b5⟩
        obtain ⟨kp5, kc5, rfl⟩ := keptV_len hkv5
        clear hkv5
        have HB5 : Hid (Below w.heap.size w w5) := HB4.out.trans (b5.mono hz4)
        have hz5 : w.heap.size ≤ w5.heap.size := HB5.out.size
        go_wp2_with fail
        refine (awake_calls _).mono ?_
        rintro e w6 ⟨rfl, b6⟩
        go_wp2
        go_ret
        exact ⟨rfl, HB5.out.trans (b6.mono hz5)⟩
  have v3 : (av != M.vw) = false := by simp [gv]
  have v1 : decide (av = M.vw) = true := decide_eq_true gv
  clear gv
  by_cases gq : aq ≤ M.lo
  · have s1 : decide (aq ≤ M.lo) = true := decide_eq_true gq
    by_cases gn : af < 0
    · have n1 : decide (af < 0) = true := decide_eq_true gn
      go_quiet (first | (go_at_call 7; exact Calls.quiet_of_same (HVw.out _)) | (go_at_call 8; exact Calls.quiet_of_same (HLo.out _)))
      have HKa : Hid (∀ n, _) := fun n => kept_calls (HA.out n).lg (HA.out n).inv (Fl.ok (HA.out n).fl)
      go_wp2_with fail
      refine (HKa.out _).mono ?_
      rintro e w3 ⟨kv, rfl, hkv, b3⟩
      obtain ⟨kp, kc, rfl⟩ := keptV_len hkv
      have A3 := (HA.out nq).below b3
      have X3 := (HX.out nq).below b3
      have HAc : Hid _ := act_calls A3.lg A3.inv ⟨ak, af, av, aq, ad, at'⟩ ⟨hz1, hz2⟩
      have hact : M.act ⟨ak, af, av, aq, ad, at'⟩ = (M, 1) := by
        unfold Lv.act
        show (if arn ak 6 = 0 then _ else if arn ak 6 = 1 then _ else if arn ak 6 = 2 then _ else if arn ak 6 = 3 then _ else if arn ak 6 = 4 then _ else _ : Lv × Int) = _
        rw [hak]
        exact vote_nobody (by rw [Hn7.out]; show ¬ (0 ≤ af ∧ af < _); omega) 4 av aq ad
      rw [hact] at HAc
      have u0 : w3.cell? ⟨w.heap.size, 0, none⟩ = some (.int .i64 ak) := X3.cell rfl
      have u1 : w3.cell? ⟨w.heap.size, 1, none⟩ = some (.int .i64 af) := X3.cell rfl
      have u2 : w3.cell? ⟨w.heap.size, 2, none⟩ = some (.int .i64 av) := X3.cell rfl
      have u3 : w3.cell? ⟨w.heap.size, 3, none⟩ = some (.int .i64 aq) := X3.cell rfl
      have u4 : w3.cell? ⟨w.heap.size, 4, none⟩ = some (.string ad) := X3.cell rfl
      have u5 : w3.cell? ⟨w.heap.size, 5, none⟩ = some (.string at') := X3.cell rfl
      have HA3 : Hid _ := A3
      have HX3 : Hid _ := X3
      have KL : Hid (True) := trivial
      clear hkv b3 A3 X3 hact HKa
      go_wp2_with fail
      refine Calls.mono HAc.out ?_
      rintro e w4 ⟨rfl, mp4, l4, s4⟩
      have A4 := Ats.step HA3.out l4 s4 HA3.out.inv HA3.out.fl
      have X4 := s4.keep HA3.out.lg HX3.out (by omega)
      have t4 : w4.cell? ⟨w.heap.size, 4, none⟩ = some (.string ad) := X4.cell rfl
      have HK4 : Hid _ := kept_calls A4.lg A4.inv (Fl.ok A4.fl)
      have HB4 : Hid (Below w.heap.size w w4) := B0.trans (A4.bel.mono (by omega))
      have hz4 : w.heap.size ≤ w4.heap.size := HB4.out.size
      clear l4 s4 A4 X4 u0 u1 u2 u3 u4 u5
      go_wp2_with fail
      refine Calls.mono HK4.out ?_
      rintro e w5 ⟨kv5, rfl, hkv5, b5⟩
      obtain ⟨kp5, kc5, rfl⟩ := keptV_len hkv5
      clear hkv5
      have HB5 : Hid (Below w.heap.size w w5) := HB4.out.trans (b5.mono hz4)
      have hz5 : w.heap.size ≤ w5.heap.size := HB5.out.size
      go_wp2_with fail
      refine (awake_calls _).mono ?_
      rintro e w6 ⟨rfl, b6⟩
      go_wp2
      go_ret
      exact ⟨rfl, HB5.out.trans (b6.mono hz5)⟩
    · have n1 : decide (af < 0) = false := decide_eq_false gn
      by_cases gm : 6 < af
      · have n2 : decide (6 < af) = true := decide_eq_true gm
        go_quiet (first | (go_at_call 7; exact Calls.quiet_of_same (HVw.out _)) | (go_at_call 8; exact Calls.quiet_of_same (HLo.out _)))
        have HKa : Hid (∀ n, _) := fun n => kept_calls (HA.out n).lg (HA.out n).inv (Fl.ok (HA.out n).fl)
        go_wp2_with fail
        refine (HKa.out _).mono ?_
        rintro e w3 ⟨kv, rfl, hkv, b3⟩
        obtain ⟨kp, kc, rfl⟩ := keptV_len hkv
        have A3 := (HA.out nq).below b3
        have X3 := (HX.out nq).below b3
        have HAc : Hid _ := act_calls A3.lg A3.inv ⟨ak, af, av, aq, ad, at'⟩ ⟨hz1, hz2⟩
        have hact : M.act ⟨ak, af, av, aq, ad, at'⟩ = (M, 1) := by
          unfold Lv.act
          show (if arn ak 6 = 0 then _ else if arn ak 6 = 1 then _ else if arn ak 6 = 2 then _ else if arn ak 6 = 3 then _ else if arn ak 6 = 4 then _ else _ : Lv × Int) = _
          rw [hak]
          exact vote_nobody (by rw [Hn7.out]; show ¬ (0 ≤ af ∧ af < _); omega) 4 av aq ad
        rw [hact] at HAc
        have u0 : w3.cell? ⟨w.heap.size, 0, none⟩ = some (.int .i64 ak) := X3.cell rfl
        have u1 : w3.cell? ⟨w.heap.size, 1, none⟩ = some (.int .i64 af) := X3.cell rfl
        have u2 : w3.cell? ⟨w.heap.size, 2, none⟩ = some (.int .i64 av) := X3.cell rfl
        have u3 : w3.cell? ⟨w.heap.size, 3, none⟩ = some (.int .i64 aq) := X3.cell rfl
        have u4 : w3.cell? ⟨w.heap.size, 4, none⟩ = some (.string ad) := X3.cell rfl
        have u5 : w3.cell? ⟨w.heap.size, 5, none⟩ = some (.string at') := X3.cell rfl
        have HA3 : Hid _ := A3
        have HX3 : Hid _ := X3
        have KL : Hid (True) := trivial
        clear hkv b3 A3 X3 hact HKa
        go_wp2_with fail
        refine Calls.mono HAc.out ?_
        rintro e w4 ⟨rfl, mp4, l4, s4⟩
        have A4 := Ats.step HA3.out l4 s4 HA3.out.inv HA3.out.fl
        have X4 := s4.keep HA3.out.lg HX3.out (by omega)
        have t4 : w4.cell? ⟨w.heap.size, 4, none⟩ = some (.string ad) := X4.cell rfl
        have HK4 : Hid _ := kept_calls A4.lg A4.inv (Fl.ok A4.fl)
        have HB4 : Hid (Below w.heap.size w w4) := B0.trans (A4.bel.mono (by omega))
        have hz4 : w.heap.size ≤ w4.heap.size := HB4.out.size
        clear l4 s4 A4 X4 u0 u1 u2 u3 u4 u5
        go_wp2_with fail
        refine Calls.mono HK4.out ?_
        rintro e w5 ⟨kv5, rfl, hkv5, b5⟩
        obtain ⟨kp5, kc5, rfl⟩ := keptV_len hkv5
        clear hkv5
        have HB5 : Hid (Below w.heap.size w w5) := HB4.out.trans (b5.mono hz4)
        have hz5 : w.heap.size ≤ w5.heap.size := HB5.out.size
        go_wp2_with fail
        refine (awake_calls _).mono ?_
        rintro e w6 ⟨rfl, b6⟩
        go_wp2
        go_ret
        exact ⟨rfl, HB5.out.trans (b6.mono hz5)⟩
      · have n2 : decide (6 < af) = false := decide_eq_false gm
        go_quiet (first | (go_at_call 7; exact Calls.quiet_of_same (HVw.out _)) | (go_at_call 8; exact Calls.quiet_of_same (HLo.out _)))
        have HKa : Hid (∀ n, _) := fun n => kept_calls (HA.out n).lg (HA.out n).inv (Fl.ok (HA.out n).fl)
        go_wp2_with fail
        refine (HKa.out _).mono ?_
        rintro e w3 ⟨kv, rfl, hkv, b3⟩
        obtain ⟨kp, kc, rfl⟩ := keptV_len hkv
        have A3 := (HA.out nq).below b3
        have X3 := (HX.out nq).below b3
        have HAc : Hid _ := act_calls A3.lg A3.inv ⟨ak, af, av, aq, ad, at'⟩ ⟨hz1, hz2⟩
        have hact : M.act ⟨ak, af, av, aq, ad, at'⟩ = (M, 100) := by
          unfold Lv.act
          show (if arn ak 6 = 0 then _ else if arn ak 6 = 1 then _ else if arn ak 6 = 2 then _ else if arn ak 6 = 3 then _ else if arn ak 6 = 4 then _ else _ : Lv × Int) = _
          rw [hak]
          exact vote_out (by rw [Hn7.out]; show 0 ≤ af ∧ af < _; omega) (by decide) (Or.inl (by unfold Lv.wi; simp; omega)) ad
        rw [hact] at HAc
        have u0 : w3.cell? ⟨w.heap.size, 0, none⟩ = some (.int .i64 ak) := X3.cell rfl
        have u1 : w3.cell? ⟨w.heap.size, 1, none⟩ = some (.int .i64 af) := X3.cell rfl
        have u2 : w3.cell? ⟨w.heap.size, 2, none⟩ = some (.int .i64 av) := X3.cell rfl
        have u3 : w3.cell? ⟨w.heap.size, 3, none⟩ = some (.int .i64 aq) := X3.cell rfl
        have u4 : w3.cell? ⟨w.heap.size, 4, none⟩ = some (.string ad) := X3.cell rfl
        have u5 : w3.cell? ⟨w.heap.size, 5, none⟩ = some (.string at') := X3.cell rfl
        have HA3 : Hid _ := A3
        have HX3 : Hid _ := X3
        have KL : Hid (True) := trivial
        clear hkv b3 A3 X3 hact HKa
        go_wp2_with fail
        refine Calls.mono HAc.out ?_
        rintro e w4 ⟨rfl, mp4, l4, s4⟩
        have A4 := Ats.step HA3.out l4 s4 HA3.out.inv HA3.out.fl
        have X4 := s4.keep HA3.out.lg HX3.out (by omega)
        have t4 : w4.cell? ⟨w.heap.size, 4, none⟩ = some (.string ad) := X4.cell rfl
        have HK4 : Hid _ := kept_calls A4.lg A4.inv (Fl.ok A4.fl)
        have HB4 : Hid (Below w.heap.size w w4) := B0.trans (A4.bel.mono (by omega))
        have hz4 : w.heap.size ≤ w4.heap.size := HB4.out.size
        clear l4 s4 A4 X4 u0 u1 u2 u3 u4 u5
        go_wp2_with fail
        refine Calls.mono HK4.out ?_
        rintro e w5 ⟨kv5, rfl, hkv5, b5⟩
        obtain ⟨kp5, kc5, rfl⟩ := keptV_len hkv5
        clear hkv5
        have HB5 : Hid (Below w.heap.size w w5) := HB4.out.trans (b5.mono hz4)
        have hz5 : w.heap.size ≤ w5.heap.size := HB5.out.size
        go_wp2_with fail
        refine (awake_calls _).mono ?_
        rintro e w6 ⟨rfl, b6⟩
        go_wp2
        go_ret
        exact ⟨rfl, HB5.out.trans (b6.mono hz5)⟩
  have s1 : decide (aq ≤ M.lo) = false := decide_eq_false gq
  by_cases gr : M.lo + 8 < aq
  · have s2 : decide (M.lo + 8 < aq) = true := decide_eq_true gr
    by_cases gn : af < 0
    · have n1 : decide (af < 0) = true := decide_eq_true gn
      go_quiet (first | (go_at_call 7; exact Calls.quiet_of_same (HVw.out _)) | (go_at_call 8; exact Calls.quiet_of_same (HLo.out _)))
      have HKa : Hid (∀ n, _) := fun n => kept_calls (HA.out n).lg (HA.out n).inv (Fl.ok (HA.out n).fl)
      go_wp2_with fail
      refine (HKa.out _).mono ?_
      rintro e w3 ⟨kv, rfl, hkv, b3⟩
      obtain ⟨kp, kc, rfl⟩ := keptV_len hkv
      have A3 := (HA.out nq).below b3
      have X3 := (HX.out nq).below b3
      have HAc : Hid _ := act_calls A3.lg A3.inv ⟨ak, af, av, aq, ad, at'⟩ ⟨hz1, hz2⟩
      have hact : M.act ⟨ak, af, av, aq, ad, at'⟩ = (M, 1) := by
        unfold Lv.act
        show (if arn ak 6 = 0 then _ else if arn ak 6 = 1 then _ else if arn ak 6 = 2 then _ else if arn ak 6 = 3 then _ else if arn ak 6 = 4 then _ else _ : Lv × Int) = _
        rw [hak]
        exact vote_nobody (by rw [Hn7.out]; show ¬ (0 ≤ af ∧ af < _); omega) 4 av aq ad
      rw [hact] at HAc
      have u0 : w3.cell? ⟨w.heap.size, 0, none⟩ = some (.int .i64 ak) := X3.cell rfl
      have u1 : w3.cell? ⟨w.heap.size, 1, none⟩ = some (.int .i64 af) := X3.cell rfl
      have u2 : w3.cell? ⟨w.heap.size, 2, none⟩ = some (.int .i64 av) := X3.cell rfl
      have u3 : w3.cell? ⟨w.heap.size, 3, none⟩ = some (.int .i64 aq) := X3.cell rfl
      have u4 : w3.cell? ⟨w.heap.size, 4, none⟩ = some (.string ad) := X3.cell rfl
      have u5 : w3.cell? ⟨w.heap.size, 5, none⟩ = some (.string at') := X3.cell rfl
      have HA3 : Hid _ := A3
      have HX3 : Hid _ := X3
      have KL : Hid (True) := trivial
      clear hkv b3 A3 X3 hact HKa
      go_wp2_with fail
      refine Calls.mono HAc.out ?_
      rintro e w4 ⟨rfl, mp4, l4, s4⟩
      have A4 := Ats.step HA3.out l4 s4 HA3.out.inv HA3.out.fl
      have X4 := s4.keep HA3.out.lg HX3.out (by omega)
      have t4 : w4.cell? ⟨w.heap.size, 4, none⟩ = some (.string ad) := X4.cell rfl
      have HK4 : Hid _ := kept_calls A4.lg A4.inv (Fl.ok A4.fl)
      have HB4 : Hid (Below w.heap.size w w4) := B0.trans (A4.bel.mono (by omega))
      have hz4 : w.heap.size ≤ w4.heap.size := HB4.out.size
      clear l4 s4 A4 X4 u0 u1 u2 u3 u4 u5
      go_wp2_with fail
      refine Calls.mono HK4.out ?_
      rintro e w5 ⟨kv5, rfl, hkv5, b5⟩
      obtain ⟨kp5, kc5, rfl⟩ := keptV_len hkv5
      clear hkv5
      have HB5 : Hid (Below w.heap.size w w5) := HB4.out.trans (b5.mono hz4)
      have hz5 : w.heap.size ≤ w5.heap.size := HB5.out.size
      go_wp2_with fail
      refine (awake_calls _).mono ?_
      rintro e w6 ⟨rfl, b6⟩
      go_wp2
      go_ret
      exact ⟨rfl, HB5.out.trans (b6.mono hz5)⟩
    · have n1 : decide (af < 0) = false := decide_eq_false gn
      by_cases gm : 6 < af
      · have n2 : decide (6 < af) = true := decide_eq_true gm
        go_quiet (first | (go_at_call 7; exact Calls.quiet_of_same (HVw.out _)) | (go_at_call 8; exact Calls.quiet_of_same (HLo.out _)))
        have HKa : Hid (∀ n, _) := fun n => kept_calls (HA.out n).lg (HA.out n).inv (Fl.ok (HA.out n).fl)
        go_wp2_with fail
        refine (HKa.out _).mono ?_
        rintro e w3 ⟨kv, rfl, hkv, b3⟩
        obtain ⟨kp, kc, rfl⟩ := keptV_len hkv
        have A3 := (HA.out nq).below b3
        have X3 := (HX.out nq).below b3
        have HAc : Hid _ := act_calls A3.lg A3.inv ⟨ak, af, av, aq, ad, at'⟩ ⟨hz1, hz2⟩
        have hact : M.act ⟨ak, af, av, aq, ad, at'⟩ = (M, 1) := by
          unfold Lv.act
          show (if arn ak 6 = 0 then _ else if arn ak 6 = 1 then _ else if arn ak 6 = 2 then _ else if arn ak 6 = 3 then _ else if arn ak 6 = 4 then _ else _ : Lv × Int) = _
          rw [hak]
          exact vote_nobody (by rw [Hn7.out]; show ¬ (0 ≤ af ∧ af < _); omega) 4 av aq ad
        rw [hact] at HAc
        have u0 : w3.cell? ⟨w.heap.size, 0, none⟩ = some (.int .i64 ak) := X3.cell rfl
        have u1 : w3.cell? ⟨w.heap.size, 1, none⟩ = some (.int .i64 af) := X3.cell rfl
        have u2 : w3.cell? ⟨w.heap.size, 2, none⟩ = some (.int .i64 av) := X3.cell rfl
        have u3 : w3.cell? ⟨w.heap.size, 3, none⟩ = some (.int .i64 aq) := X3.cell rfl
        have u4 : w3.cell? ⟨w.heap.size, 4, none⟩ = some (.string ad) := X3.cell rfl
        have u5 : w3.cell? ⟨w.heap.size, 5, none⟩ = some (.string at') := X3.cell rfl
        have HA3 : Hid _ := A3
        have HX3 : Hid _ := X3
        have KL : Hid (True) := trivial
        clear hkv b3 A3 X3 hact HKa
        go_wp2_with fail
        refine Calls.mono HAc.out ?_
        rintro e w4 ⟨rfl, mp4, l4, s4⟩
        have A4 := Ats.step HA3.out l4 s4 HA3.out.inv HA3.out.fl
        have X4 := s4.keep HA3.out.lg HX3.out (by omega)
        have t4 : w4.cell? ⟨w.heap.size, 4, none⟩ = some (.string ad) := X4.cell rfl
        have HK4 : Hid _ := kept_calls A4.lg A4.inv (Fl.ok A4.fl)
        have HB4 : Hid (Below w.heap.size w w4) := B0.trans (A4.bel.mono (by omega))
        have hz4 : w.heap.size ≤ w4.heap.size := HB4.out.size
        clear l4 s4 A4 X4 u0 u1 u2 u3 u4 u5
        go_wp2_with fail
        refine Calls.mono HK4.out ?_
        rintro e w5 ⟨kv5, rfl, hkv5, b5⟩
        obtain ⟨kp5, kc5, rfl⟩ := keptV_len hkv5
        clear hkv5
        have HB5 : Hid (Below w.heap.size w w5) := HB4.out.trans (b5.mono hz4)
        have hz5 : w.heap.size ≤ w5.heap.size := HB5.out.size
        go_wp2_with fail
        refine (awake_calls _).mono ?_
        rintro e w6 ⟨rfl, b6⟩
        go_wp2
        go_ret
        exact ⟨rfl, HB5.out.trans (b6.mono hz5)⟩
      · have n2 : decide (6 < af) = false := decide_eq_false gm
        go_quiet (first | (go_at_call 7; exact Calls.quiet_of_same (HVw.out _)) | (go_at_call 8; exact Calls.quiet_of_same (HLo.out _)))
        have HKa : Hid (∀ n, _) := fun n => kept_calls (HA.out n).lg (HA.out n).inv (Fl.ok (HA.out n).fl)
        go_wp2_with fail
        refine (HKa.out _).mono ?_
        rintro e w3 ⟨kv, rfl, hkv, b3⟩
        obtain ⟨kp, kc, rfl⟩ := keptV_len hkv
        have A3 := (HA.out nq).below b3
        have X3 := (HX.out nq).below b3
        have HAc : Hid _ := act_calls A3.lg A3.inv ⟨ak, af, av, aq, ad, at'⟩ ⟨hz1, hz2⟩
        have hact : M.act ⟨ak, af, av, aq, ad, at'⟩ = (M, 100) := by
          unfold Lv.act
          show (if arn ak 6 = 0 then _ else if arn ak 6 = 1 then _ else if arn ak 6 = 2 then _ else if arn ak 6 = 3 then _ else if arn ak 6 = 4 then _ else _ : Lv × Int) = _
          rw [hak]
          exact vote_out (by rw [Hn7.out]; show 0 ≤ af ∧ af < _; omega) (by decide) (Or.inl (by unfold Lv.wi; simp; omega)) ad
        rw [hact] at HAc
        have u0 : w3.cell? ⟨w.heap.size, 0, none⟩ = some (.int .i64 ak) := X3.cell rfl
        have u1 : w3.cell? ⟨w.heap.size, 1, none⟩ = some (.int .i64 af) := X3.cell rfl
        have u2 : w3.cell? ⟨w.heap.size, 2, none⟩ = some (.int .i64 av) := X3.cell rfl
        have u3 : w3.cell? ⟨w.heap.size, 3, none⟩ = some (.int .i64 aq) := X3.cell rfl
        have u4 : w3.cell? ⟨w.heap.size, 4, none⟩ = some (.string ad) := X3.cell rfl
        have u5 : w3.cell? ⟨w.heap.size, 5, none⟩ = some (.string at') := X3.cell rfl
        have HA3 : Hid _ := A3
        have HX3 : Hid _ := X3
        have KL : Hid (True) := trivial
        clear hkv b3 A3 X3 hact HKa
        go_wp2_with fail
        refine Calls.mono HAc.out ?_
        rintro e w4 ⟨rfl, mp4, l4, s4⟩
        have A4 := Ats.step HA3.out l4 s4 HA3.out.inv HA3.out.fl
        have X4 := s4.keep HA3.out.lg HX3.out (by omega)
        have t4 : w4.cell? ⟨w.heap.size, 4, none⟩ = some (.string ad) := X4.cell rfl
        have HK4 : Hid _ := kept_calls A4.lg A4.inv (Fl.ok A4.fl)
        have HB4 : Hid (Below w.heap.size w w4) := B0.trans (A4.bel.mono (by omega))
        have hz4 : w.heap.size ≤ w4.heap.size := HB4.out.size
        clear l4 s4 A4 X4 u0 u1 u2 u3 u4 u5
        go_wp2_with fail
        refine Calls.mono HK4.out ?_
        rintro e w5 ⟨kv5, rfl, hkv5, b5⟩
        obtain ⟨kp5, kc5, rfl⟩ := keptV_len hkv5
        clear hkv5
        have HB5 : Hid (Below w.heap.size w w5) := HB4.out.trans (b5.mono hz4)
        have hz5 : w.heap.size ≤ w5.heap.size := HB5.out.size
        go_wp2_with fail
        refine (awake_calls _).mono ?_
        rintro e w6 ⟨rfl, b6⟩
        go_wp2
        go_ret
        exact ⟨rfl, HB5.out.trans (b6.mono hz5)⟩
  · have s2 : decide (M.lo + 8 < aq) = false := decide_eq_false gr
    by_cases gn : af < 0
    · have n1 : decide (af < 0) = true := decide_eq_true gn
      go_quiet (first | (go_at_call 7; exact Calls.quiet_of_same (HVw.out _)) | (go_at_call 8; exact Calls.quiet_of_same (HLo.out _)))
      have HKa : Hid (∀ n, _) := fun n => kept_calls (HA.out n).lg (HA.out n).inv (Fl.ok (HA.out n).fl)
      go_wp2_with fail
      refine (HKa.out _).mono ?_
      rintro e w3 ⟨kv, rfl, hkv, b3⟩
      obtain ⟨kp, kc, rfl⟩ := keptV_len hkv
      have A3 := (HA.out nq).below b3
      have X3 := (HX.out nq).below b3
      have HAc : Hid _ := act_calls A3.lg A3.inv ⟨ak, af, av, aq, ad, at'⟩ ⟨hz1, hz2⟩
      have hact : M.act ⟨ak, af, av, aq, ad, at'⟩ = (M, 1) := by
        unfold Lv.act
        show (if arn ak 6 = 0 then _ else if arn ak 6 = 1 then _ else if arn ak 6 = 2 then _ else if arn ak 6 = 3 then _ else if arn ak 6 = 4 then _ else _ : Lv × Int) = _
        rw [hak]
        exact vote_nobody (by rw [Hn7.out]; show ¬ (0 ≤ af ∧ af < _); omega) 4 av aq ad
      rw [hact] at HAc
      have u0 : w3.cell? ⟨w.heap.size, 0, none⟩ = some (.int .i64 ak) := X3.cell rfl
      have u1 : w3.cell? ⟨w.heap.size, 1, none⟩ = some (.int .i64 af) := X3.cell rfl
      have u2 : w3.cell? ⟨w.heap.size, 2, none⟩ = some (.int .i64 av) := X3.cell rfl
      have u3 : w3.cell? ⟨w.heap.size, 3, none⟩ = some (.int .i64 aq) := X3.cell rfl
      have u4 : w3.cell? ⟨w.heap.size, 4, none⟩ = some (.string ad) := X3.cell rfl
      have u5 : w3.cell? ⟨w.heap.size, 5, none⟩ = some (.string at') := X3.cell rfl
      have HA3 : Hid _ := A3
      have HX3 : Hid _ := X3
      have KL : Hid (True) := trivial
      clear hkv b3 A3 X3 hact HKa
      go_wp2_with fail
      refine Calls.mono HAc.out ?_
      rintro e w4 ⟨rfl, mp4, l4, s4⟩
      have A4 := Ats.step HA3.out l4 s4 HA3.out.inv HA3.out.fl
      have X4 := s4.keep HA3.out.lg HX3.out (by omega)
      have t4 : w4.cell? ⟨w.heap.size, 4, none⟩ = some (.string ad) := X4.cell rfl
      have HK4 : Hid _ := kept_calls A4.lg A4.inv (Fl.ok A4.fl)
      have HB4 : Hid (Below w.heap.size w w4) := B0.trans (A4.bel.mono (by omega))
      have hz4 : w.heap.size ≤ w4.heap.size := HB4.out.size
      clear l4 s4 A4 X4 u0 u1 u2 u3 u4 u5
      go_wp2_with fail
      refine Calls.mono HK4.out ?_
      rintro e w5 ⟨kv5, rfl, hkv5, b5⟩
      obtain ⟨kp5, kc5, rfl⟩ := keptV_len hkv5
      clear hkv5
      have HB5 : Hid (Below w.heap.size w w5) := HB4.out.trans (b5.mono hz4)
      have hz5 : w.heap.size ≤ w5.heap.size := HB5.out.size
      go_wp2_with fail
      refine (awake_calls _).mono ?_
      rintro e w6 ⟨rfl, b6⟩
      go_wp2
      go_ret
      exact ⟨rfl, HB5.out.trans (b6.mono hz5)⟩
    · have n1 : decide (af < 0) = false := decide_eq_false gn
      by_cases gm : 6 < af
      · have n2 : decide (6 < af) = true := decide_eq_true gm
        go_quiet (first | (go_at_call 7; exact Calls.quiet_of_same (HVw.out _)) | (go_at_call 8; exact Calls.quiet_of_same (HLo.out _)))
        have HKa : Hid (∀ n, _) := fun n => kept_calls (HA.out n).lg (HA.out n).inv (Fl.ok (HA.out n).fl)
        go_wp2_with fail
        refine (HKa.out _).mono ?_
        rintro e w3 ⟨kv, rfl, hkv, b3⟩
        obtain ⟨kp, kc, rfl⟩ := keptV_len hkv
        have A3 := (HA.out nq).below b3
        have X3 := (HX.out nq).below b3
        have HAc : Hid _ := act_calls A3.lg A3.inv ⟨ak, af, av, aq, ad, at'⟩ ⟨hz1, hz2⟩
        have hact : M.act ⟨ak, af, av, aq, ad, at'⟩ = (M, 1) := by
          unfold Lv.act
          show (if arn ak 6 = 0 then _ else if arn ak 6 = 1 then _ else if arn ak 6 = 2 then _ else if arn ak 6 = 3 then _ else if arn ak 6 = 4 then _ else _ : Lv × Int) = _
          rw [hak]
          exact vote_nobody (by rw [Hn7.out]; show ¬ (0 ≤ af ∧ af < _); omega) 4 av aq ad
        rw [hact] at HAc
        have u0 : w3.cell? ⟨w.heap.size, 0, none⟩ = some (.int .i64 ak) := X3.cell rfl
        have u1 : w3.cell? ⟨w.heap.size, 1, none⟩ = some (.int .i64 af) := X3.cell rfl
        have u2 : w3.cell? ⟨w.heap.size, 2, none⟩ = some (.int .i64 av) := X3.cell rfl
        have u3 : w3.cell? ⟨w.heap.size, 3, none⟩ = some (.int .i64 aq) := X3.cell rfl
        have u4 : w3.cell? ⟨w.heap.size, 4, none⟩ = some (.string ad) := X3.cell rfl
        have u5 : w3.cell? ⟨w.heap.size, 5, none⟩ = some (.string at') := X3.cell rfl
        have HA3 : Hid _ := A3
        have HX3 : Hid _ := X3
        have KL : Hid (True) := trivial
        clear hkv b3 A3 X3 hact HKa
        go_wp2_with fail
        refine Calls.mono HAc.out ?_
        rintro e w4 ⟨rfl, mp4, l4, s4⟩
        have A4 := Ats.step HA3.out l4 s4 HA3.out.inv HA3.out.fl
        have X4 := s4.keep HA3.out.lg HX3.out (by omega)
        have t4 : w4.cell? ⟨w.heap.size, 4, none⟩ = some (.string ad) := X4.cell rfl
        have HK4 : Hid _ := kept_calls A4.lg A4.inv (Fl.ok A4.fl)
        have HB4 : Hid (Below w.heap.size w w4) := B0.trans (A4.bel.mono (by omega))
        have hz4 : w.heap.size ≤ w4.heap.size := HB4.out.size
        clear l4 s4 A4 X4 u0 u1 u2 u3 u4 u5
        go_wp2_with fail
        refine Calls.mono HK4.out ?_
        rintro e w5 ⟨kv5, rfl, hkv5, b5⟩
        obtain ⟨kp5, kc5, rfl⟩ := keptV_len hkv5
        clear hkv5
        have HB5 : Hid (Below w.heap.size w w5) := HB4.out.trans (b5.mono hz4)
        have hz5 : w.heap.size ≤ w5.heap.size := HB5.out.size
        go_wp2_with fail
        refine (awake_calls _).mono ?_
        rintro e w6 ⟨rfl, b6⟩
        go_wp2
        go_ret
        exact ⟨rfl, HB5.out.trans (b6.mono hz5)⟩
      · have n2 : decide (6 < af) = false := decide_eq_false gm
        go_quiet (first | (go_at_call 7; exact Calls.quiet_of_same (HVw.out _)) | (go_at_call 8; exact Calls.quiet_of_same (HLo.out _)))
        go_wp2_with fail
        refine (awake_calls _).mono ?_
        rintro e w5 ⟨rfl, b5⟩
        go_wp2
        go_ret
        exact ⟨rfl, (HBd.out _).trans (b5.mono hzd)⟩
end Go.Proofs.Ytipjlonnllcfbab
