/- The document's Taken, walked. -/
import Derived.Test.YtgbcbjfaplogaaaCkTk
import Derived.Test.YtgbcbjfaplogaaaRefI
import Derived.Deep.RegionHeldLaw
import Derived.Deep.RegionHeld3
namespace Go.Proofs.Ytgbcbjfaplogaaa
open Go.RowKit
set_option linter.unusedSimpArgs false
set_option linter.unusedVariables false
variable {p b : Nat} {a : Au}

set_option maxRecDepth 100000 in
set_option maxHeartbeats 4000000 in
theorem taken_calls (s : ByteArray) (w : World) (hs : s.size ≤ 140737488351232) (t : Bool) (ht : (∃ ms, nm s = some ms ∧ Good ms) ↔ t = true) :
    Calls Try.prog 14 #[.string s] w fun e w' => e = .returned (.bool t) ∧ Below w.heap.size w w' := by
  obtain ⟨i0, hi, hz0, hz1, hz2⟩ := info_parts infoInt
  have hsm : s.size ≤ maxLen := by unfold maxLen; omega
  have HT : Hid _ := ht
  have HF0 : Hid (nm s = none → t = false) := fun hn => by
    cases t
    · rfl
    · obtain ⟨ms, h1, _⟩ := ht.2 rfl
      rw [hn] at h1; cases h1
  clear ht
  go_enter Try.func14, Try.ntmps14
  go_wp2
  go_loopw [3, 4] (fun o i wr => ∃ (k : Nat) (ms : List Int), k ≤ s.size ∧ i = .int .i64 k ∧ ms.length ≤ 38 ∧ Hid (nm s = (nmF (38 - ms.length) (s.data.toList.drop k)).map fun r => ms ++ r) ∧ wr.ownsRow w.heap.size 3 1 o ms.length (iL ms) ∧ Below w.heap.size w wr) (fun _ i _ => s.size - (intOf i).toNat)
  case atStart => exact ⟨0, [], Nat.zero_le _, rfl, Nat.zero_le _, by show _ = _; unfold nm; simp, World.ownsRow_nil _ _ _ _, Below.refl _ _⟩
  case round =>
    obtain ⟨k, ms, hk, rfl, hm, hR, ho, br⟩ := hrel
    have zr := br.size
    by_cases hlt : k < s.size
    · have hd : decide ((k : Int) < s.size) = true := by simp only [decide_eq_true_eq]; omega
      have hg := int_ref s k wr hsm (by omega)
      have hv : ∃ c cap, u3 = .slice c ms.length cap := by
        rcases ho.2 with ⟨rfl, h⟩ | ⟨g, cap, cur, rfl, _⟩
        · rw [h]; exact ⟨none, 0, rfl⟩
        · exact ⟨_, _, rfl⟩
      obtain ⟨c, cap, rfl⟩ := hv
      by_cases h38 : ms.length = 38
      · have hN : Hid (nm s = none) := by
          have := hR.out
          rw [h38, show 38 - 38 = 0 from rfl, nmF_full s k hlt] at this
          exact this
        rw [h38]
        cases hr : rdInt s k with
        | error er =>
          have her := rdInt_err hr
          rw [hr] at hg
          have hde : (er == 0) = false := by simpa using her
          unfold got at hg
          clear hR ho
          go_wp2_with fail
          refine hg.mono ?_
          rintro e w1 ⟨rfl, rfl⟩
          go_wp2
          go_ret
          exact ⟨by rw [HF0.out hN.out]; rfl, br⟩
        | ok q =>
          obtain ⟨m, nx⟩ := q
          rw [hr] at hg
          unfold got at hg
          clear hR ho
          go_wp2_with fail
          refine hg.mono ?_
          rintro e w1 ⟨rfl, rfl⟩
          go_wp2
          go_ret
          exact ⟨by rw [HF0.out hN.out]; rfl, br⟩
      · have hst := nmF_step s k (37 - ms.length) hlt
        have e37 : 37 - ms.length + 1 = 38 - ms.length := by omega
        rw [e37] at hst
        have hd38 : decide (38 ≤ (ms.length : Int)) = false := decide_eq_false (by omega)
        cases hr : rdInt s k with
        | error er =>
          have her := rdInt_err hr
          rw [hr] at hg hst
          have hde : (er == 0) = false := by simpa using her
          have hN : Hid (nm s = none) := by
            have := hR.out
            rw [hst] at this
            exact this
          unfold got at hg
          clear hR ho hst
          go_wp2_with fail
          refine hg.mono ?_
          rintro e w1 ⟨rfl, rfl⟩
          go_wp2
          go_ret
          exact ⟨by rw [HF0.out hN.out]; rfl, br⟩
        | ok q =>
          obtain ⟨m, nx⟩ := q
          obtain ⟨q1, q2, q3⟩ := rdInt_le hr
          have hgt : k < nx := rdInt_gt hr
          rw [hr] at hg hst
          have HN : Hid (nm s = (nmF (38 - (ms ++ [(m : Int)]).length) (s.data.toList.drop nx)).map fun r => (ms ++ [(m : Int)]) ++ r) := by
            show _ = _
            have := hR.out
            rw [hst] at this
            rw [this]
            simp only [Option.map_map, List.length_append, List.length_cons, List.length_nil]
            have e2 : 38 - (ms.length + (0 + 1)) = 37 - ms.length := by omega
            rw [e2]
            congr 1
            funext r
            simp
          have HIL : Hid _ := iL_snoc ms (m : Int)
          have HO1 : Hid _ := ho
          unfold got at hg
          clear hR ho hst
          go_wp2_with fail
          refine hg.mono ?_
          rintro e w1 ⟨rfl, rfl⟩
          clear hg
          go_wp2_with (at_builtin; refine wpList_append_own _ rfl (.tmp 32) (.tmp 34) 35 rfl w.heap.size 3 i0 (.int .i64 0) 1 8 Try.underlying35 hi hz0 hz1 hz2 rfl (by decide) _ _ _ rfl (World.ownsRow.alloc HO1.out _) ⟨w1.heap.size, 0, none⟩ 1 1 [.int .i64 m] rfl rfl ?c1 ?c2 ?c3 ?c4 ?c5 ?_)
          case c1 => exact cell_one_new _ _ _
          case c2 => intro u hu; simp at hu; subst hu; rfl
          case c3 => unfold maxLen; omega
          case c4 => omega
          case c5 => simp; omega
          intro v' w4 ho' hg' _
          go_wp2
          refine ⟨⟨nx, ms ++ [(m : Int)], q2, rfl, by simp; omega, HN.out, ?_, ?_⟩, by simp [intOf]; omega⟩
          · rw [HIL.out, List.length_append]; exact ho'
          · exact below_grownC (br.alloc (by omega) _) hg' (fun q hq => (World.ownsRow.lt HO1.out q hq).1) (by simp; omega)
    · have hd : decide ((k : Int) < s.size) = false := by simp only [decide_eq_false_iff_not]; omega
      have hN : nm s = some ms := by
        have := hR.out
        rw [nmF_done s k _ hlt] at this
        rw [this]; simp
      have hcan := nmF_canon 38 _ ms hN
      have HB : Hid (∀ i, 0 ≤ gAt ms i ∧ gAt ms i ≤ 9007199254740992) := fun i => by
        by_cases hi : i < ms.length
        · rw [gAt_eq hi]; exact hcan.2.2 _ (List.getElem_mem _)
        · rw [gAt_none (by omega)]; omega
      have hgi : Good ms ↔ t = true := by
        rw [← HT.out]
        constructor
        · intro hg; exact ⟨ms, hN, hg⟩
        · rintro ⟨ms', h1, h2⟩
          rw [hN] at h1; cases h1; exact h2
      rw [taken_iff fun i => (HB.out i).1] at hgi
      have HG : Hid _ := hgi
      have HF : Hid (¬ (T1 ms ∧ T2 ms ∧ T3 ms ∧ (∀ j, j < (auOf ms).ds.length → T4 ms j) ∧ T5 ms ∧ T6 ms) → t = false) := fun hn => by
        cases t
        · rfl
        · exact absurd (hgi.2 rfl) hn
      have hrw := rwn_own ho
      clear hR ho hgi HT HF0 hN hcan
      have hdl := auOf_ds ms
      by_cases h8 : ms.length < 8
      · have d8 : decide ((ms.length : Int) < 8) = true := decide_eq_true (by omega)
        obtain ⟨c, cap, hu3, _⟩ := hrw.rd
        subst hu3
        go_wp2
        go_ret
        exact ⟨by rw [HF.out (fun q => by have := q.1.1; omega)]; rfl, br⟩
      have d8 : decide ((ms.length : Int) < 8) = false := decide_eq_false (by omega)
      obtain ⟨g, cap, cur, hu3, _, X, hc⟩ : ∃ g cap cur, u3 = .slice (some ⟨g, 0, none⟩) ms.length cap ∧ w.heap.size ≤ g ∧ Blk wr g cur 3 ∧ ∀ i, i < ms.length → cur[i]? = some (.int .i64 (gAt ms i)) := by
        rcases hrw with ⟨_, rfl⟩ | q
        · simp at h8
        · exact q
      subst hu3
      have c0 : wr.cell? ⟨g, 0, none⟩ = some (.int .i64 (gAt ms 0)) := X.cell (hc 0 (by omega))
      have c1 : wr.cell? ⟨g, 1, none⟩ = some (.int .i64 (gAt ms 1)) := X.cell (hc 1 (by omega))
      have c2 : wr.cell? ⟨g, 2, none⟩ = some (.int .i64 (gAt ms 2)) := X.cell (hc 2 (by omega))
      have c3 : wr.cell? ⟨g, 3, none⟩ = some (.int .i64 (gAt ms 3)) := X.cell (hc 3 (by omega))
      have c4 : wr.cell? ⟨g, 4, none⟩ = some (.int .i64 (gAt ms 4)) := X.cell (hc 4 (by omega))
      have c5 : wr.cell? ⟨g, 5, none⟩ = some (.int .i64 (gAt ms 5)) := X.cell (hc 5 (by omega))
      have l0 : (0 : Int) < ms.length := by omega
      have l1 : (1 : Int) < ms.length := by omega
      have l2 : (2 : Int) < ms.length := by omega
      have l3 : (3 : Int) < ms.length := by omega
      have l4 : (4 : Int) < ms.length := by omega
      have l5 : (5 : Int) < ms.length := by omega
      have HC : Hid _ := hc
      have b0 := HB.out 0
      have b1 := HB.out 1
      have b2 := HB.out 2
      have b3 := HB.out 3
      have b4 := HB.out 4
      have b5 := HB.out 5
      clear hc hrw
      have HDL : Hid _ := hdl
      clear hdl
      by_cases g5 : 16 < gAt ms 5
      · have d5 : decide (16 < gAt ms 5) = true := decide_eq_true g5
        go_wp2
        go_ret
        exact ⟨by rw [HF.out (fun q => by have := q.1.2.1; omega)]; rfl, br⟩
      have d5 : decide (16 < gAt ms 5) = false := decide_eq_false g5
      by_cases gl : (ms.length : Int) = 6 + 2 * gAt ms 5
      case neg =>
        have dl : ((ms.length : Int) == 6 + 2 * gAt ms 5) = false := by simpa using gl
        go_wp2
        go_ret
        exact ⟨by rw [HF.out (fun q => gl q.1.2.2)]; rfl, br⟩
      have dl : ((ms.length : Int) == 6 + 2 * gAt ms 5) = true := by simpa using gl
      have HL : Hid _ := gl
      clear gl
      have HT1 : Hid (T1 ms) := ⟨by omega, by omega, HL.out⟩
      by_cases e0 : gAt ms 0 < 1
      · have f0 : decide (gAt ms 0 < 1) = true := decide_eq_true e0
        go_wp2
        go_ret
        exact ⟨by rw [HF.out (fun q => by have := q.2.1.1; omega)]; rfl, br⟩
      have f0 : decide (gAt ms 0 < 1) = false := decide_eq_false e0
      by_cases e1 : 1048576 < gAt ms 0
      · have f1 : decide (1048576 < gAt ms 0) = true := decide_eq_true e1
        go_wp2
        go_ret
        exact ⟨by rw [HF.out (fun q => by have := q.2.1.2.1; omega)]; rfl, br⟩
      have f1 : decide (1048576 < gAt ms 0) = false := decide_eq_false e1
      by_cases e2 : 1099511627776 < gAt ms 1
      · have f2 : decide (1099511627776 < gAt ms 1) = true := decide_eq_true e2
        go_wp2
        go_ret
        exact ⟨by rw [HF.out (fun q => by have := q.2.1.2.2.1; omega)]; rfl, br⟩
      have f2 : decide (1099511627776 < gAt ms 1) = false := decide_eq_false e2
      by_cases e3 : gAt ms 2 < 1
      · have f3 : decide (gAt ms 2 < 1) = true := decide_eq_true e3
        go_wp2
        go_ret
        exact ⟨by rw [HF.out (fun q => by have := q.2.1.2.2.2.1; omega)]; rfl, br⟩
      have f3 : decide (gAt ms 2 < 1) = false := decide_eq_false e3
      by_cases e4 : 1099511627776 < gAt ms 2
      · have f4 : decide (1099511627776 < gAt ms 2) = true := decide_eq_true e4
        go_wp2
        go_ret
        exact ⟨by rw [HF.out (fun q => by have := q.2.1.2.2.2.2.1; omega)]; rfl, br⟩
      have f4 : decide (1099511627776 < gAt ms 2) = false := decide_eq_false e4
      by_cases e5 : gAt ms 3 < 1
      · have f5 : decide (gAt ms 3 < 1) = true := decide_eq_true e5
        go_wp2
        go_ret
        exact ⟨by rw [HF.out (fun q => by have := q.2.1.2.2.2.2.2.1; omega)]; rfl, br⟩
      have f5 : decide (gAt ms 3 < 1) = false := decide_eq_false e5
      by_cases e6 : 2 < gAt ms 4
      · have f6 : decide (2 < gAt ms 4) = true := decide_eq_true e6
        go_wp2
        go_ret
        exact ⟨by rw [HF.out (fun q => by have := q.2.1.2.2.2.2.2.2; omega)]; rfl, br⟩
      have f6 : decide (2 < gAt ms 4) = false := decide_eq_false e6
      have HT2 : Hid (T2 ms) := ⟨by omega, by omega, by omega, by omega, by omega, by omega, by omega⟩
      have hz2' : ¬ gAt ms 2 = 0 := by omega
      have hzb : (gAt ms 2 == 0) = false := by simpa using hz2'
      have hbt := tdiv_between (1099511627776 - gAt ms 1) (gAt ms 2) (by omega)
      obtain ⟨Q, hQ⟩ : ∃ Q, (1099511627776 - gAt ms 1).tdiv (gAt ms 2) = Q := ⟨_, rfl⟩
      have wQ1 : IntKind.i64.wrap (1099511627776 - gAt ms 1) = 1099511627776 - gAt ms 1 := by rw [IntKind.wrap_i64]; omega
      have wQ : IntKind.i64.wrap Q = Q := by rw [← hQ, IntKind.wrap_i64]; omega
      have hQ0 : 0 ≤ Q ∧ Q ≤ 1099511627776 := by rw [← hQ]; omega
      clear hbt
      by_cases e7 : Q < gAt ms 3 - 1
      · have f7 : decide (Q < gAt ms 3 - 1) = true := decide_eq_true e7
        go_wp2
        go_quiet (fail)
        go_wp2
        go_ret
        exact ⟨by rw [HF.out (fun q => by have h := q.2.2.1; unfold T3 at h; rw [hQ] at h; omega)]; rfl, br.trans (drewN_below _ _ _)⟩
      have f7 : decide (Q < gAt ms 3 - 1) = false := decide_eq_false e7
      have HT3 : Hid (T3 ms) := by show _ ≤ _; rw [hQ]; omega
      have hpr : 0 ≤ (gAt ms 3 - 1) * gAt ms 2 ∧ (gAt ms 3 - 1) * gAt ms 2 ≤ 1099511627776 := by
        refine ⟨Int.mul_nonneg (by omega) (by omega), ?_⟩
        have h1 : gAt ms 3 - 1 ≤ (1099511627776 - gAt ms 1) / gAt ms 2 := by
          rw [Int.tdiv_eq_ediv_of_nonneg (by omega)] at hQ; omega
        have := (Int.le_ediv_iff_mul_le (show 0 < gAt ms 2 by omega)).1 h1
        omega
      have HPR : Hid ((auOf ms).price = gAt ms 1 + (gAt ms 3 - 1) * gAt ms 2) := rfl
      obtain ⟨w0, rfl⟩ : ∃ w0, w0 = wr := ⟨wr, rfl⟩
      have wP : IntKind.i64.wrap ((gAt ms 3 - 1) * gAt ms 2) = (gAt ms 3 - 1) * gAt ms 2 := by rw [IntKind.wrap_i64]; omega
      have HQ : Hid _ := hQ
      go_wp2
      go_quiet (fail)
      go_wp2
      clear wQ1 wQ f7 hQ
      go_quiet (fail)
      go_wp2
      obtain ⟨nn, hnn⟩ : ∃ nn, (auOf ms).ds.length = nn := ⟨_, rfl⟩
      have HNN : Hid ((ms.length : Int) = 6 + 2 * nn) := by
        show _ = _
        have h1 := HL.out
        have h2 := HDL.out
        rw [hnn] at h2
        omega
      have HWS : Hid (∀ j, j < nn → wasOf (auOf ms).ds j = gAt ms (6 + 2 * j) ∧ nowOf (auOf ms).ds j = gAt ms (6 + 2 * j + 1)) := fun j hj => by
        have h2 := HDL.out
        rw [hnn] at h2
        have e : dAt (auOf ms).ds j = ⟨gAt ms (6 + 2 * j), gAt ms (6 + 2 * j + 1)⟩ := dsOf_at ms (by omega)
        unfold wasOf nowOf
        rw [e]
        exact ⟨rfl, rfl⟩
      have HAH : Hid ((auOf ms).ahead = sumTo (wasOf (auOf ms).ds) nn ∧ (auOf ms).want = sumTo (nowOf (auOf ms).ds) nn) := by
        show _ ∧ _
        unfold Au.ahead Au.want
        rw [hnn]; exact ⟨rfl, rfl⟩
      have hn16 : nn ≤ 16 := by have := HNN.out; omega
      have HLN : Hid _ := hnn
      generalize hPP : gAt ms 1 + (gAt ms 3 - 1) * gAt ms 2 = PP at *
      have hP0 : 0 ≤ PP ∧ PP ≤ 2199023255552 := by omega
      clear hnn hPP hpr wP
      go_loopw [9, 10, 11] (fun a b i wr => ∃ j : Nat, j ≤ nn ∧ i = .int .i64 (6 + 2 * (j : Int)) ∧ a = .int .i64 (sumTo (wasOf (auOf ms).ds) j) ∧ b = .int .i64 (sumTo (nowOf (auOf ms).ds) j) ∧ Hid (∀ x, x < j → T4 ms x) ∧ Below w0.heap.size w0 wr) (fun _ _ i _ => 6 + 2 * nn - (intOf i).toNat)
      case atStart => exact ⟨0, Nat.zero_le _, rfl, rfl, rfl, fun x hx => absurd hx (Nat.not_lt_zero _), (drewN_below _ _ _).trans (drewN_below _ _ _)⟩
      case round =>
        obtain ⟨j, hj, rfl, rfl, rfl, hal, bq⟩ := hrel
        have Xq := X.below bq
        have BQ := br.trans (bq.mono br.size)
        have q0 : wr.cell? ⟨g, 0, none⟩ = some (.int .i64 (gAt ms 0)) := Xq.cell (HC.out 0 (by omega))
        have q2 : wr.cell? ⟨g, 2, none⟩ = some (.int .i64 (gAt ms 2)) := Xq.cell (HC.out 2 (by omega))
        have q3 : wr.cell? ⟨g, 3, none⟩ = some (.int .i64 (gAt ms 3)) := Xq.cell (HC.out 3 (by omega))
        have q4 : wr.cell? ⟨g, 4, none⟩ = some (.int .i64 (gAt ms 4)) := Xq.cell (HC.out 4 (by omega))
        have sa : 0 ≤ sumTo (wasOf (auOf ms).ds) j ∧ sumTo (wasOf (auOf ms).ds) j ≤ 16777216 := by
          refine ⟨sumTo_nonneg fun x hx => ?_, ?_⟩
          · rw [(HWS.out x (by omega)).1]; exact (HB.out _).1
          · have := sumTo_le (f := wasOf (auOf ms).ds) (m := 1048576) (k := j) fun x hx => (hal.out x hx).1
            omega
        have sb : 0 ≤ sumTo (nowOf (auOf ms).ds) j ∧ sumTo (nowOf (auOf ms).ds) j ≤ 16777216 := by
          refine ⟨sumTo_nonneg fun x hx => ?_, ?_⟩
          · rw [(HWS.out x (by omega)).2]; exact (HB.out _).1
          · have := sumTo_le (f := nowOf (auOf ms).ds) (m := 1048576) (k := j) fun x hx => (hal.out x hx).2.1
            omega
        by_cases hjt : j < nn
        · have hdj : decide (6 + 2 * (j : Int) < ms.length) = true := decide_eq_true (by have := HNN.out; omega)
          have k1 : 6 + 2 * (j : Int) < ms.length := by have := HNN.out; omega
          have k2 : 6 + 2 * (j : Int) + 1 < ms.length := by have := HNN.out; omega
          have k3 : IntKind.i64.wrap (6 + 2 * (j : Int) + 1) = 6 + 2 * (j : Int) + 1 := by rw [IntKind.wrap_i64]; omega
          have k4 : (6 + 2 * (j : Int)).toNat = 6 + 2 * j := by omega
          have k5 : (6 + 2 * (j : Int) + 1).toNat = 6 + 2 * j + 1 := by omega
          have k8 : 0 ≤ 6 + 2 * (j : Int) := by omega
          have k9 : 0 ≤ 6 + 2 * (j : Int) + 1 := by omega
          have x6 : wr.cell? ⟨g, 6 + 2 * j, none⟩ = some (.int .i64 (wasOf (auOf ms).ds j)) := by rw [(HWS.out j hjt).1]; exact Xq.cell (HC.out _ (by have := HNN.out; omega))
          have x7 : wr.cell? ⟨g, 6 + 2 * j + 1, none⟩ = some (.int .i64 (nowOf (auOf ms).ds j)) := by rw [(HWS.out j hjt).2]; exact Xq.cell (HC.out _ (by have := HNN.out; omega))
          have hx0 : 0 ≤ wasOf (auOf ms).ds j ∧ wasOf (auOf ms).ds j ≤ 9007199254740992 := by rw [(HWS.out j hjt).1]; exact HB.out _
          have hy0 : 0 ≤ nowOf (auOf ms).ds j ∧ nowOf (auOf ms).ds j ≤ 9007199254740992 := by rw [(HWS.out j hjt).2]; exact HB.out _
          have HSA : Hid (sumTo (wasOf (auOf ms).ds) (j + 1) = sumTo (wasOf (auOf ms).ds) j + wasOf (auOf ms).ds j) := rfl
          have HSB : Hid (sumTo (nowOf (auOf ms).ds) (j + 1) = sumTo (nowOf (auOf ms).ds) j + nowOf (auOf ms).ds j) := rfl
          have HBD : Hid (¬ (wasOf (auOf ms).ds j ≤ 1048576 ∧ nowOf (auOf ms).ds j ≤ 1048576 ∧ ¬ (gAt ms 3 = 1 ∧ wasOf (auOf ms).ds j ≠ 0) ∧ ¬ (1 < gAt ms 3 ∧ wasOf (auOf ms).ds j < nowOf (auOf ms).ds j)) → t = false) := fun hn => HF.out fun q => hn (q.2.2.2.1 j (by rw [HLN.out]; exact hjt))
          have HOK : Hid ((wasOf (auOf ms).ds j ≤ 1048576 ∧ nowOf (auOf ms).ds j ≤ 1048576 ∧ ¬ (gAt ms 3 = 1 ∧ wasOf (auOf ms).ds j ≠ 0) ∧ ¬ (1 < gAt ms 3 ∧ wasOf (auOf ms).ds j < nowOf (auOf ms).ds j)) → ∀ x, x < j + 1 → T4 ms x) := fun ho x hx => by
            by_cases e : x = j
            · subst e; exact ho
            · exact hal.out x (by omega)
          have e62 : 6 + 2 * (j : Int) + 2 = 6 + 2 * ((j + 1 : Nat) : Int) := by push_cast; omega
          have HE : Hid _ := e62
          clear e62 hal Xq
          generalize sumTo (wasOf (auOf ms).ds) j = sA at *
          generalize sumTo (nowOf (auOf ms).ds) j = sB at *
          generalize wasOf (auOf ms).ds j = x at *
          generalize nowOf (auOf ms).ds j = y at *
          by_cases y1 : 1048576 < x
          · have z1 : decide (1048576 < x) = true := decide_eq_true y1
            go_wp2
            go_quiet (fail)
            go_wp2
            go_ret
            exact ⟨by rw [HBD.out (by omega)]; rfl, BQ.trans (drewN_below _ _ _)⟩
          have z1 : decide (1048576 < x) = false := decide_eq_false y1
          by_cases y2 : 1048576 < y
          · have z2 : decide (1048576 < y) = true := decide_eq_true y2
            go_wp2
            go_quiet (fail)
            go_wp2
            go_ret
            exact ⟨by rw [HBD.out (by omega)]; rfl, BQ.trans (drewN_below _ _ _)⟩
          have z2 : decide (1048576 < y) = false := decide_eq_false y2
          by_cases y3 : gAt ms 3 = 1
          · rw [y3] at q3
            by_cases y4 : x = 0
            · have z5 : (x == 0) = true := by simpa using y4
              have HX0 : Hid _ := y4
              have HY3 : Hid _ := y3
              clear y3 y4
              go_wp2
              go_quiet (fail)
              go_wp2
              refine ⟨⟨j + 1, by omega, by rw [HE.out], by rw [HSA.out, HX0.out, Int.add_zero], by rw [HSB.out], HOK.out ⟨by have := HX0.out; omega, by omega, fun q => q.2 HX0.out, fun q => by have := HY3.out; omega⟩, bq.trans (drewN_below _ _ _)⟩, ?_⟩
              simp [intOf]; omega
            · have z5 : (x == 0) = false := by simpa using y4
              have HY3 : Hid _ := y3
              clear y3
              go_wp2
              go_quiet (fail)
              go_wp2
              go_ret
              exact ⟨by rw [HBD.out (fun q => q.2.2.1 ⟨HY3.out, y4⟩)]; rfl, BQ.trans (drewN_below _ _ _)⟩
          · have z3 : (gAt ms 3 == 1) = false := by simpa using y3
            have z4 : decide (1 < gAt ms 3) = true := decide_eq_true (by omega)
            by_cases y4 : x < y
            · have z5 : decide (x < y) = true := decide_eq_true y4
              go_wp2
              go_quiet (fail)
              go_wp2
              go_ret
              exact ⟨by rw [HBD.out (fun q => q.2.2.2 ⟨by omega, y4⟩)]; rfl, BQ.trans (drewN_below _ _ _)⟩
            · have z5 : decide (x < y) = false := decide_eq_false y4
              go_wp2
              go_quiet (fail)
              go_wp2
              refine ⟨⟨j + 1, by omega, by rw [HE.out], by rw [HSA.out], by rw [HSB.out], HOK.out ⟨by omega, by omega, fun q => absurd q.1 y3, fun q => by omega⟩, bq.trans (drewN_below _ _ _)⟩, ?_⟩
              simp [intOf]; omega
        · have hdj : decide (6 + 2 * (j : Int) < ms.length) = false := decide_eq_false (by have := HNN.out; omega)
          have hjj : j = nn := by omega
          subst hjj
          have HT4 : Hid (∀ x, x < (auOf ms).ds.length → T4 ms x) := by show ∀ x, _ → _; rw [HLN.out]; exact hal.out
          have HD5 : Hid (T5 ms ↔ ¬ (1 < gAt ms 3 ∧ sumTo (wasOf (auOf ms).ds) j ≤ gAt ms 0) ∧ ¬ (gAt ms 4 = 1 ∧ gAt ms 0 < sumTo (nowOf (auOf ms).ds) j)) := by
            show _ ↔ _
            unfold T5
            rw [HAH.out.1, HAH.out.2]
          have HD6 : Hid (T6 ms ↔ gAt ms 4 ≠ 2 ∨ (gAt ms 0 < sumTo (nowOf (auOf ms).ds) j ∧ 1099511627776 - gAt ms 2 < PP)) := by
            show _ ↔ _
            unfold T6
            rw [HAH.out.2, HPR.out]
          clear hal Xq HAH
          generalize sumTo (wasOf (auOf ms).ds) j = sA at *
          generalize sumTo (nowOf (auOf ms).ds) j = sB at *
          have wL : IntKind.i64.wrap (1099511627776 - gAt ms 2) = 1099511627776 - gAt ms 2 := by rw [IntKind.wrap_i64]; omega
          by_cases n1 : 1 < gAt ms 3
          · have p1 : decide (1 < gAt ms 3) = true := decide_eq_true n1
            by_cases n2 : sA ≤ gAt ms 0
            · have p2 : decide (sA ≤ gAt ms 0) = true := decide_eq_true n2
              go_wp2
              go_ret
              exact ⟨by rw [HF.out (fun q => (HD5.out.1 q.2.2.2.2.1).1 ⟨n1, n2⟩)]; rfl, BQ⟩
            · have p2 : decide (sA ≤ gAt ms 0) = false := decide_eq_false n2
              have h5a : ¬ (1 < gAt ms 3 ∧ sA ≤ gAt ms 0) := fun q => n2 q.2
              have H5A : Hid _ := h5a
              clear h5a
              by_cases n3 : gAt ms 4 = 1
              · rw [n3] at q4
                by_cases n4 : gAt ms 0 < sB
                · have p4 : decide (gAt ms 0 < sB) = true := decide_eq_true n4
                  have HN3 : Hid _ := n3
                  clear n3
                  go_wp2
                  go_ret
                  exact ⟨by rw [HF.out (fun q => (HD5.out.1 q.2.2.2.2.1).2 ⟨HN3.out, n4⟩)]; rfl, BQ⟩
                · have p4 : decide (gAt ms 0 < sB) = false := decide_eq_false n4
                  have HT5 : Hid (T5 ms) := HD5.out.2 ⟨H5A.out, fun q => n4 q.2⟩
                  have HN3 : Hid _ := n3
                  have HV : Hid (t = true) := HG.out.1 ⟨HT1.out, HT2.out, HT3.out, HT4.out, HT5.out, HD6.out.2 (Or.inl (by rw [n3]; omega))⟩
                  clear n3
                  go_wp2
                  go_ret
                  exact ⟨by rw [HV.out]; rfl, BQ⟩
              · have p3 : (gAt ms 4 == 1) = false := by simpa using n3
                have HT5 : Hid (T5 ms) := HD5.out.2 ⟨H5A.out, fun q => n3 q.1⟩
                have HTA : Hid (T6 ms ↔ t = true) := ⟨fun q => HG.out.1 ⟨HT1.out, HT2.out, HT3.out, HT4.out, HT5.out, q⟩, fun q => (HG.out.2 q).2.2.2.2.2⟩
                by_cases m2 : gAt ms 4 = 2
                · rw [m2] at q4
                  by_cases m3 : gAt ms 0 < sB
                  · have r2 : decide (gAt ms 0 < sB) = true := decide_eq_true m3
                    have HV : Hid (decide (1099511627776 - gAt ms 2 < PP) = t) := by
                      show _ = _
                      refine decide_eq_iff_bool ?_
                      rw [← HTA.out, HD6.out]
                      exact ⟨fun q => Or.inr ⟨m3, q⟩, fun q => by rcases q with q | q; exact absurd m2 q; exact q.2⟩
                    have HM2 : Hid _ := m2
                    clear m2
                    go_wp2
                    go_ret
                    exact ⟨by rw [← HV.out]; rfl, BQ⟩
                  · have r2 : decide (gAt ms 0 < sB) = false := decide_eq_false m3
                    have HV : Hid (t = false) := by
                      show _ = _
                      cases t
                      · rfl
                      · rcases HD6.out.1 (HTA.out.2 rfl) with q | q
                        · exact absurd m2 q
                        · exact absurd q.1 m3
                    have HM2 : Hid _ := m2
                    clear m2
                    go_wp2
                    go_ret
                    exact ⟨by rw [HV.out]; rfl, BQ⟩
                · have r1 : (gAt ms 4 == 2) = false := by simpa using m2
                  have HV : Hid (t = true) := HTA.out.1 (HD6.out.2 (Or.inl m2))
                  go_wp2
                  go_ret
                  exact ⟨by rw [HV.out]; rfl, BQ⟩
          · have p1 : decide (1 < gAt ms 3) = false := decide_eq_false n1
            have h5a : ¬ (1 < gAt ms 3 ∧ sA ≤ gAt ms 0) := fun q => n1 q.1
            have H5A : Hid _ := h5a
            clear h5a
            by_cases n3 : gAt ms 4 = 1
            · rw [n3] at q4
              by_cases n4 : gAt ms 0 < sB
              · have p4 : decide (gAt ms 0 < sB) = true := decide_eq_true n4
                have HN3 : Hid _ := n3
                clear n3
                go_wp2
                go_ret
                exact ⟨by rw [HF.out (fun q => (HD5.out.1 q.2.2.2.2.1).2 ⟨HN3.out, n4⟩)]; rfl, BQ⟩
              · have p4 : decide (gAt ms 0 < sB) = false := decide_eq_false n4
                have HT5 : Hid (T5 ms) := HD5.out.2 ⟨H5A.out, fun q => n4 q.2⟩
                have HN3 : Hid _ := n3
                have HV : Hid (t = true) := HG.out.1 ⟨HT1.out, HT2.out, HT3.out, HT4.out, HT5.out, HD6.out.2 (Or.inl (by rw [n3]; omega))⟩
                clear n3
                go_wp2
                go_ret
                exact ⟨by rw [HV.out]; rfl, BQ⟩
            · have p3 : (gAt ms 4 == 1) = false := by simpa using n3
              have HT5 : Hid (T5 ms) := HD5.out.2 ⟨H5A.out, fun q => n3 q.1⟩
              have HTA : Hid (T6 ms ↔ t = true) := ⟨fun q => HG.out.1 ⟨HT1.out, HT2.out, HT3.out, HT4.out, HT5.out, q⟩, fun q => (HG.out.2 q).2.2.2.2.2⟩
              by_cases m2 : gAt ms 4 = 2
              · rw [m2] at q4
                by_cases m3 : gAt ms 0 < sB
                · have r2 : decide (gAt ms 0 < sB) = true := decide_eq_true m3
                  have HV : Hid (decide (1099511627776 - gAt ms 2 < PP) = t) := by
                    show _ = _
                    refine decide_eq_iff_bool ?_
                    rw [← HTA.out, HD6.out]
                    exact ⟨fun q => Or.inr ⟨m3, q⟩, fun q => by rcases q with q | q; exact absurd m2 q; exact q.2⟩
                  have HM2 : Hid _ := m2
                  clear m2
                  go_wp2
                  go_ret
                  exact ⟨by rw [← HV.out]; rfl, BQ⟩
                · have r2 : decide (gAt ms 0 < sB) = false := decide_eq_false m3
                  have HV : Hid (t = false) := by
                    show _ = _
                    cases t
                    · rfl
                    · rcases HD6.out.1 (HTA.out.2 rfl) with q | q
                      · exact absurd m2 q
                      · exact absurd q.1 m3
                  have HM2 : Hid _ := m2
                  clear m2
                  go_wp2
                  go_ret
                  exact ⟨by rw [HV.out]; rfl, BQ⟩
              · have r1 : (gAt ms 4 == 2) = false := by simpa using m2
                have HV : Hid (t = true) := HTA.out.1 (HD6.out.2 (Or.inl m2))
                go_wp2
                go_ret
                exact ⟨by rw [HV.out]; rfl, BQ⟩
end Go.Proofs.Ytgbcbjfaplogaaa
