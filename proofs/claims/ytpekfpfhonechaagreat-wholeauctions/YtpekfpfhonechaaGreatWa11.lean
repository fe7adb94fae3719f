/- Bid, begin, Next. -/
import Derived.Test.YtpekfpfhonechaaGreatWa10
namespace Go.Proofs.YtpekfpfhonechaaGreat.Clo
open Go.RowKit
set_option linter.unusedSimpArgs false
set_option linter.unusedVariables false
variable {p b : Nat} {a : Au}

set_option maxRecDepth 100000 in
set_option maxHeartbeats 1000000 in
theorem bid_calls (w : World) (h : Lc w p b a) (who n : Int) (r : Int × Au) (hr : a.bid who n = r) :
    Calls Tryz.prog 80 #[.pointer (some ⟨p, 0, none⟩), .int .i64 who, .int .i64 n] w fun e w' => e = .returned (.int .i64 r.1) ∧ Lc w' p b r.2 ∧ Ofc p b w w' := by
  have hre := refuse_calls w h
  have hha := has_calls w h who
  have hwi := inn_calls n 0 1048576 w
  have hlen := h.inv.len
  have c5 : w.cell? ⟨p, 5, none⟩ = some (.slice (some ⟨b, 0, none⟩) a.ds.length a.ds.length) := h.blk.cell rfl
  have c3 : w.cell? ⟨p, 3, none⟩ = some (.int .i64 a.round) := h.blk.cell rfl
  have HI : Hid (Inv r.2) := by show Inv r.2; rw [← hr]; exact h.inv.bid who n
  unfold Au.bid at hr
  unfold Au.ref at hre
  by_cases h0 : a.state = 0
  · rw [if_pos h0] at hre
    rw [if_neg (fun e => e h0)] at hr
    by_cases h1 : 0 ≤ who ∧ who < (a.ds.length : Int)
    · rw [show decide (0 ≤ who ∧ who < (a.ds.length : Int)) = true from decide_eq_true h1] at hha
      by_cases h2 : 0 ≤ n ∧ n ≤ 1048576
      · rw [show decide (0 ≤ n ∧ n ≤ 1048576) = true from decide_eq_true h2] at hwi
        rw [if_neg (by intro e; rcases e with e | e; exact e h1; exact e h2)] at hr
        obtain ⟨i, rfl⟩ := Int.eq_ofNat_of_zero_le h1.1
        have hi : i < a.ds.length := by omega
        rw [Int.toNat_natCast] at hr
        have n0 := h.was hi
        have n1 := h.now hi
        have f1 : w.frozen? ⟨b, i * 2 + 1, none⟩ = false := h.row.frozen
        have HS : Hid (Lc (w.setCell ⟨b, i * 2 + 1, none⟩ (.int .i64 n)) p b { a with ds := a.ds.set i ⟨wasOf a.ds i, n⟩ } ∨ ¬ Inv { a with ds := a.ds.set i ⟨wasOf a.ds i, n⟩ }) := by
          by_cases hI : Inv { a with ds := a.ds.set i ⟨wasOf a.ds i, n⟩ }
          · refine Or.inl ⟨?_, ?_, h.ne, hI⟩
            · have := h.blk.setOther (p := ⟨b, i * 2 + 1, none⟩) h.ne (.int .i64 n)
              simp only [List.length_set]
              exact this
            · have := h.row.set (i * 2 + 1) (.int .i64 n)
              rw [dC_set (d := ⟨wasOf a.ds i, n⟩) hi (by omega) rfl] at this
              exact this
          · exact Or.inr hI
        have HO : Hid (Ofc p b w (w.setCell ⟨b, i * 2 + 1, none⟩ (.int .i64 n))) := (Ofc.refl p b w).setCell (q := ⟨b, i * 2 + 1, none⟩) (Or.inr rfl) _
        generalize hy : wasOf a.ds i = y at *
        have HY : Hid _ := hy
        clear hy
        by_cases h3 : 1 < a.round
        · have d3 : decide (1 < a.round) = true := decide_eq_true h3
          by_cases h4 : y < n
          · have d4 : decide (y < n) = true := decide_eq_true h4
            rw [if_pos ⟨h3, h4⟩] at hr
            have HR : Hid _ := hr
            clear hr
            go_enter Tryz.func80, Tryz.ntmps80
            go_wp2_with fail
            refine hre.mono ?_
            rintro e w1 ⟨rfl, rfl⟩
            go_wp2_with fail
            refine hha.mono ?_
            rintro e w1 ⟨rfl, rfl⟩
            go_wp2_with fail
            refine hwi.mono ?_
            rintro e w1 ⟨rfl, rfl⟩
            go_wp2
            go_ret
            rw [← HR.out]
            exact ⟨rfl, h, Ofc.refl _ _ _⟩
          · have d4 : decide (y < n) = false := decide_eq_false h4
            rw [if_neg (fun e => h4 e.2)] at hr
            have HR : Hid _ := hr
            clear hr
            go_enter Tryz.func80, Tryz.ntmps80
            go_wp2_with fail
            refine hre.mono ?_
            rintro e w1 ⟨rfl, rfl⟩
            go_wp2_with fail
            refine hha.mono ?_
            rintro e w1 ⟨rfl, rfl⟩
            go_wp2_with fail
            refine hwi.mono ?_
            rintro e w1 ⟨rfl, rfl⟩
            go_wp2
            go_ret
            have hI := HI.out
            rw [← HR.out] at hI ⊢
            exact ⟨rfl, HS.out.resolve_right (fun e => e hI), HO.out⟩
        · have d3 : decide (1 < a.round) = false := decide_eq_false h3
          rw [if_neg (fun e => h3 e.1)] at hr
          have HR : Hid _ := hr
          clear hr
          go_enter Tryz.func80, Tryz.ntmps80
          go_wp2_with fail
          refine hre.mono ?_
          rintro e w1 ⟨rfl, rfl⟩
          go_wp2_with fail
          refine hha.mono ?_
          rintro e w1 ⟨rfl, rfl⟩
          go_wp2_with fail
          refine hwi.mono ?_
          rintro e w1 ⟨rfl, rfl⟩
          go_wp2
          go_ret
          have hI := HI.out
          rw [← HR.out] at hI ⊢
          exact ⟨rfl, HS.out.resolve_right (fun e => e hI), HO.out⟩
      · rw [show decide (0 ≤ n ∧ n ≤ 1048576) = false from decide_eq_false h2] at hwi
        rw [if_pos (Or.inr h2)] at hr
        have HR : Hid _ := hr
        clear hr
        go_enter Tryz.func80, Tryz.ntmps80
        go_wp2_with fail
        refine hre.mono ?_
        rintro e w1 ⟨rfl, rfl⟩
        go_wp2_with fail
        refine hha.mono ?_
        rintro e w1 ⟨rfl, rfl⟩
        go_wp2_with fail
        refine hwi.mono ?_
        rintro e w1 ⟨rfl, rfl⟩
        go_wp2
        go_ret
        rw [← HR.out]
        exact ⟨rfl, h, Ofc.refl _ _ _⟩
    · rw [show decide (0 ≤ who ∧ who < (a.ds.length : Int)) = false from decide_eq_false h1] at hha
      rw [if_pos (Or.inl h1)] at hr
      have HR : Hid _ := hr
      clear hr
      go_enter Tryz.func80, Tryz.ntmps80
      go_wp2_with fail
      refine hre.mono ?_
      rintro e w1 ⟨rfl, rfl⟩
      go_wp2_with fail
      refine hha.mono ?_
      rintro e w1 ⟨rfl, rfl⟩
      go_wp2
      go_ret
      rw [← HR.out]
      exact ⟨rfl, h, Ofc.refl _ _ _⟩
  · rw [if_neg h0] at hre
    rw [if_pos h0] at hr
    have HR : Hid _ := hr
    clear hr
    go_enter Tryz.func80, Tryz.ntmps80
    go_wp2_with fail
    refine hre.mono ?_
    rintro e w1 ⟨rfl, rfl⟩
    go_wp2
    go_ret
    rw [← HR.out]
    exact ⟨rfl, h, Ofc.refl _ _ _⟩

theorem Lc.setState {w : World} (h : Lc w p b a) (v : Int) (hI : Inv { a with state := v }) : Lc (w.setCell ⟨p, 4, none⟩ (.int .i64 v)) p b { a with state := v } :=
  ⟨h.blk.set 4 _, h.row.setOther (p := ⟨p, 4, none⟩) h.ne.symm _, h.ne, hI⟩

set_option maxRecDepth 100000 in
theorem begin_calls (w : World) (h : Lc w p b a) (hI : Inv a.begin) : Calls Tryz.prog 124 #[.pointer (some ⟨p, 0, none⟩)] w fun e w' => e = .returned (.tuple #[]) ∧ Lc w' p b a.begin ∧ Ofc p b w w' := by
  have hlen := h.inv.len
  have hr := h.inv.rd
  have hr2 := h.inv.rnd
  have c3 : w.cell? ⟨p, 3, none⟩ = some (.int .i64 a.round) := h.blk.cell rfl
  have f3 : w.frozen? ⟨p, 3, none⟩ = false := h.blk.frozen
  obtain ⟨W1, hW1, X1, R1, O1⟩ : ∃ W1, w.setCell ⟨p, 3, none⟩ (.int .i64 (a.round + 1)) = W1 ∧ Blk W1 p #[.int .i64 a.supply, .int .i64 a.start, .int .i64 a.step, .int .i64 (a.round + 1), .int .i64 a.state, .slice (some ⟨b, 0, none⟩) a.ds.length a.ds.length] 80 ∧ Blk W1 b (dC (roll a.ds 0)) 83 ∧ Ofc p b w W1 :=
    ⟨_, rfl, h.blk.set 3 _, h.row.setOther (p := ⟨p, 3, none⟩) h.ne.symm _, (Ofc.refl p b w).setCell (q := ⟨p, 3, none⟩) (Or.inl rfl) _⟩
  have c5 : W1.cell? ⟨p, 5, none⟩ = some (.slice (some ⟨b, 0, none⟩) a.ds.length a.ds.length) := X1.cell rfl
  have HI : Hid _ := hI
  clear hI
  have hne := h.ne
  clear h
  go_enter Tryz.func124, Tryz.ntmps124
  go_wp2
  go_loopw [16] (fun i wr => ∃ k : Nat, k ≤ a.ds.length ∧ i = .int .i64 k ∧ Blk wr p #[.int .i64 a.supply, .int .i64 a.start, .int .i64 a.step, .int .i64 (a.round + 1), .int .i64 a.state, .slice (some ⟨b, 0, none⟩) a.ds.length a.ds.length] 80 ∧ Blk wr b (dC (roll a.ds k)) 83 ∧ Ofc p b w wr) (fun i _ => a.ds.length - (intOf i).toNat)
  case atStart => exact ⟨0, Nat.zero_le _, rfl, X1, R1, O1⟩
  case round =>
    obtain ⟨k, hk, rfl, Xr, Rr, Oq⟩ := hrel
    by_cases hlt : k < a.ds.length
    · have hd : decide ((k : Int) < a.ds.length) = true := by simp only [decide_eq_true_eq]; omega
      have g5 : wr.cell? ⟨p, 5, none⟩ = some (.slice (some ⟨b, 0, none⟩) a.ds.length a.ds.length) := Xr.cell rfl
      have g1 : wr.cell? ⟨b, k * 2 + 1, none⟩ = some (.int .i64 (nowOf a.ds k)) := Rr.cell (dC_get 1 (by rw [roll_len]; exact hlt) (by
        rw [roll_at _ _ _ hlt, if_neg (by omega)]; rfl))
      have g0 : wr.cell? ⟨b, k * 2, none⟩ = some (.int .i64 (wasOf a.ds k)) := Rr.cell (dC_get 0 (by rw [roll_len]; exact hlt) (by
        rw [roll_at _ _ _ hlt, if_neg (by omega)]; rfl))
      have f0 : wr.frozen? ⟨b, k * 2, none⟩ = false := Rr.frozen
      have R2 := Rr.set (k * 2) (.int .i64 (nowOf a.ds k))
      have e2 := dC_set (l := roll a.ds k) (i := k) (j := 0) (v := .int .i64 (nowOf a.ds k)) (d := ⟨nowOf a.ds k, nowOf a.ds k⟩) (by rw [roll_len]; exact hlt) (by omega) (by
        rw [roll_at _ _ _ hlt, if_neg (by omega)]; rfl)
      rw [Nat.add_zero] at e2
      rw [e2] at R2
      have R3 : Blk _ b (dC (roll a.ds (k + 1))) 83 := R2
      have HR3 : Hid _ := R3
      have X3 := Xr.setOther (p := ⟨b, k * 2, none⟩) hne (.int .i64 (nowOf a.ds k))
      have O3 := Oq.setCell (q := ⟨b, k * 2, none⟩) (Or.inr rfl) (.int .i64 (nowOf a.ds k))
      have HX3 : Hid _ := X3
      have HO3 : Hid _ := O3
      clear R2 e2 R3 X3 O3
      generalize nowOf a.ds k = x at *
      go_wp2
      refine ⟨⟨k + 1, by omega, by norm_cast, HX3.out, HR3.out, HO3.out⟩, ?_⟩
      simp [intOf]; omega
    · have hd : decide ((k : Int) < a.ds.length) = false := by simp only [decide_eq_false_iff_not]; omega
      have hkk : k = a.ds.length := by omega
      have HK : Hid _ := hkk
      clear hkk
      go_wp2
      go_end0
      refine ⟨rfl, ⟨?_, ?_, hne, HI.out⟩, Oq⟩
      · show Blk _ _ #[_, _, _, _, _, .slice _ (roll a.ds a.ds.length).length (roll a.ds a.ds.length).length] _
        rw [roll_len]
        exact Xr
      · show Blk _ _ (dC (roll a.ds a.ds.length)) _
        rw [← HK.out]; exact Rr

set_option maxRecDepth 100000 in
set_option maxHeartbeats 1000000 in
theorem next_calls (w : World) (h : Lc w p b a) (r : Bool × Int × Au) (hr : a.next = r) :
    Calls Tryz.prog 92 #[.pointer (some ⟨p, 0, none⟩)] w fun e w' => e = .returned (.tuple #[.bool r.1, .int .i64 r.2.1]) ∧ Lc w' p b r.2.2 ∧ Ofc p b w w' := by
  have hre := refuse_calls w h
  have HI : Hid (Inv r.2.2) := by show Inv r.2.2; rw [← hr]; exact h.inv.next
  unfold Au.next at hr
  unfold Au.ref at hre
  by_cases h0 : a.state = 0
  · rw [if_pos h0] at hre
    rw [if_neg (fun e => e h0)] at hr
    have hne := bw_some w
    have HD : Hid (∀ y : BW w, _) := fun y : BW w => demand_calls y.w (h.below y.h)
    have HT : Hid _ := fun wx (hx : Lc wx p b a) => atTop_calls wx hx
    have y0 := fun y : BW w => y.cell (show w.cell? ⟨p, 0, none⟩ = some (.int .i64 a.supply) from h.blk.cell rfl)
    have HL : Hid _ := fun wx (hx : Below w.heap.size w wx) => h.below hx
    have hp4 : p < w.heap.size := h.blk.lt
    by_cases h1 : a.want ≤ a.supply
    · rw [if_pos h1] at hr
      have HR : Hid _ := hr
      have d1 : decide (a.want ≤ a.supply) = true := decide_eq_true h1
      clear hr
      generalize a.want = x at *
      go_enter Tryz.func92, Tryz.ntmps92
      go_wp2_with fail
      refine hre.mono ?_
      rintro e w1 ⟨rfl, rfl⟩
      go_wp2_with fail
      refine wp_region_below (by kernel_rfl) (by kernel_rfl) ?_
      repeat (quiet_step (first | (go_at_call 122; exact BW.call _ (HD.out _))))
      refine wpQuiet_nil ?_
      rintro w4 ⟨⟨_, b4⟩, rfl⟩
      have L4 := HL.out w4 b4
      have f4 : w4.frozen? ⟨p, 4, none⟩ = false := L4.blk.frozen
      have c4 : w4.cell? ⟨p, 4, none⟩ = some (.int .i64 a.state) := L4.blk.cell rfl
      have hI := HI.out
      rw [← HR.out] at hI
      have L5 := L4.setState 1 hI
      have O5 : Ofc p b w1 (w4.setCell ⟨p, 4, none⟩ (.int .i64 1)) := (Ofc.of_below b4).setCell (q := ⟨p, 4, none⟩) (Or.inl rfl) _
      generalize hW5 : w4.setCell ⟨p, 4, none⟩ (.int .i64 1) = W5 at *
      have c5 : W5.cell? ⟨p, 4, none⟩ = some (.int .i64 1) := L5.blk.cell rfl
      go_wp2
      go_ret2
      rw [← HR.out]
      exact ⟨rfl, L5, O5⟩
    · rw [if_neg h1] at hr
      have d1 : decide (a.want ≤ a.supply) = false := decide_eq_false h1
      by_cases h2 : 1099511627776 < a.price + a.step
      · rw [if_pos h2] at hr
        have HR : Hid _ := hr
        clear hr
        rw [show decide (1099511627776 < a.price + a.step) = true from decide_eq_true h2] at HT
        generalize a.want = x at *
        go_enter Tryz.func92, Tryz.ntmps92
        go_wp2_with fail
        refine hre.mono ?_
        rintro e w1 ⟨rfl, rfl⟩
        go_wp2_with fail
        refine wp_region_below (by kernel_rfl) (by kernel_rfl) ?_
        repeat (quiet_step (first | (go_at_call 122; exact BW.call _ (HD.out _))))
        refine wpQuiet_nil ?_
        rintro w3 ⟨⟨_, b3⟩, rfl⟩
        have L3 := HL.out w3 b3
        go_wp2_with fail
        refine Calls.mono (HT.out w3 L3) ?_
        rintro e w4 ⟨rfl, b34⟩
        have b4 : Below w1.heap.size w1 w4 := b3.trans (b34.mono b3.size)
        have L4 := HL.out w4 b4
        have f4 : w4.frozen? ⟨p, 4, none⟩ = false := L4.blk.frozen
        have c4 : w4.cell? ⟨p, 4, none⟩ = some (.int .i64 a.state) := L4.blk.cell rfl
        have hI := HI.out
        rw [← HR.out] at hI
        have L5 := L4.setState 2 hI
        have O5 : Ofc p b w1 (w4.setCell ⟨p, 4, none⟩ (.int .i64 2)) := (Ofc.of_below b4).setCell (q := ⟨p, 4, none⟩) (Or.inl rfl) _
        generalize hW5 : w4.setCell ⟨p, 4, none⟩ (.int .i64 2) = W5 at *
        have c5 : W5.cell? ⟨p, 4, none⟩ = some (.int .i64 2) := L5.blk.cell rfl
        go_wp2
        go_ret2
        rw [← HR.out]
        exact ⟨rfl, L5, O5⟩
      · rw [if_neg h2] at hr
        have HR : Hid _ := hr
        clear hr
        rw [show decide (1099511627776 < a.price + a.step) = false from decide_eq_false h2] at HT
        generalize a.want = x at *
        go_enter Tryz.func92, Tryz.ntmps92
        go_wp2_with fail
        refine hre.mono ?_
        rintro e w1 ⟨rfl, rfl⟩
        go_wp2_with fail
        refine wp_region_below (by kernel_rfl) (by kernel_rfl) ?_
        repeat (quiet_step (first | (go_at_call 122; exact BW.call _ (HD.out _))))
        refine wpQuiet_nil ?_
        rintro w3 ⟨⟨_, b3⟩, rfl⟩
        have L3 := HL.out w3 b3
        go_wp2_with fail
        refine Calls.mono (HT.out w3 L3) ?_
        rintro e w4 ⟨rfl, b34⟩
        have b4 : Below w1.heap.size w1 w4 := b3.trans (b34.mono b3.size)
        have L4 := HL.out w4 b4
        have hI := HI.out
        rw [← HR.out] at hI
        go_wp2_with fail
        refine Calls.mono (begin_calls w4 L4 hI) ?_
        rintro e w5 ⟨rfl, L5, O5⟩
        have c5 : w5.cell? ⟨p, 4, none⟩ = some (.int .i64 0) := by rw [← h0]; exact L5.blk.cell rfl
        go_wp2
        go_ret2
        rw [← HR.out]
        exact ⟨rfl, L5, (Ofc.of_below b4).trans O5⟩
  · rw [if_neg h0] at hre
    rw [if_pos h0] at hr
    have HR : Hid _ := hr
    clear hr
    go_enter Tryz.func92, Tryz.ntmps92
    go_wp2_with fail
    refine hre.mono ?_
    rintro e w1 ⟨rfl, rfl⟩
    go_wp2
    go_ret2
    rw [← HR.out]
    exact ⟨rfl, h, Ofc.refl _ _ _⟩
end Go.Proofs.YtpekfpfhonechaaGreat.Clo
