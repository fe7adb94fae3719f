/- LedgerPlays for every number of clients, of goods and every script: it answers true. -/
import Derived.Test.YtkgkflgopiabiaaLrL
import Derived.Test.YtkgkflgopiabiaaLrTf
import Derived.Test.YtkgkflgopiabiaaLgE
import Derived.Deep.RegionHeld
import Derived.Deep.DeepCutAuto
import Derived.Deep.CutBlock
namespace Go.Proofs.Ytkgkflgopiabiaa
open Go.RowKit
set_option linter.unusedSimpArgs false
set_option linter.unusedVariables false
variable {g base p b : Nat} {m l : List Kt}

theorem Rm.off {w w' : World} {v : Value} (h : Rm w base v m) (ho : Off b w w') (hb : b < base) : Rm w' base v m := by
  refine World.ownsRow.kept h (row := some b) ⟨ho.os, ho.tape, ho.output, ho.size, fun k hk hj => ho.block k hk (fun e => hj (by rw [e]))⟩ ?_
  obtain ⟨_, ⟨rfl, _⟩ | ⟨q', cap', cur, rfl, hq, _⟩⟩ := h
  · exact Or.inl rfl
  · refine Or.inr ?_
    simp only [Value.ownBlock, ne_eq, Option.some.injEq]
    omega

set_option maxRecDepth 100000 in
set_option maxHeartbeats 1000000 in
theorem newref_bad (c gg : Int) (w : World) (h : ¬ (1 ≤ c ∧ c ≤ 16 ∧ 1 ≤ gg ∧ gg ≤ 4)) : Calls Try.prog 8 #[.int .i64 c, .int .i64 gg] w fun e w' => (∃ z sp n cap, e = .returned (.tuple #[.agg #[.int .i64 z, .slice sp n cap], .bool false])) ∧ Below w.heap.size w w' := by
  have HH : Hid _ := h
  clear h
  obtain ⟨W1, hW1, X1, Y1, B1⟩ : ∃ W1, ((w.alloc (.cells #[.int .i64 0, .slice none 0 0] 29)).alloc (.cells #[.int .i64 0, .slice none 0 0] 29)) = W1 ∧ Blk W1 w.heap.size (rlA 0 (.slice none 0 0)) 29 ∧ Blk W1 (w.heap.size + 1) (rlA 0 (.slice none 0 0)) 29 ∧ Below w.heap.size w W1 :=
    ⟨_, rfl, (blk_new _ _ _ _ rfl).alloc _, blk_new _ _ _ _ (by simp), by go_grown⟩
  obtain ⟨W9, hW9, Y9, B9⟩ : ∃ W9, W1.setRow w.heap.size (rlA 0 (.slice none 0 0)) = W9 ∧ Blk W9 w.heap.size (rlA 0 (.slice none 0 0)) 29 ∧ Below w.heap.size w W9 := ⟨_, rfl, Blk.setRow X1 _, below_setRow B1 _ _ (Nat.le_refl _)⟩
  have c0 : W1.cell? ⟨w.heap.size + 1, 0, none⟩ = some (.int .i64 0) := Y1.cell rfl
  have c1 : W1.cell? ⟨w.heap.size + 1, 1, none⟩ = some (.slice none 0 0) := Y1.cell rfl
  have s0 : W9.cell? ⟨w.heap.size, 0, none⟩ = some (.int .i64 0) := Y9.cell rfl
  have s1 : W9.cell? ⟨w.heap.size, 1, none⟩ = some (.slice none 0 0) := Y9.cell rfl
  cases d1 : decide (c < 1)
  · cases d2 : decide (16 < c)
    · cases d3 : decide (gg < 1)
      · cases d4 : decide (4 < gg)
        · simp at d1 d2 d3 d4
          exact absurd ⟨by omega, by omega, by omega, by omega⟩ HH.out
        · go_enter Try.func8, Try.ntmps8
          go_wp2_with ((with_reducible refine st_row (ty := 29) (cs' := rlA 0 (.slice none 0 0)) X1 (rlA_info _ _) (rlA_same _ _ _ _) (rlA_one _ _ _ _) hW9 ?_ ?_ ?_); rfl; rfl)
          try simp only [Exit.inBlock, Exit.then]
          refine bodyPost_ret (by simp [results, Try.results8, go_sem, s0, s1]; rfl) rfl ?_
          exact ⟨⟨_, _, _, _, rfl⟩, B9⟩
      · go_enter Try.func8, Try.ntmps8
        go_wp2_with ((with_reducible refine st_row (ty := 29) (cs' := rlA 0 (.slice none 0 0)) X1 (rlA_info _ _) (rlA_same _ _ _ _) (rlA_one _ _ _ _) hW9 ?_ ?_ ?_); rfl; rfl)
        try simp only [Exit.inBlock, Exit.then]
        refine bodyPost_ret (by simp [results, Try.results8, go_sem, s0, s1]; rfl) rfl ?_
        exact ⟨⟨_, _, _, _, rfl⟩, B9⟩
    · go_enter Try.func8, Try.ntmps8
      go_wp2_with ((with_reducible refine st_row (ty := 29) (cs' := rlA 0 (.slice none 0 0)) X1 (rlA_info _ _) (rlA_same _ _ _ _) (rlA_one _ _ _ _) hW9 ?_ ?_ ?_); rfl; rfl)
      try simp only [Exit.inBlock, Exit.then]
      refine bodyPost_ret (by simp [results, Try.results8, go_sem, s0, s1]; rfl) rfl ?_
      exact ⟨⟨_, _, _, _, rfl⟩, B9⟩
  · go_enter Try.func8, Try.ntmps8
    go_wp2_with ((with_reducible refine st_row (ty := 29) (cs' := rlA 0 (.slice none 0 0)) X1 (rlA_info _ _) (rlA_same _ _ _ _) (rlA_one _ _ _ _) hW9 ?_ ?_ ?_); rfl; rfl)
    try simp only [Exit.inBlock, Exit.then]
    refine bodyPost_ret (by simp [results, Try.results8, go_sem, s0, s1]; rfl) rfl ?_
    exact ⟨⟨_, _, _, _, rfl⟩, B9⟩

set_option maxRecDepth 100000 in
set_option maxHeartbeats 4000000 in
theorem plays_calls (c gg : Int) (v : Value) (ls : List Ac) (w : World) (hl : Acs w v ls) (hz : ls.length * 56 ≤ 140737488351232) :
    Calls Try.prog 3 #[.int .i64 c, .int .i64 gg, v] w fun e w' => e = .returned (.bool true) ∧ Below w.heap.size w w' := by
  have HA : Hid _ := awake_calls
  obtain ⟨as_, caps, rfl, hc⟩ := hl.any
  have HC : Hid _ := hc
  clear hc hl
  by_cases hin : 1 ≤ c ∧ c ≤ 16 ∧ 1 ≤ gg ∧ gg ≤ 4
  · obtain ⟨h1, h2, h3, h4⟩ := hin
    have HN : Hid _ := new_ok c gg w h1 h2 h3 h4
    have HR : Hid (∀ wx, _) := fun wx => newref_ok c gg wx h1 h2 h3 h4
    obtain ⟨g, rfl⟩ := Int.eq_ofNat_of_zero_le (show 0 ≤ gg by omega)
    rw [Int.toNat_natCast] at HN
    clear h1 h2 h3 h4
    go_enter Try.func3, Try.ntmps3
    go_wp2_with fail
    refine Calls.mono HN.out ?_
    rintro e w1 ⟨p, b, rfl, L1, b1, hp, hb⟩
    clear HN
    have hb1 : b < w1.heap.size := L1.row.lt
    have hp1 : p < w1.heap.size := L1.blk.lt
    go_wp2_with fail
    refine (HR.out w1).mono ?_
    rintro e w2 ⟨q, cap, rfl, R2, b2⟩
    clear HR
    obtain ⟨W3, hW3, X3, B3⟩ : ∃ W3, (w2.alloc (.cells #[.int .i64 g, .slice (some ⟨q, 0, none⟩) c.toNat cap] 29)) = W3 ∧ Blk W3 w2.heap.size (rlA g (.slice (some ⟨q, 0, none⟩) c.toNat cap)) 29 ∧ Below w2.heap.size w2 W3 := ⟨_, rfl, blk_new _ _ _ _ rfl, by go_grown⟩
    have L3 := (L1.below b2).below B3
    have R3 := R2.below B3
    have S3 := Sim.zero c.toNat
    obtain ⟨mm, hmm, hsl⟩ : ∃ mm, List.replicate c.toNat Kt.zero = mm ∧ c.toNat = mm.length := ⟨_, rfl, by simp⟩
    rw [hmm] at L3 R3 S3
    rw [hsl] at X3 R3
    have z1 := b1.size
    have z2 := b2.size
    have z3 := B3.size
    have BB : Below w.heap.size w W3 := (b1.trans (b2.mono z1)).trans (B3.mono (by omega))
    have HS : Hid (∃ (q cap : Nat) (m l : List Kt), Lg W3 p b g l ∧ Rm W3 w1.heap.size (.slice (some ⟨q, 0, none⟩) m.length cap) m ∧ Sim m l ∧ Blk W3 w2.heap.size (rlA g (.slice (some ⟨q, 0, none⟩) m.length cap)) 29) := ⟨q, cap, _, _, L3, R3, S3, X3⟩
    clear hsl hmm L3 R3 S3 X3 L1 R2 b1 b2 B3
    go_wp2_with fail
    go_loopw [11] (fun i wr => ∃ k : Nat, k ≤ ls.length ∧ k ≤ 100 ∧ i = .int .i64 k ∧ (∃ (q cap : Nat) (m l : List Kt), Lg wr p b g l ∧ Rm wr w1.heap.size (.slice (some ⟨q, 0, none⟩) m.length cap) m ∧ Sim m l ∧ Blk wr w2.heap.size (rlA g (.slice (some ⟨q, 0, none⟩) m.length cap)) 29) ∧ Below w.heap.size w wr) (fun i _ => ls.length - (intOf i).toNat)
    case atStart => exact ⟨0, Nat.zero_le _, by omega, rfl, HS.out, BB⟩
    case round =>
      clear HS hW3 BB z3
      obtain ⟨k, hk, hk1, rfl, ⟨q, cap, m, l, Lr, Rr, Sr, Xr⟩, br⟩ := hrel
      have hxl : w2.heap.size < wr.heap.size := Xr.lt
      by_cases hgo : k < ls.length ∧ k < 100
      · obtain ⟨hlt, hlt1⟩ := hgo
        have hd1 : decide ((k : Int) < ls.length) = true := by simp only [decide_eq_true_eq]; omega
        have hd2 : decide ((k : Int) < 100) = true := by simp only [decide_eq_true_eq]; omega
        obtain ⟨qs, off, hga, _, hg, hcel, hfit⟩ := HC.out k hlt
        subst hga
        have hqs : qs < wr.heap.size := Nat.lt_of_lt_of_le hg br.size
        have FA0 : Hid (∀ wx, Below wr.heap.size wr wx → wx.cell? ⟨qs, off + k * 6, none⟩ = some (.int .i64 ls[k].kind)) := fun wx hx => keepCell hx (keepCell br (hcel 0 _ rfl) hg) hqs
        have FA1 : Hid (∀ wx, Below wr.heap.size wr wx → wx.cell? ⟨qs, off + k * 6 + 1, none⟩ = some (.int .i64 ls[k].who)) := fun wx hx => keepCell hx (keepCell br (hcel 1 _ rfl) hg) hqs
        have FA2 : Hid (∀ wx, Below wr.heap.size wr wx → wx.cell? ⟨qs, off + k * 6 + 2, none⟩ = some (.int .i64 ls[k].dst)) := fun wx hx => keepCell hx (keepCell br (hcel 2 _ rfl) hg) hqs
        have FA3 : Hid (∀ wx, Below wr.heap.size wr wx → wx.cell? ⟨qs, off + k * 6 + 3, none⟩ = some (.int .i64 ls[k].good)) := fun wx hx => keepCell hx (keepCell br (hcel 3 _ rfl) hg) hqs
        have FA4 : Hid (∀ wx, Below wr.heap.size wr wx → wx.cell? ⟨qs, off + k * 6 + 4, none⟩ = some (.int .i64 ls[k].n)) := fun wx hx => keepCell hx (keepCell br (hcel 4 _ rfl) hg) hqs
        have FA5 : Hid (∀ wx, Below wr.heap.size wr wx → wx.cell? ⟨qs, off + k * 6 + 5, none⟩ = some (.string ls[k].text)) := fun wx hx => keepCell hx (keepCell br (hcel 5 _ rfl) hg) hqs
        have FY0 : Hid (∀ wx, Below wr.heap.size wr wx → wx.cell? ⟨w2.heap.size, 0, none⟩ = some (.int .i64 g)) := fun wx hx => keepCell hx (Xr.cell rfl) hxl
        have FY1 : Hid (∀ wx, Below wr.heap.size wr wx → wx.cell? ⟨w2.heap.size, 1, none⟩ = some (.slice (some ⟨q, 0, none⟩) m.length cap)) := fun wx hx => keepCell hx (Xr.cell rfl) hxl
        have HTo : Hid (∀ wx, Below wr.heap.size wr wx → Calls Try.prog 10 #[.agg #[.int .i64 g, .slice (some ⟨q, 0, none⟩) m.length cap], ls[k].val] wx (Told (act g l ls[k]) g w1.heap.size wx)) := fun wx hx => told_ref wx _ ls[k] (Rr.below hx) Sr Lr.inv (by have := hx.size; omega)
        have HD : Hid (∀ wx, Below wr.heap.size wr wx → Calls Try.prog 11 #[.pointer (some ⟨p, 0, none⟩), ls[k].val] wx fun e w' => e = .returned (.int .i64 (act g l ls[k]).1) ∧ Lg w' p b g (act g l ls[k]).2 ∧ Off b wx w') := fun wx hx => done_calls wx (Lr.below hx) ls[k] (Nat.le_trans hfit (by omega)) _ rfl
        generalize act g l ls[k] = r at *
        generalize ls[k] = ac at *
        unfold Ac.val at HTo HD
        have HLr : Hid _ := Lr
        have HXr : Hid _ := Xr
        have HBr : Hid _ := br
        have HRr : Hid _ := Rr
        have hkl : (k : Int) < ls.length := by omega
        clear hcel hfit Lr Xr br Rr Sr
        go_upto_region 10 with fail
        go_cut [12, 13] (fun a12 a13 wx => ∃ (nb q2 cap2 : Nat) (m2 : List Kt), a12 = .pointer (some ⟨nb, 0, none⟩) ∧ a13 = .int .i64 r.1 ∧ Blk wx nb (rlA g (.slice (some ⟨q2, 0, none⟩) m2.length cap2)) 29 ∧ Rm wx w1.heap.size (.slice (some ⟨q2, 0, none⟩) m2.length cap2) m2 ∧ Sim m2 r.2 ∧ Below wr.heap.size wr wx ∧ wr.heap.size ≤ nb)
        case first =>
          refine wp_region_held_drew (S := (fun wx => Below wr.heap.size wr wx)) (by kernel_rfl) ((Below.refl _ _).drew) (fun hS => ?_)
          refine wpAnyH_take (i := 0) (v := .agg #[.int .i64 g, .slice (some ⟨q, 0, none⟩) m.length cap]) rfl (by kernel_rfl) (by kernel_rfl) (by kernel_rfl) (fun _ _ _ h => h) (Or.inl ⟨by rfl, fun w3 hS => by have c0 := FY0.out w3 hS; have c1 := FY1.out w3 hS; go_simp⟩) hS ?_
          refine wpAnyH_take (i := 1) (v := .slice (some ⟨qs, off, none⟩) ls.length caps) rfl (by kernel_rfl) (by kernel_rfl) (by kernel_rfl) (fun _ _ _ h => h) (Or.inl ⟨by rfl, fun w3 hS => by go_simp⟩) hS ?_
          refine wpAnyH_take (i := 2) (v := .int .i64 k) rfl (by kernel_rfl) (by kernel_rfl) (by kernel_rfl) (fun _ _ _ h => h) (Or.inl ⟨by rfl, fun w3 hS => by go_simp⟩) hS ?_
          refine wpAnyH_take (i := 3) (v := .pointer (some ⟨qs, off + k * 6, none⟩)) rfl (by kernel_rfl) (by kernel_rfl) (by kernel_rfl) (fun _ _ _ h => h) (Or.inl ⟨by rfl, fun w3 hS => by go_simp⟩) hS ?_
          refine wpAnyH_take (i := 4) (v := .agg #[.int .i64 ac.kind, .int .i64 ac.who, .int .i64 ac.dst, .int .i64 ac.good, .int .i64 ac.n, .string ac.text]) rfl (by kernel_rfl) (by kernel_rfl) (by kernel_rfl) (fun _ _ _ h => h) (Or.inl ⟨by rfl, fun w3 hS => by have d0 := FA0.out w3 hS; have d1 := FA1.out w3 hS; have d2 := FA2.out w3 hS; have d3 := FA3.out w3 hS; have d4 := FA4.out w3 hS; have d5 := FA5.out w3 hS; go_simp⟩) hS ?_
          refine wpAnyH_ready (rs := [5, 9]) (by kernel_rfl) (by simp) ?_
          refine AllReadyH.cons rfl (fun K hK => ?_) (AllReadyH.cons rfl (fun K hK => ?_) AllReadyH.nil)
          · go_simp
            refine (HTo.out _ hS).mono ?_
            rintro e w2 ⟨q2, cap2, m2, rfl, R2, S2, b2⟩
            have zr : wr.heap.size ≤ w2.heap.size := b2.size
            refine hK.out _ _ (hS.trans (b2.mono hS.size)) (fun hS => ?_)
            clear hK
            refine wpAnyH_take (i := 6) (v := .tuple #[.agg #[.int .i64 g, .slice (some ⟨q2, 0, none⟩) m2.length cap2], .int .i64 r.1]) rfl (by kernel_rfl) (by kernel_rfl) (by kernel_rfl) (fun _ _ _ h => h) (Or.inl ⟨by rfl, fun w3 hS => by go_simp⟩) hS ?_
            refine wpAnyH_take (i := 7) (v := .agg #[.int .i64 g, .slice (some ⟨q2, 0, none⟩) m2.length cap2]) rfl (by kernel_rfl) (by kernel_rfl) (by kernel_rfl) (fun _ _ _ h => h) (Or.inl ⟨by rfl, fun w3 hS => by go_simp⟩) hS ?_
            refine wpAnyH_take (i := 8) (v := .int .i64 r.1) rfl (by kernel_rfl) (by kernel_rfl) (by kernel_rfl) (fun _ _ _ h => h) (Or.inl ⟨by rfl, fun w3 hS => by go_simp⟩) hS ?_
            refine wpAnyH_ready (rs := [9]) (by kernel_rfl) (by simp) ?_
            refine AllReadyH.cons rfl (fun K hK => ?_) AllReadyH.nil
            go_simp
            refine hK.out _ _ (hS.alloc zr _) (fun hS => ?_)
            clear hK
            have hnb : wr.heap.size ≤ w2.heap.size := zr
            have YY := blk_new w2 w2.heap.size (rlA 0 (.slice none 0 0)) 29 rfl
            refine wpAnyH_ready (rs := [10]) (by kernel_rfl) (by simp) ?_
            refine AllReadyH.cons rfl (fun K hK => ?_) AllReadyH.nil
            refine step_ifR rfl ?_
            refine wp_store_row 29 (.tmp 12) _ rfl w2.heap.size (rlA g (.slice (some ⟨q2, 0, none⟩) m2.length cap2)) rfl rfl 29 _ YY (rlA_info _ _) rfl (rlA_one _ _ _ _) ?_
            refine hK.out _ _ (below_setRow hS _ _ hnb) (fun hS => ?_)
            clear hK
            refine wpAnyH_take (i := 11) (v := .int .i64 r.1) rfl (by kernel_rfl) (by kernel_rfl) (by kernel_rfl) (fun _ _ _ h => h) (Or.inl ⟨by rfl, fun w3 hS => by go_simp⟩) hS ?_
            refine wpAnyH_done (by kernel_rfl) ?_ _
            go_wp2_with fail
            go_meet
            exact ⟨w2.heap.size, q2, cap2, m2, rfl, rfl, Blk.setRow YY _, Rm.row (R2.below ((Below.refl _ _).alloc (Nat.le_refl _) _)) YY _, S2, hS, hnb⟩
          · go_simp
            refine hK.out _ _ (hS.alloc hS.size _) (fun hS => ?_)
            clear hK
            refine wpAnyH_ready (rs := [5]) (by kernel_rfl) (by simp) ?_
            refine AllReadyH.cons rfl (fun K hK => ?_) AllReadyH.nil
            go_simp
            refine (HTo.out _ hS).mono ?_
            rintro e w2 ⟨q2, cap2, m2, rfl, R2, S2, b2⟩
            refine hK.out _ _ (hS.trans (b2.mono hS.size)) (fun hS => ?_)
            clear hK
            refine wpAnyH_take (i := 6) (v := .tuple #[.agg #[.int .i64 g, .slice (some ⟨q2, 0, none⟩) m2.length cap2], .int .i64 r.1]) rfl (by kernel_rfl) (by kernel_rfl) (by kernel_rfl) (fun _ _ _ h => h) (Or.inl ⟨by rfl, fun w3 hS => by go_simp⟩) hS ?_
            refine wpAnyH_take (i := 7) (v := .agg #[.int .i64 g, .slice (some ⟨q2, 0, none⟩) m2.length cap2]) rfl (by kernel_rfl) (by kernel_rfl) (by kernel_rfl) (fun _ _ _ h => h) (Or.inl ⟨by rfl, fun w3 hS => by go_simp⟩) hS ?_
            refine wpAnyH_take (i := 8) (v := .int .i64 r.1) rfl (by kernel_rfl) (by kernel_rfl) (by kernel_rfl) (fun _ _ _ h => h) (Or.inl ⟨by rfl, fun w3 hS => by go_simp⟩) hS ?_
            have hnb : wr.heap.size ≤ wr.heap.size := Nat.le_refl _
            have YY : Blk w2 wr.heap.size (rlA 0 (.slice none 0 0)) 29 := Blk.below (show Blk (wr.alloc (.cells #[.int .i64 0, .slice none 0 0] 29)).drew wr.heap.size (rlA 0 (.slice none 0 0)) 29 from (blk_new wr wr.heap.size (rlA 0 (.slice none 0 0)) 29 rfl).drew) b2
            refine wpAnyH_ready (rs := [10]) (by kernel_rfl) (by simp) ?_
            refine AllReadyH.cons rfl (fun K hK => ?_) AllReadyH.nil
            refine step_ifR rfl ?_
            refine wp_store_row 29 (.tmp 12) _ rfl wr.heap.size (rlA g (.slice (some ⟨q2, 0, none⟩) m2.length cap2)) rfl rfl 29 _ YY (rlA_info _ _) rfl (rlA_one _ _ _ _) ?_
            refine hK.out _ _ (below_setRow hS _ _ hnb) (fun hS => ?_)
            clear hK
            refine wpAnyH_take (i := 11) (v := .int .i64 r.1) rfl (by kernel_rfl) (by kernel_rfl) (by kernel_rfl) (fun _ _ _ h => h) (Or.inl ⟨by rfl, fun w3 hS => by go_simp⟩) hS ?_
            refine wpAnyH_done (by kernel_rfl) ?_ _
            go_wp2_with fail
            go_meet
            exact ⟨wr.heap.size, q2, cap2, m2, rfl, rfl, Blk.setRow YY _, Rm.row R2 YY _, S2, hS, hnb⟩
        case rest =>
          obtain ⟨nb, q2, cap2, m2, rfl, rfl, N3, R3, S3, b3, hnb⟩ := hcut
          rename World => w3
          have d0 := FA0.out w3 b3
          have d1 := FA1.out w3 b3
          have d2 := FA2.out w3 b3
          have d3 := FA3.out w3 b3
          have d4 := FA4.out w3 b3
          have d5 := FA5.out w3 b3
          have z3 := b3.size
          have X3 : Blk w3 w2.heap.size (rlA g (.slice (some ⟨q, 0, none⟩) m.length cap)) 29 := Blk.below HXr.out b3
          have B3 : Below w.heap.size w w3 := HBr.out.trans (b3.mono HBr.out.size)
          have HDD : Hid _ := HD.out w3 b3
          have HS3 : Hid _ := S3
          clear HD HTo S3 FA0 FA1 FA2 FA3 FA4 FA5 FY0 FY1
          go_wp2_with fail
          refine Calls.mono HDD.out ?_
          rintro e w4 ⟨rfl, L4, o4⟩
          clear d0 d1 d2 d3 d4 d5 HDD
          have N4 := N3.off o4 (by omega)
          have X4 := X3.off o4 (by omega)
          have R4 := R3.off o4 hb1
          have B4 : Below w.heap.size w w4 := o4.below hb B3 B3.size
          have z4 := o4.size
          have n0 : w4.cell? ⟨nb, 0, none⟩ = some (.int .i64 g) := N4.cell rfl
          have n1 : w4.cell? ⟨nb, 1, none⟩ = some (.slice (some ⟨q2, 0, none⟩) m2.length cap2) := N4.cell rfl
          obtain ⟨W5, hW5, X5, L5, R5, B5, Z5⟩ : ∃ W5, w4.setRow w2.heap.size (rlA g (.slice (some ⟨q2, 0, none⟩) m2.length cap2)) = W5 ∧ Blk W5 w2.heap.size (rlA g (.slice (some ⟨q2, 0, none⟩) m2.length cap2)) 29 ∧ Lg W5 p b g r.2 ∧ Rm W5 w1.heap.size (.slice (some ⟨q2, 0, none⟩) m2.length cap2) m2 ∧ Below w.heap.size w W5 ∧ W5.heap.size = w4.heap.size := ⟨_, rfl, Blk.setRow X4 _, ⟨L4.blk.setRowOther _ (by omega), L4.row.setRowOther _ (by omega), L4.ne, L4.inv⟩, Rm.row R4 X4 _, below_setRow B4 _ _ (by omega), by simp⟩
          have x0 : W5.cell? ⟨w2.heap.size, 0, none⟩ = some (.int .i64 g) := X5.cell rfl
          have x1 : W5.cell? ⟨w2.heap.size, 1, none⟩ = some (.slice (some ⟨q2, 0, none⟩) m2.length cap2) := X5.cell rfl
          have HLk : Hid _ := like_ref W5 _ L5 R5 HS3.out
          have HX5 : Hid _ := X5
          have HX4 : Hid _ := X4
          clear X3 N3 R3 L4 R4 N4 X5
          go_wp2_with ((with_reducible refine st_row (ty := 29) (cs' := rlA g (.slice (some ⟨q2, 0, none⟩) m2.length cap2)) X4 (rlA_info _ _) (rlA_same _ _ _ _) (rlA_one _ _ _ _) hW5 ?_ ?_ ?_); rfl; rfl)
          refine Calls.mono HLk.out ?_
          rintro e w6 ⟨rfl, b6⟩
          go_wp2_with fail
          refine ⟨⟨k + 1, by omega, by omega, by norm_cast, ⟨q2, cap2, m2, r.2, L5.below b6, R5.below b6, HS3.out, Blk.below HX5.out b6⟩, B5.trans (b6.mono B5.size)⟩, ?_⟩
          simp [intOf]; omega
      · have hzr := br.size
        by_cases h1 : k < ls.length
        · have hd1 : decide ((k : Int) < ls.length) = true := by simp only [decide_eq_true_eq]; omega
          have hd2 : decide ((k : Int) < 100) = false := by simp only [decide_eq_false_iff_not]; omega
          go_wp2_with fail
          refine (HA.out _).mono ?_
          rintro e w8 ⟨rfl, b8⟩
          go_wp2
          go_ret
          exact ⟨rfl, br.trans (b8.mono hzr)⟩
        · have hd1 : decide ((k : Int) < ls.length) = false := by simp only [decide_eq_false_iff_not]; omega
          go_wp2_with fail
          refine (HA.out _).mono ?_
          rintro e w8 ⟨rfl, b8⟩
          go_wp2
          go_ret
          exact ⟨rfl, br.trans (b8.mono hzr)⟩
  · have HN : Hid _ := new_bad c gg w hin
    have HR : Hid _ := newref_bad c gg w hin
    clear hin
    go_enter Try.func3, Try.ntmps3
    go_wp2_with fail
    refine Calls.mono HN.out ?_
    rintro e w1 ⟨rfl, rfl⟩
    go_wp2_with fail
    refine Calls.mono HR.out ?_
    rintro e w2 ⟨⟨z, sp, n, cap, rfl⟩, b2⟩
    obtain ⟨W3, hW3, B3⟩ : ∃ W3, (w2.alloc (.cells #[.int .i64 z, .slice sp n cap] 29)) = W3 ∧ Below w2.heap.size w2 W3 := ⟨_, rfl, by go_grown⟩
    go_wp2_with fail
    refine (HA.out _).mono ?_
    rintro e w8 ⟨rfl, b8⟩
    go_wp2
    go_ret
    exact ⟨rfl, (b2.trans (B3.mono b2.size)).trans (b8.mono (Nat.le_trans b2.size B3.size))⟩
end Go.Proofs.Ytkgkflgopiabiaa
