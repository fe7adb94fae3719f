/- The house: whether a good is one of its; the order that a request tells of. -/
import Derived.Test.YtpekfpfhonechaaGreatWa33
import Derived.Deep.DeepCutAuto
import Derived.Deep.CutBlock
import Derived.Deep.RegionHeld3
import Derived.Deep.RegionHeld
namespace Go.Proofs.YtpekfpfhonechaaGreat
open Go.RowKit
set_option linter.unusedSimpArgs false
set_option linter.unusedVariables false
variable {p pl bl g : Nat} {l : Ks} {mV sV : Value} {now : Int}

set_option maxRecDepth 100000 in
theorem has_hs (w : World) {qm cm : Nat} (h : Ha w p pl bl g l (.slice (some ⟨qm, 0, none⟩) g cm) sV now) (z : Int) :
    Calls Tryz.prog 16 #[.pointer (some ⟨p, 0, none⟩), .int .i64 z] w fun e w' => e = .returned (.bool (decide (0 ≤ z ∧ z ≤ (g : Int) - 1))) ∧ w' = w := by
  have c2 : w.cell? ⟨p, 2, none⟩ = some (.slice (some ⟨qm, 0, none⟩) g cm) := h.blk.cell rfl
  have h1 := h.lg.inv.g1
  have h4 := h.lg.inv.g4
  have HW : Hid _ := within_hs z 0 ((g : Int) - 1) w
  clear h
  go_enter Tryz.func16, Tryz.ntmps16
  go_wp2_with fail
  refine Calls.mono HW.out ?_
  rintro e w1 ⟨rfl, rfl⟩
  go_wp2
  go_ret
  exact ⟨by simp, rfl⟩

def zOd : Cal.Od := (0, 0, 0, 0, 0, false)
/-- The order that a request tells of, or why it may not be. -/
def ordR (g : Nat) (who : Int) (o : Oo) : Cal.Od × Int :=
  if ¬ (0 ≤ o.g ∧ o.g ≤ (g : Int) - 1) then (zOd, 1) else if ¬ (0 ≤ o.d ∧ o.d ≤ 1) then (zOd, 1) else if 1048576 < o.i then (zOd, 1) else if ¬ (1 ≤ o.a ∧ o.a ≤ 1048576) then (zOd, 1)
  else if ¬ ((Quo.ticksR o.pr 6).2 = 0) then (zOd, (Quo.ticksR o.pr 6).2)
  else ((16 * o.i + who, who, (Quo.ticksR o.pr 6).1, o.a, 0, o.d == 0), 0)
/-- A request's numbers. -/
def Oo.good (o : Oo) : Prop := (0 ≤ o.g ∧ o.g ≤ 9007199254740992) ∧ (0 ≤ o.a ∧ o.a ≤ 9007199254740992) ∧ (0 ≤ o.d ∧ o.d ≤ 9007199254740992) ∧ (0 ≤ o.i ∧ o.i ≤ 9007199254740992) ∧ o.pr < 18446744073709551616

set_option maxRecDepth 100000 in
set_option maxHeartbeats 2000000 in
theorem orderOf_hs (w : World) {qm cm : Nat} (h : Ha w p pl bl g l (.slice (some ⟨qm, 0, none⟩) g cm) sV now) (who : Int) (hw0 : 0 ≤ who) (hw1 : who ≤ 1000) (o : Oo) (ho : o.good) :
    Calls Tryz.prog 81 #[.pointer (some ⟨p, 0, none⟩), .int .i64 who, o.val] w fun e w' => e = .returned (.tuple #[.agg (Cal.oC (ordR g who o).1).toArray, .int .i64 (ordR g who o).2]) ∧ Below w.heap.size w w' := by
  obtain ⟨⟨g0, g1⟩, ⟨a0, a1⟩, ⟨s0, s1⟩, ⟨i0, i1⟩, hpr⟩ := ho
  obtain ⟨W0, hW0, O0, X0, B0⟩ : ∃ W0, ((w.alloc (.cells #[.int .i64 o.k, .int .i64 o.g, .int .i64 o.a, .int .i64 o.d, .int .i64 o.i, .float .f64 o.pr] 39)).alloc (.cells #[.int .i64 0, .int .i64 0, .int .i64 0, .int .i64 0, .int .i64 0, .bool false] 51)) = W0 ∧ Blk W0 w.heap.size #[.int .i64 o.k, .int .i64 o.g, .int .i64 o.a, .int .i64 o.d, .int .i64 o.i, .float .f64 o.pr] 39 ∧ Blk W0 (w.heap.size + 1) (Cal.oC zOd).toArray 51 ∧ Below w.heap.size w W0 :=
    ⟨_, rfl, (blk_new _ _ _ _ rfl).alloc _, blk_new _ _ _ _ (by simp), by go_grown⟩
  have d1 : W0.cell? ⟨w.heap.size, 1, none⟩ = some (.int .i64 o.g) := O0.cell rfl
  have d2 : W0.cell? ⟨w.heap.size, 2, none⟩ = some (.int .i64 o.a) := O0.cell rfl
  have d3 : W0.cell? ⟨w.heap.size, 3, none⟩ = some (.int .i64 o.d) := O0.cell rfl
  have d4 : W0.cell? ⟨w.heap.size, 4, none⟩ = some (.int .i64 o.i) := O0.cell rfl
  have d5 : W0.cell? ⟨w.heap.size, 5, none⟩ = some (.float .f64 o.pr) := O0.cell rfl
  have HH : Hid _ := has_hs W0 (h.below B0) o.g
  have HD : Hid _ := within_hs o.d 0 1 W0
  have HA : Hid _ := within_hs o.a 1 1048576 W0
  have HT : Hid _ := Quo.ticks_calls o.pr 6 W0 hpr
  have HN : Hid _ := fun wx => numberOf_hs who o.i wx hw0 hw1 i0 i1
  obtain ⟨R, hR⟩ : ∃ R, ordR g who o = R := ⟨_, rfl⟩
  rw [hR]
  unfold ordR at hR
  unfold Oo.val
  have HB0 : Hid _ := B0
  have HX0 : Hid _ := X0
  have HO0 : Hid _ := O0
  clear h B0 O0 X0
  generalize Quo.ticksR o.pr 6 = tk at *
  obtain ⟨tp, te⟩ := tk
  simp only at hR HT
  generalize o.g = og at *
  generalize o.a = oa at *
  generalize o.d = od at *
  generalize o.i = oi at *
  generalize o.pr = opr at *
  generalize o.k = ok at *
  clear o
  have X0 : Blk W0 (w.heap.size + 1) (Cal.oC zOd).toArray 51 := HX0.out
  by_cases h1 : 0 ≤ og ∧ og ≤ (g : Int) - 1
  · rw [if_neg (not_not_intro h1)] at hR
    rw [decide_eq_true h1] at HH
    by_cases h2 : 0 ≤ od ∧ od ≤ 1
    · rw [if_neg (not_not_intro h2)] at hR
      rw [decide_eq_true h2] at HD
      by_cases h3 : 1048576 < oi
      · rw [if_pos h3] at hR
        have hd3 : decide ((1048576 : Int) < oi) = true := decide_eq_true h3
        clear h1 h2 h3
        go_enter Tryz.func81, Tryz.ntmps81
        go_wp2_with fail
        refine Calls.mono HH.out ?_
        rintro e w1 ⟨rfl, hww⟩
        subst w1
        go_wp2_with fail
        refine Calls.mono HD.out ?_
        rintro e w1 ⟨rfl, hww⟩
        subst w1
        obtain ⟨W3, hW3, X3, H3, Z3, O3⟩ := setRow_named X0 (Cal.oC zOd).toArray
        have q0 : W3.cell? ⟨w.heap.size + 1, 0, none⟩ = some (.int .i64 0) := X3.cell rfl
        have q1 : W3.cell? ⟨w.heap.size + 1, 1, none⟩ = some (.int .i64 0) := X3.cell rfl
        have q2 : W3.cell? ⟨w.heap.size + 1, 2, none⟩ = some (.int .i64 0) := X3.cell rfl
        have q3 : W3.cell? ⟨w.heap.size + 1, 3, none⟩ = some (.int .i64 0) := X3.cell rfl
        have q4 : W3.cell? ⟨w.heap.size + 1, 4, none⟩ = some (.int .i64 0) := X3.cell rfl
        have q5 : W3.cell? ⟨w.heap.size + 1, 5, none⟩ = some (.bool false) := X3.cell rfl
        clear H3 Z3 O3 X3
        go_wp2_with ((with_reducible refine st_row (ty := 51) (cs' := (Cal.oC zOd).toArray) X0 (Cal.infoO6 _) (Cal.oCA_same _ _) (Cal.oCA_one _) hW3 ?_ ?_ ?_); rfl; rfl)
        refine bodyPost_ret (v := .tuple #[.agg (Cal.oC zOd).toArray, .int .i64 1]) (by simp [results, Tryz.results81, go_sem, q0, q1, q2, q3, q4, q5]; rfl) rfl ⟨by rw [← hR], ?_⟩
        exact below_row HB0.out hW3 (Nat.le_succ _)
      · rw [if_neg h3] at hR
        have hd3 : decide ((1048576 : Int) < oi) = false := decide_eq_false h3
        by_cases h4 : 1 ≤ oa ∧ oa ≤ 1048576
        · rw [if_neg (not_not_intro h4)] at hR
          rw [decide_eq_true h4] at HA
          by_cases h5 : te = 0
          · rw [if_neg (not_not_intro h5)] at hR
            subst h5
            clear h1 h2 h3 h4
            go_enter Tryz.func81, Tryz.ntmps81
            go_wp2_with fail
            refine Calls.mono HH.out ?_
            rintro e w1 ⟨rfl, hww⟩
            subst w1
            go_wp2_with fail
            refine Calls.mono HD.out ?_
            rintro e w1 ⟨rfl, hww⟩
            subst w1
            go_wp2_with fail
            refine Calls.mono HA.out ?_
            rintro e w1 ⟨rfl, hww⟩
            subst w1
            go_wp2_with fail
            refine Calls.mono HT.out ?_
            rintro e w1 ⟨rfl, hww⟩
            subst w1
            go_upto_region 6 with fail
            refine wp_region_held_drew (S := (fun wx => Blk wx w.heap.size #[.int .i64 ok, .int .i64 og, .int .i64 oa, .int .i64 od, .int .i64 oi, .float .f64 opr] 39 ∧ (∃ cs, cs.size = 6 ∧ Blk wx (w.heap.size + 1) cs 51) ∧ Below w.heap.size w wx)) (by kernel_rfl) ⟨Blk.drew HO0.out, ⟨_, rfl, X0⟩, HB0.out.drew⟩ (fun hS => ?_)
            refine tkH (i := 0) (v := .int .i64 who) rfl (fun w3 hS => by have c2 : w3.cell? ⟨w.heap.size, 2, none⟩ = some (.int .i64 oa) := Blk.cell hS.1 rfl; have c3 : w3.cell? ⟨w.heap.size, 3, none⟩ = some (.int .i64 od) := Blk.cell hS.1 rfl; have c4 : w3.cell? ⟨w.heap.size, 4, none⟩ = some (.int .i64 oi) := Blk.cell hS.1 rfl; go_simp) hS ?_
            refine tkH (i := 1) (v := .pointer (some ⟨w.heap.size, 4, none⟩)) rfl (fun w3 hS => by have c2 : w3.cell? ⟨w.heap.size, 2, none⟩ = some (.int .i64 oa) := Blk.cell hS.1 rfl; have c3 : w3.cell? ⟨w.heap.size, 3, none⟩ = some (.int .i64 od) := Blk.cell hS.1 rfl; have c4 : w3.cell? ⟨w.heap.size, 4, none⟩ = some (.int .i64 oi) := Blk.cell hS.1 rfl; go_simp) hS ?_
            refine tkH (i := 2) (v := .int .i64 oi) rfl (fun w3 hS => by have c2 : w3.cell? ⟨w.heap.size, 2, none⟩ = some (.int .i64 oa) := Blk.cell hS.1 rfl; have c3 : w3.cell? ⟨w.heap.size, 3, none⟩ = some (.int .i64 od) := Blk.cell hS.1 rfl; have c4 : w3.cell? ⟨w.heap.size, 4, none⟩ = some (.int .i64 oi) := Blk.cell hS.1 rfl; go_simp) hS ?_
            refine tkH (i := 4) (v := .int .i64 who) rfl (fun w3 hS => by have c2 : w3.cell? ⟨w.heap.size, 2, none⟩ = some (.int .i64 oa) := Blk.cell hS.1 rfl; have c3 : w3.cell? ⟨w.heap.size, 3, none⟩ = some (.int .i64 od) := Blk.cell hS.1 rfl; have c4 : w3.cell? ⟨w.heap.size, 4, none⟩ = some (.int .i64 oi) := Blk.cell hS.1 rfl; go_simp) hS ?_
            refine tkH (i := 5) (v := .int .i64 tp) rfl (fun w3 hS => by have c2 : w3.cell? ⟨w.heap.size, 2, none⟩ = some (.int .i64 oa) := Blk.cell hS.1 rfl; have c3 : w3.cell? ⟨w.heap.size, 3, none⟩ = some (.int .i64 od) := Blk.cell hS.1 rfl; have c4 : w3.cell? ⟨w.heap.size, 4, none⟩ = some (.int .i64 oi) := Blk.cell hS.1 rfl; go_simp) hS ?_
            refine tkH (i := 6) (v := .pointer (some ⟨w.heap.size, 2, none⟩)) rfl (fun w3 hS => by have c2 : w3.cell? ⟨w.heap.size, 2, none⟩ = some (.int .i64 oa) := Blk.cell hS.1 rfl; have c3 : w3.cell? ⟨w.heap.size, 3, none⟩ = some (.int .i64 od) := Blk.cell hS.1 rfl; have c4 : w3.cell? ⟨w.heap.size, 4, none⟩ = some (.int .i64 oi) := Blk.cell hS.1 rfl; go_simp) hS ?_
            refine tkH (i := 7) (v := .int .i64 oa) rfl (fun w3 hS => by have c2 : w3.cell? ⟨w.heap.size, 2, none⟩ = some (.int .i64 oa) := Blk.cell hS.1 rfl; have c3 : w3.cell? ⟨w.heap.size, 3, none⟩ = some (.int .i64 od) := Blk.cell hS.1 rfl; have c4 : w3.cell? ⟨w.heap.size, 4, none⟩ = some (.int .i64 oi) := Blk.cell hS.1 rfl; go_simp) hS ?_
            refine tkH (i := 8) (v := .pointer (some ⟨w.heap.size, 3, none⟩)) rfl (fun w3 hS => by have c2 : w3.cell? ⟨w.heap.size, 2, none⟩ = some (.int .i64 oa) := Blk.cell hS.1 rfl; have c3 : w3.cell? ⟨w.heap.size, 3, none⟩ = some (.int .i64 od) := Blk.cell hS.1 rfl; have c4 : w3.cell? ⟨w.heap.size, 4, none⟩ = some (.int .i64 oi) := Blk.cell hS.1 rfl; go_simp) hS ?_
            refine tkH (i := 9) (v := .int .i64 od) rfl (fun w3 hS => by have c2 : w3.cell? ⟨w.heap.size, 2, none⟩ = some (.int .i64 oa) := Blk.cell hS.1 rfl; have c3 : w3.cell? ⟨w.heap.size, 3, none⟩ = some (.int .i64 od) := Blk.cell hS.1 rfl; have c4 : w3.cell? ⟨w.heap.size, 4, none⟩ = some (.int .i64 oi) := Blk.cell hS.1 rfl; go_simp) hS ?_
            refine tkH (i := 10) (v := .bool (od == 0)) rfl (fun w3 hS => by have c2 : w3.cell? ⟨w.heap.size, 2, none⟩ = some (.int .i64 oa) := Blk.cell hS.1 rfl; have c3 : w3.cell? ⟨w.heap.size, 3, none⟩ = some (.int .i64 od) := Blk.cell hS.1 rfl; have c4 : w3.cell? ⟨w.heap.size, 4, none⟩ = some (.int .i64 oi) := Blk.cell hS.1 rfl; go_simp) hS ?_
            refine wpAnyH_ready (rs := [3]) (by kernel_rfl) (by simp) ?_
            refine AllReadyH.cons rfl (fun K hK => ?_) AllReadyH.nil
            go_simp
            refine (HN.out _).mono ?_
            rintro e w1 ⟨rfl, hww⟩
            subst w1
            refine hK.out _ _ hS (fun hS => ?_)
            clear hK
            refine tkH (i := 11) (v := .agg (Cal.oC (16 * oi + who, who, tp, oa, 0, od == 0)).toArray) rfl (fun w3 hS => by have c2 : w3.cell? ⟨w.heap.size, 2, none⟩ = some (.int .i64 oa) := Blk.cell hS.1 rfl; have c3 : w3.cell? ⟨w.heap.size, 3, none⟩ = some (.int .i64 od) := Blk.cell hS.1 rfl; have c4 : w3.cell? ⟨w.heap.size, 4, none⟩ = some (.int .i64 oi) := Blk.cell hS.1 rfl; go_simp; first | done | rfl) hS ?_
            obtain ⟨cs0, hcs0, X9⟩ := hS.2.1
            rename World => w9
            refine wpAnyH_ready (rs := [12]) (by kernel_rfl) (by simp) ?_
            refine readyH_rowC 12 rfl (ty := 51) (x := .tmp 6) (y := .tmp 54) rfl rfl rfl (w.heap.size + 1) (Cal.oC (16 * oi + who, who, tp, oa, 0, od == 0)).toArray (by kernel_rfl) (by kernel_rfl) 51 cs0 X9 (Cal.infoO6 _) hcs0 (Cal.oCA_one _) ⟨Blk.setRowOther hS.1 _ (by omega), ⟨_, rfl, Blk.setRow X9 _⟩, below_setRow hS.2.2 _ _ (Nat.le_succ _)⟩ (fun hS => ?_)
            have N9 := Blk.setRow X9 (Cal.oC (16 * oi + who, who, tp, oa, 0, od == 0)).toArray
            refine tkG (i := 13) (v := .int .i64 0) rfl hS ?_
            refine wpAnyH_done (by kernel_rfl) ?_ _
            generalize World.setRow _ _ _ = W9 at *
            have q0 : W9.cell? ⟨w.heap.size + 1, 0, none⟩ = some (.int .i64 (16 * oi + who)) := Blk.cell N9 rfl
            have q1 : W9.cell? ⟨w.heap.size + 1, 1, none⟩ = some (.int .i64 who) := Blk.cell N9 rfl
            have q2 : W9.cell? ⟨w.heap.size + 1, 2, none⟩ = some (.int .i64 tp) := Blk.cell N9 rfl
            have q3 : W9.cell? ⟨w.heap.size + 1, 3, none⟩ = some (.int .i64 oa) := Blk.cell N9 rfl
            have q4 : W9.cell? ⟨w.heap.size + 1, 4, none⟩ = some (.int .i64 0) := Blk.cell N9 rfl
            have q5 : W9.cell? ⟨w.heap.size + 1, 5, none⟩ = some (.bool (od == 0)) := Blk.cell N9 rfl
            go_wp2
            refine bodyPost_ret (v := .tuple #[.agg (Cal.oC (16 * oi + who, who, tp, oa, 0, od == 0)).toArray, .int .i64 0]) (by simp [results, Tryz.results81, go_sem, q0, q1, q2, q3, q4, q5]; rfl) rfl ⟨by rw [← hR], hS.2.2⟩
          · rw [if_pos h5] at hR
            have hd5 : (te == 0) = false := by simpa using h5
            clear h1 h2 h3 h4 h5
            go_enter Tryz.func81, Tryz.ntmps81
            go_wp2_with fail
            refine Calls.mono HH.out ?_
            rintro e w1 ⟨rfl, hww⟩
            subst w1
            go_wp2_with fail
            refine Calls.mono HD.out ?_
            rintro e w1 ⟨rfl, hww⟩
            subst w1
            go_wp2_with fail
            refine Calls.mono HA.out ?_
            rintro e w1 ⟨rfl, hww⟩
            subst w1
            go_wp2_with fail
            refine Calls.mono HT.out ?_
            rintro e w1 ⟨rfl, hww⟩
            subst w1
            obtain ⟨W3, hW3, X3, H3, Z3, O3⟩ := setRow_named X0 (Cal.oC zOd).toArray
            have q0 : W3.cell? ⟨w.heap.size + 1, 0, none⟩ = some (.int .i64 0) := X3.cell rfl
            have q1 : W3.cell? ⟨w.heap.size + 1, 1, none⟩ = some (.int .i64 0) := X3.cell rfl
            have q2 : W3.cell? ⟨w.heap.size + 1, 2, none⟩ = some (.int .i64 0) := X3.cell rfl
            have q3 : W3.cell? ⟨w.heap.size + 1, 3, none⟩ = some (.int .i64 0) := X3.cell rfl
            have q4 : W3.cell? ⟨w.heap.size + 1, 4, none⟩ = some (.int .i64 0) := X3.cell rfl
            have q5 : W3.cell? ⟨w.heap.size + 1, 5, none⟩ = some (.bool false) := X3.cell rfl
            clear H3 Z3 O3 X3
            go_wp2_with ((with_reducible refine st_row (ty := 51) (cs' := (Cal.oC zOd).toArray) X0 (Cal.infoO6 _) (Cal.oCA_same _ _) (Cal.oCA_one _) hW3 ?_ ?_ ?_); rfl; rfl)
            refine bodyPost_ret (v := .tuple #[.agg (Cal.oC zOd).toArray, .int .i64 te]) (by simp [results, Tryz.results81, go_sem, q0, q1, q2, q3, q4, q5]; rfl) rfl ⟨by rw [← hR], ?_⟩
            exact below_row HB0.out hW3 (Nat.le_succ _)
        · rw [if_pos h4] at hR
          rw [decide_eq_false h4] at HA
          clear h1 h2 h3 h4
          go_enter Tryz.func81, Tryz.ntmps81
          go_wp2_with fail
          refine Calls.mono HH.out ?_
          rintro e w1 ⟨rfl, hww⟩
          subst w1
          go_wp2_with fail
          refine Calls.mono HD.out ?_
          rintro e w1 ⟨rfl, hww⟩
          subst w1
          go_wp2_with fail
          refine Calls.mono HA.out ?_
          rintro e w1 ⟨rfl, hww⟩
          subst w1
          obtain ⟨W3, hW3, X3, H3, Z3, O3⟩ := setRow_named X0 (Cal.oC zOd).toArray
          have q0 : W3.cell? ⟨w.heap.size + 1, 0, none⟩ = some (.int .i64 0) := X3.cell rfl
          have q1 : W3.cell? ⟨w.heap.size + 1, 1, none⟩ = some (.int .i64 0) := X3.cell rfl
          have q2 : W3.cell? ⟨w.heap.size + 1, 2, none⟩ = some (.int .i64 0) := X3.cell rfl
          have q3 : W3.cell? ⟨w.heap.size + 1, 3, none⟩ = some (.int .i64 0) := X3.cell rfl
          have q4 : W3.cell? ⟨w.heap.size + 1, 4, none⟩ = some (.int .i64 0) := X3.cell rfl
          have q5 : W3.cell? ⟨w.heap.size + 1, 5, none⟩ = some (.bool false) := X3.cell rfl
          clear H3 Z3 O3 X3
          go_wp2_with ((with_reducible refine st_row (ty := 51) (cs' := (Cal.oC zOd).toArray) X0 (Cal.infoO6 _) (Cal.oCA_same _ _) (Cal.oCA_one _) hW3 ?_ ?_ ?_); rfl; rfl)
          refine bodyPost_ret (v := .tuple #[.agg (Cal.oC zOd).toArray, .int .i64 1]) (by simp [results, Tryz.results81, go_sem, q0, q1, q2, q3, q4, q5]; rfl) rfl ⟨by rw [← hR], ?_⟩
          exact below_row HB0.out hW3 (Nat.le_succ _)
    · rw [if_pos h2] at hR
      rw [decide_eq_false h2] at HD
      clear h1 h2
      go_enter Tryz.func81, Tryz.ntmps81
      go_wp2_with fail
      refine Calls.mono HH.out ?_
      rintro e w1 ⟨rfl, hww⟩
      subst w1
      go_wp2_with fail
      refine Calls.mono HD.out ?_
      rintro e w1 ⟨rfl, hww⟩
      subst w1
      obtain ⟨W3, hW3, X3, H3, Z3, O3⟩ := setRow_named X0 (Cal.oC zOd).toArray
      have q0 : W3.cell? ⟨w.heap.size + 1, 0, none⟩ = some (.int .i64 0) := X3.cell rfl
      have q1 : W3.cell? ⟨w.heap.size + 1, 1, none⟩ = some (.int .i64 0) := X3.cell rfl
      have q2 : W3.cell? ⟨w.heap.size + 1, 2, none⟩ = some (.int .i64 0) := X3.cell rfl
      have q3 : W3.cell? ⟨w.heap.size + 1, 3, none⟩ = some (.int .i64 0) := X3.cell rfl
      have q4 : W3.cell? ⟨w.heap.size + 1, 4, none⟩ = some (.int .i64 0) := X3.cell rfl
      have q5 : W3.cell? ⟨w.heap.size + 1, 5, none⟩ = some (.bool false) := X3.cell rfl
      clear H3 Z3 O3 X3
      go_wp2_with ((with_reducible refine st_row (ty := 51) (cs' := (Cal.oC zOd).toArray) X0 (Cal.infoO6 _) (Cal.oCA_same _ _) (Cal.oCA_one _) hW3 ?_ ?_ ?_); rfl; rfl)
      refine bodyPost_ret (v := .tuple #[.agg (Cal.oC zOd).toArray, .int .i64 1]) (by simp [results, Tryz.results81, go_sem, q0, q1, q2, q3, q4, q5]; rfl) rfl ⟨by rw [← hR], ?_⟩
      exact below_row HB0.out hW3 (Nat.le_succ _)
  · rw [if_pos h1] at hR
    rw [decide_eq_false h1] at HH
    clear h1
    go_enter Tryz.func81, Tryz.ntmps81
    go_wp2_with fail
    refine Calls.mono HH.out ?_
    rintro e w1 ⟨rfl, hww⟩
    subst w1
    obtain ⟨W3, hW3, X3, H3, Z3, O3⟩ := setRow_named X0 (Cal.oC zOd).toArray
    have q0 : W3.cell? ⟨w.heap.size + 1, 0, none⟩ = some (.int .i64 0) := X3.cell rfl
    have q1 : W3.cell? ⟨w.heap.size + 1, 1, none⟩ = some (.int .i64 0) := X3.cell rfl
    have q2 : W3.cell? ⟨w.heap.size + 1, 2, none⟩ = some (.int .i64 0) := X3.cell rfl
    have q3 : W3.cell? ⟨w.heap.size + 1, 3, none⟩ = some (.int .i64 0) := X3.cell rfl
    have q4 : W3.cell? ⟨w.heap.size + 1, 4, none⟩ = some (.int .i64 0) := X3.cell rfl
    have q5 : W3.cell? ⟨w.heap.size + 1, 5, none⟩ = some (.bool false) := X3.cell rfl
    clear H3 Z3 O3 X3
    go_wp2_with ((with_reducible refine st_row (ty := 51) (cs' := (Cal.oC zOd).toArray) X0 (Cal.infoO6 _) (Cal.oCA_same _ _) (Cal.oCA_one _) hW3 ?_ ?_ ?_); rfl; rfl)
    refine bodyPost_ret (v := .tuple #[.agg (Cal.oC zOd).toArray, .int .i64 1]) (by simp [results, Tryz.results81, go_sem, q0, q1, q2, q3, q4, q5]; rfl) rfl ⟨by rw [← hR], ?_⟩
    exact below_row HB0.out hW3 (Nat.le_succ _)
end Go.Proofs.YtpekfpfhonechaaGreat

namespace Go.Proofs.YtpekfpfhonechaaGreat
open Go.RowKit
set_option linter.unusedSimpArgs false
set_option linter.unusedVariables false
variable {p pl bl g : Nat} {l : Ks} {mV sV : Value} {now : Int}

/-- Fills in a row, from some place on. -/
def Fw (w : World) (base : Nat) (v : Value) (l : List Cal.Fi) : Prop :=
  ∃ pp cap, v = .slice pp l.length cap ∧ l.length ≤ cap ∧ (l = [] ∨ ∃ q off cur, pp = some ⟨q, off, none⟩ ∧ base ≤ q ∧ Blk w q cur 163 ∧ ∀ (i : Nat) f, l[i]? = some f → ∀ (j : Nat) u, (Cal.fC f)[j]? = some u → cur[off + i * 3 + j]? = some u)
theorem Fw.chg {D : Nat → Prop} {w w' : World} {base : Nat} {v : Value} {l : List Cal.Fi} (h : Fw w base v l) (c : Chg D w w') (hn : l ≠ [] → ∀ k, v.ownBlock = some k → ¬ D k) : Fw w' base v l := by
  obtain ⟨pp, cap, rfl, hc, hl | ⟨q, off, cur, rfl, hb, X, hf⟩⟩ := h
  · exact ⟨pp, cap, rfl, hc, Or.inl hl⟩
  · by_cases he : l = []
    · exact ⟨_, cap, rfl, hc, Or.inl he⟩
    · exact ⟨_, cap, rfl, hc, Or.inr ⟨q, off, cur, rfl, hb, X.chg c (hn he q rfl), hf⟩⟩
theorem Fw.of_own {w : World} {base : Nat} {v : Value} {l : List Cal.Fi} (h : w.ownsRow base 163 3 v l.length (Cal.fiL l)) : Fw w base v l := by
  obtain ⟨h1, ⟨rfl, h2⟩ | ⟨q, cap, cur, rfl, hb, hh, hc, hm, hs, ht⟩⟩ := h
  · have : l = [] := List.length_eq_zero_iff.1 h2
    subst this
    exact ⟨none, 0, rfl, Nat.le_refl _, Or.inl rfl⟩
  · refine ⟨_, cap, rfl, hc, Or.inr ⟨q, 0, cur, rfl, hb, hh, fun i f hf j u hu => ?_⟩⟩
    have := Cal.fiL_get l i j f u hf hu
    rw [← ht] at this
    have h3 := List.getElem?_eq_some_iff.1 this
    obtain ⟨h4, h5⟩ := h3
    rw [List.getElem_take] at h5
    rw [Nat.zero_add, ← h5]
    simp only [List.length_take] at h4
    have h6 : i * 3 + j < cur.size := by
      have := h4
      simp at this
      omega
    simp [h6]
def lessF (l : List Cal.Fi) (n : Int) : List Cal.Fi :=
  match l with
  | [] => []
  | f :: r => if f.2.2 - n = 0 then r else (f.1, f.2.1, f.2.2 - n) :: r

set_option maxRecDepth 100000 in
set_option maxHeartbeats 1000000 in
theorem less_hs (w : World) {base : Nat} {v : Value} {f : Cal.Fi} {r : List Cal.Fi} (h : Fw w base v (f :: r)) (n : Int) (hr : r.length ≤ 1000000) (h0 : 0 ≤ f.2.2 - n) (h1 : f.2.2 - n ≤ 1099511627776) :
    Calls Tryz.prog 121 #[v, .int .i64 n] w fun e w' => ∃ v', e = .returned v' ∧ Fw w' base v' (lessF (f :: r) n) ∧ Chg (fun k => v.ownBlock = some k) w w' ∧ ∀ k, v'.ownBlock = some k → v.ownBlock = some k := by
  obtain ⟨pp, cap, rfl, hc, hl | ⟨q, off, cur, rfl, hb, X, hf⟩⟩ := h
  · cases hl
  have e2 : cur[off + 2]? = some (.int .i64 f.2.2) := by have := hf 0 f rfl 2 _ rfl; simpa using this
  have d2 : w.cell? ⟨q, off + 2, none⟩ = some (.int .i64 f.2.2) := X.cell e2
  have fr : w.frozen? ⟨q, off + 2, none⟩ = false := X.frozen
  obtain ⟨W1, hW1, X1, C1⟩ : ∃ W1, w.setCell ⟨q, off + 2, none⟩ (.int .i64 (f.2.2 - n)) = W1 ∧ Blk W1 q (cur.setIfInBounds (off + 2) (.int .i64 (f.2.2 - n))) 163 ∧ Chg (fun k => (Value.slice (some ⟨q, off, none⟩) (r.length + 1) cap).ownBlock = some k) w W1 :=
    ⟨_, rfl, X.set _ _, ⟨rfl, rfl, rfl, by simp [World.setCell], fun k hk hn => Below.heap_setCell _ _ _ _ (fun e => hn (by simp [Value.ownBlock]; exact e.symm))⟩⟩
  have hsz : off + 2 < cur.size := (Array.getElem?_eq_some_iff.1 e2).1
  have g2 : (cur.setIfInBounds (off + 2) (.int .i64 (f.2.2 - n)))[off + 2]? = some (.int .i64 (f.2.2 - n)) := by simp [hsz]
  have c2 : W1.cell? ⟨q, off + 2, none⟩ = some (.int .i64 (f.2.2 - n)) := X1.cell g2
  have hother : ∀ j, j ≠ off + 2 → (cur.setIfInBounds (off + 2) (.int .i64 (f.2.2 - n)))[j]? = cur[j]? := fun j hj => by
    rw [Array.getElem?_setIfInBounds, if_neg (fun e => hj e.symm)]
  have HF : Hid _ := hf
  have HO : Hid _ := hother
  have HX1 : Hid _ := X1
  have HC1 : Hid _ := C1
  have HG : Hid _ := g2
  have hcap : r.length + 1 ≤ cap := hc
  have hlen : (f :: r).length = r.length + 1 := rfl
  rw [hlen]
  clear hf hother X1 C1 X e2 g2 hsz hc
  obtain ⟨am, ham⟩ : ∃ am, f.2.2 = am := ⟨_, rfl⟩
  have HAM : Hid _ := ham
  rw [ham] at d2 hW1 c2 h0 h1
  clear ham hlen
  by_cases hz : am - n = 0
  · have hd : (am - n == 0) = true := by simpa using hz
    have HZ : Hid _ := hz
    clear hz
    have hE : lessF (f :: r) n = r := by
      show (if f.2.2 - n = 0 then r else _) = r
      rw [HAM.out, if_pos HZ.out]
    have HN : Hid (∀ (i : Nat) f', r[i]? = some f' → ∀ (j : Nat) u, (Cal.fC f')[j]? = some u → (cur.setIfInBounds (off + 2) (.int .i64 (am - n)))[off + 3 + i * 3 + j]? = some u) := fun i f' hf' j u hu => by
      have h1 := HF.out (i + 1) f' (by simpa using hf') j u hu
      have h2 := HO.out (off + 3 + i * 3 + j) (by omega)
      rw [HAM.out] at h2
      rw [h2]
      have e : off + 3 + i * 3 + j = off + (i + 1) * 3 + j := by omega
      rw [e]; exact h1
    have HX2 : Hid (Blk W1 q (cur.setIfInBounds (off + 2) (.int .i64 (am - n))) 163) := by have := HX1.out; rw [HAM.out] at this; exact this
    rw [hE]
    clear hE HAM HF HO HG HX1
    by_cases hcc : cap = 1
    · have hr0 : r = [] := List.length_eq_zero_iff.1 (by omega)
      have hcc' : (cap : Int) = 1 := by omega
      subst hcc hr0
      go_enter Tryz.func121, Tryz.ntmps121
      go_wp2
      go_ret
      exact ⟨_, rfl, ⟨_, 0, rfl, Nat.le_refl _, Or.inl rfl⟩, HC1.out, fun k hk => hk⟩
    · have hcc' : ¬ (cap : Int) = 1 := by omega
      go_enter Tryz.func121, Tryz.ntmps121
      go_wp2
      go_ret
      exact ⟨_, rfl, ⟨_, cap - 1, rfl, by omega, Or.inr ⟨q, off + 3, _, rfl, hb, HX2.out, HN.out⟩⟩, HC1.out, fun k hk => hk⟩
  · have hd : (am - n == 0) = false := by simpa using hz
    have HZ : Hid _ := hz
    clear hz
    have hE : lessF (f :: r) n = (f.1, f.2.1, am - n) :: r := by
      show (if f.2.2 - n = 0 then r else (f.1, f.2.1, f.2.2 - n) :: r) = _
      rw [HAM.out, if_neg HZ.out]
    have HN : Hid (∀ (i : Nat) f', ((f.1, f.2.1, am - n) :: r : List Cal.Fi)[i]? = some f' → ∀ (j : Nat) u, (Cal.fC f')[j]? = some u → (cur.setIfInBounds (off + 2) (.int .i64 (am - n)))[off + i * 3 + j]? = some u) := fun i f' hf' j u hu => by
      by_cases hj : off + i * 3 + j = off + 2
      · have hjl : j < 3 := by
          have := (List.getElem?_eq_some_iff.1 hu).1
          simpa [Cal.fC] using this
        have hi0 : i = 0 := by omega
        have hj2 : j = 2 := by omega
        subst hi0 hj2
        simp at hf'
        subst hf'
        have hg := HG.out
        rw [HAM.out] at hg
        rw [show off + 0 * 3 + 2 = off + 2 by omega, hg]
        simpa [Cal.fC] using hu
      · have h2 := HO.out (off + i * 3 + j) hj
        rw [HAM.out] at h2
        rw [h2]
        cases i with
        | zero =>
          simp at hf'
          subst hf'
          have h1 := HF.out 0 f rfl j u
          have hjl : j < 3 := by
            have := (List.getElem?_eq_some_iff.1 hu).1
            simpa [Cal.fC] using this
          have : j = 0 ∨ j = 1 := by omega
          rcases this with rfl | rfl
          · exact h1 (by simpa [Cal.fC] using hu)
          · exact h1 (by simpa [Cal.fC] using hu)
        | succ i => exact HF.out (i + 1) f' (by simpa using hf') j u hu
    have HX2 : Hid (Blk W1 q (cur.setIfInBounds (off + 2) (.int .i64 (am - n))) 163) := by have := HX1.out; rw [HAM.out] at this; exact this
    rw [hE]
    clear hE HAM HF HO HG HX1
    go_enter Tryz.func121, Tryz.ntmps121
    go_wp2
    go_ret
    exact ⟨_, rfl, ⟨_, cap, rfl, hcap, Or.inr ⟨q, off, _, rfl, hb, HX2.out, HN.out⟩⟩, HC1.out, fun k hk => hk⟩
end Go.Proofs.YtpekfpfhonechaaGreat
