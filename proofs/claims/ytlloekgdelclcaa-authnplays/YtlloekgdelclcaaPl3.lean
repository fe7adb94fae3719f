/- A signature is checked by both books. -/
import Derived.Test.YtlloekgdelclcaaPl2
namespace Go.Proofs.Ytlloekgdelclcaa
open Go.RowKit
set_option linter.unusedSimpArgs false
set_option linter.unusedVariables false
variable {p b x y base r : Nat} {tv sv : Value} {T T' : List ByteArray} {S S' : List (Int × ByteArray)}

set_option maxHeartbeats 4000000 in
set_option maxRecDepth 100000 in
/-- A signature is checked by both. -/
theorem step_check (kind who : Int) (text sig : ByteArray) (w : World) (h : Both w base p b x y r T S) (hT : T.length < 999999) (hS : S.length < 999999) (ht : text.size ≤ 140737488351232) (hbase : base ≤ w.heap.size) (hq : rnd kind 4 = 2) :
    Calls Try.prog 5 #[.pointer (some ⟨p, 0, none⟩), .pointer (some ⟨r, 0, none⟩), .agg #[.int .i64 kind, .int .i64 who, .string text, .string sig]] w fun e w' => e = .returned (.bool true) ∧ Stepped w base p b x y r T S w' := by
  obtain ⟨W0, hW0⟩ : ∃ W0, w.alloc (.cells #[.int .i64 kind, .int .i64 who, .string text, .string sig] 32) = W0 := ⟨_, rfl⟩
  have B0 : Below w.heap.size w W0 := by rw [← hW0]; exact (Below.refl _ _).alloc (Nat.le_refl _) _
  have X0 : Blk W0 w.heap.size #[.int .i64 kind, .int .i64 who, .string text, .string sig] 32 := by rw [← hW0]; exact blk_new _ _ _ _ rfl
  have h0 := h.below B0
  obtain ⟨tv0, sv0, R0⟩ := h.ref
  have hrl := R0.blk.lt
  have hbx := h.bx
  have hby := h.yb
  clear h R0
  have d0 : W0.cell? ⟨w.heap.size, 0, none⟩ = some (.int .i64 kind) := X0.cell rfl
  have d1 : W0.cell? ⟨w.heap.size, 1, none⟩ = some (.int .i64 who) := X0.cell rfl
  have d2 : W0.cell? ⟨w.heap.size, 2, none⟩ = some (.string text) := X0.cell rfl
  have d3 : W0.cell? ⟨w.heap.size, 3, none⟩ = some (.string sig) := X0.cell rfl
  have hx0 := X0.lt
  obtain ⟨K0, ⟨tv, sv, R⟩, -, -⟩ := id h0
  have HK : Hid _ := K0
  have HR : Hid _ := R
  have HB : Hid _ := h0
  have HR0 : Hid _ := fun k hk => (R.ltS k hk).1
  have hrow : sv.ownBlock ≠ some w.heap.size := row_not R.signed X0 (by decide)
  have HRow : Hid _ := hrow
  have HRd : Hid _ := fun wx => round_calls kind 4 wx (by decide) (by decide)
  rw [hq] at HRd
  clear K0 R hrow X0 h0
  have HZ : Hid _ := B0
  have hz0 := B0.size
  clear B0 hq
  have HAt : Hid _ := fun wx tv sv h => refAt_calls (base := base) (r := r) (tv := tv) (sv := sv) (T := T) (S := S) who text wx h (by omega)
  by_cases hsig : sig = ⟨#[]⟩
  · by_cases hin : (who, text) ∈ S
    · obtain ⟨k, hk1, _, hk3⟩ := atR_in hin
      rw [hk1] at HAt
      have hd : decide (0 ≤ (k : Int)) = true := by simp only [decide_eq_true_eq]; omega
      have H8 : Hid _ := fun wx => refEight_calls (k + 1) wx (by omega)
      have hcat := sgnB_cat (k + 1)
      subst hsig
      clear hk1 hin
      have HCk := fun wx h => bookCheck_calls (p := p) (b := b) (x := x) (y := y) (T := T) (S := S) who text (sgnB (k + 1)) wx h (by omega)
      have HCr : Hid _ := fun wx tv sv h => refCheck_calls (base := base) (r := r) (tv := tv) (sv := sv) (T := T) (S := S) who text (sgnB (k + 1)) wx h (by omega)
      unfold chkB at HCk
      generalize chk S who text (sgnB (k + 1)) = ck at *
      generalize sgnB (k + 1) = sg at *
      by_cases hn : 0 ≤ who ∧ who ≤ 255
      · obtain ⟨g0, g1⟩ := hn
        rw [isSg_true g0 g1] at HCk
        simp only [Bool.true_and] at HCk
        go_enter Try.func5, Try.ntmps5
        go_wp2_with fail
        refine (HRd.out _).mono ?_
        rintro e w1 ⟨rfl, rfl⟩
        go_wp2_with fail
        refine (HAt.out _ _ _ HR.out).mono ?_
        rintro e w2 ⟨rfl, rfl⟩
        go_wp2_with fail
        refine (H8.out _).mono ?_
        rintro e w3 ⟨rfl, b3⟩
        have KK := Book.below HK.out b3
        have RR := RB.below HR.out b3
        have e1 := keepCell b3 d1
        have e2 := keepCell b3 d2
        go_wp2_with fail
        refine (HCk _ KK).mono ?_
        rintro e w5 ⟨rfl, b5⟩
        have f1 := keepCell b5 e1
        have f2 := keepCell b5 e2
        go_wp2_with fail
        refine (HCr.out _ _ _ (RB.below RR b5)).mono ?_
        rintro e w6 ⟨rfl, b6⟩
        go_wp2
        go_ret
        exact ⟨rfl, Stepped.still HB.out HZ.out (b3.trans ((b5.trans (b6.mono b5.size)).mono b3.size)) hbase⟩
      · rw [isSg_false hn] at HCk
        simp only [Bool.false_and] at HCk
        have hcs : (0 ≤ who ∧ ¬ who ≤ 255) ∨ ¬ 0 ≤ who := by omega
        clear hn
        rcases hcs with ⟨g0, g1⟩ | g0
        all_goals
          go_enter Try.func5, Try.ntmps5
          go_wp2_with fail
          refine (HRd.out _).mono ?_
          rintro e w1 ⟨rfl, rfl⟩
          go_wp2_with fail
          refine (HAt.out _ _ _ HR.out).mono ?_
          rintro e w2 ⟨rfl, rfl⟩
          go_wp2_with fail
          refine (H8.out _).mono ?_
          rintro e w3 ⟨rfl, b3⟩
          have KK := Book.below HK.out b3
          have RR := RB.below HR.out b3
          have e1 := keepCell b3 d1
          have e2 := keepCell b3 d2
          go_wp2_with fail
          refine (HCk _ KK).mono ?_
          rintro e w5 ⟨rfl, b5⟩
          go_wp2
          go_ret
          exact ⟨rfl, Stepped.still HB.out HZ.out (b3.trans (b5.mono b3.size)) hbase⟩
    · rw [atR_out hin] at HAt
      subst hsig
      clear hin
      have HCk := fun wx h => bookCheck_calls (p := p) (b := b) (x := x) (y := y) (T := T) (S := S) who text ⟨#[]⟩ wx h (by omega)
      have HCr : Hid _ := fun wx tv sv h => refCheck_calls (base := base) (r := r) (tv := tv) (sv := sv) (T := T) (S := S) who text ⟨#[]⟩ wx h (by omega)
      unfold chkB at HCk
      generalize chk S who text ⟨#[]⟩ = ck at *
      by_cases hn : 0 ≤ who ∧ who ≤ 255
      · obtain ⟨g0, g1⟩ := hn
        rw [isSg_true g0 g1] at HCk
        simp only [Bool.true_and] at HCk
        go_enter Try.func5, Try.ntmps5
        go_wp2_with fail
        refine (HRd.out _).mono ?_
        rintro e w1 ⟨rfl, rfl⟩
        go_wp2_with fail
        refine (HAt.out _ _ _ HR.out).mono ?_
        rintro e w2 ⟨rfl, rfl⟩
        have KK := HK.out
        have RR := HR.out
        have e1 := d1
        have e2 := d2
        go_wp2_with fail
        refine (HCk _ KK).mono ?_
        rintro e w5 ⟨rfl, b5⟩
        have f1 := keepCell b5 e1
        have f2 := keepCell b5 e2
        go_wp2_with fail
        refine (HCr.out _ _ _ (RB.below RR b5)).mono ?_
        rintro e w6 ⟨rfl, b6⟩
        go_wp2
        go_ret
        exact ⟨rfl, Stepped.still HB.out HZ.out ((b5.trans (b6.mono b5.size))) hbase⟩
      · rw [isSg_false hn] at HCk
        simp only [Bool.false_and] at HCk
        have hcs : (0 ≤ who ∧ ¬ who ≤ 255) ∨ ¬ 0 ≤ who := by omega
        clear hn
        rcases hcs with ⟨g0, g1⟩ | g0
        all_goals
          go_enter Try.func5, Try.ntmps5
          go_wp2_with fail
          refine (HRd.out _).mono ?_
          rintro e w1 ⟨rfl, rfl⟩
          go_wp2_with fail
          refine (HAt.out _ _ _ HR.out).mono ?_
          rintro e w2 ⟨rfl, rfl⟩
          have KK := HK.out
          have RR := HR.out
          have e1 := d1
          have e2 := d2
          go_wp2_with fail
          refine (HCk _ KK).mono ?_
          rintro e w5 ⟨rfl, b5⟩
          go_wp2
          go_ret
          exact ⟨rfl, Stepped.still HB.out HZ.out (b5) hbase⟩
  · have hne : (sig.toList == ([] : List UInt8)) = false := by
      have := eqS sig ⟨#[]⟩
      rw [decide_eq_false hsig, show (⟨#[]⟩ : ByteArray).toList = [] by rw [ByteArray.toList_eq]] at this
      exact this
    have hne2 : ¬ sig.toList = [] := by simpa using hne
    clear hsig
    have HCk := fun wx h => bookCheck_calls (p := p) (b := b) (x := x) (y := y) (T := T) (S := S) who text sig wx h (by omega)
    have HCr : Hid _ := fun wx tv sv h => refCheck_calls (base := base) (r := r) (tv := tv) (sv := sv) (T := T) (S := S) who text sig wx h (by omega)
    unfold chkB at HCk
    generalize chk S who text sig = ck at *
    generalize atR S who text = ak at *
    by_cases hn : 0 ≤ who ∧ who ≤ 255
    · obtain ⟨g0, g1⟩ := hn
      rw [isSg_true g0 g1] at HCk
      simp only [Bool.true_and] at HCk
      go_enter Try.func5, Try.ntmps5
      go_wp2_with fail
      refine (HRd.out _).mono ?_
      rintro e w1 ⟨rfl, rfl⟩
      go_wp2_with fail
      refine (HAt.out _ _ _ HR.out).mono ?_
      rintro e w2 ⟨rfl, rfl⟩
      have KK := HK.out
      have RR := HR.out
      have e1 := d1
      have e2 := d2
      go_wp2_with fail
      refine (HCk _ KK).mono ?_
      rintro e w5 ⟨rfl, b5⟩
      have f1 := keepCell b5 e1
      have f2 := keepCell b5 e2
      go_wp2_with fail
      refine (HCr.out _ _ _ (RB.below RR b5)).mono ?_
      rintro e w6 ⟨rfl, b6⟩
      go_wp2
      go_ret
      exact ⟨rfl, Stepped.still HB.out HZ.out ((b5.trans (b6.mono b5.size))) hbase⟩
    · rw [isSg_false hn] at HCk
      simp only [Bool.false_and] at HCk
      have hcs : (0 ≤ who ∧ ¬ who ≤ 255) ∨ ¬ 0 ≤ who := by omega
      clear hn
      rcases hcs with ⟨g0, g1⟩ | g0
      all_goals
        go_enter Try.func5, Try.ntmps5
        go_wp2_with fail
        refine (HRd.out _).mono ?_
        rintro e w1 ⟨rfl, rfl⟩
        go_wp2_with fail
        refine (HAt.out _ _ _ HR.out).mono ?_
        rintro e w2 ⟨rfl, rfl⟩
        have KK := HK.out
        have RR := HR.out
        have e1 := d1
        have e2 := d2
        go_wp2_with fail
        refine (HCk _ KK).mono ?_
        rintro e w5 ⟨rfl, b5⟩
        go_wp2
        go_ret
        exact ⟨rfl, Stepped.still HB.out HZ.out (b5) hbase⟩
end Go.Proofs.Ytlloekgdelclcaa
