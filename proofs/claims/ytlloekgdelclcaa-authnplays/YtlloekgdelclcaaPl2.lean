/- Signed, checked and asked by both books. -/
import Derived.Test.YtlloekgdelclcaaPl
namespace Go.Proofs.Ytlloekgdelclcaa
open Go.RowKit
set_option linter.unusedSimpArgs false
set_option linter.unusedVariables false
variable {p b x y base r : Nat} {tv sv : Value} {T T' : List ByteArray} {S S' : List (Int × ByteArray)}

theorem Stepped.still {w w1 w' : World} (h : Both w1 base p b x y r T S) (hb : Below w.heap.size w w1) (k : Below w1.heap.size w1 w') (hbase : base ≤ w.heap.size) : Stepped w base p b x y r T S w' :=
  ⟨⟨T, S, h.below k, Nat.le_succ _, Nat.le_succ _⟩, (hb.trans (k.mono hb.size)).mono hbase⟩
theorem isSg_true {who : Int} (h0 : 0 ≤ who) (h1 : who ≤ 255) : isSg who = true := by unfold isSg; exact decide_eq_true ⟨h0, h1⟩
theorem isSg_false {who : Int} (h : ¬ (0 ≤ who ∧ who ≤ 255)) : isSg who = false := by unfold isSg; exact decide_eq_false h

set_option maxHeartbeats 4000000 in
set_option maxRecDepth 100000 in
/-- A text is signed by both. -/
theorem step_sign (kind who : Int) (text sig : ByteArray) (w : World) (h : Both w base p b x y r T S) (hT : T.length < 999999) (hS : S.length < 999999) (ht : text.size ≤ 140737488351232) (hbase : base ≤ w.heap.size) (hq : rnd kind 4 = 1) :
    Calls Try.prog 5 #[.pointer (some ⟨p, 0, none⟩), .pointer (some ⟨r, 0, none⟩), .agg #[.int .i64 kind, .int .i64 who, .string text, .string sig]] w fun e w' => e = .returned (.bool true) ∧ Stepped w base p b x y r T S w' := by
  obtain ⟨W0, hW0⟩ : ∃ W0, w.alloc (.cells #[.int .i64 kind, .int .i64 who, .string text, .string sig] 32) = W0 := ⟨_, rfl⟩
  have B0 : Below w.heap.size w W0 := by rw [← hW0]; exact (Below.refl _ _).alloc (Nat.le_refl _) _
  have X0 : Blk W0 w.heap.size #[.int .i64 kind, .int .i64 who, .string text, .string sig] 32 := by rw [← hW0]; exact blk_new _ _ _ _ rfl
  have h0 := h.below B0
  obtain ⟨tv0, sv0, R0⟩ := h.ref
  have hrl := R0.blk.lt
  have hbx := h.bx
  have hby := h.yb
  clear h R0
  have d0 : W0.cell? ⟨w.heap.size, 0, none⟩ = some (.int .i64 kind) := X0.cell rfl
  have d1 : W0.cell? ⟨w.heap.size, 1, none⟩ = some (.int .i64 who) := X0.cell rfl
  have d2 : W0.cell? ⟨w.heap.size, 2, none⟩ = some (.string text) := X0.cell rfl
  have d3 : W0.cell? ⟨w.heap.size, 3, none⟩ = some (.string sig) := X0.cell rfl
  have hx0 := X0.lt
  obtain ⟨K0, ⟨tv, sv, R⟩, -, -⟩ := id h0
  have HK : Hid _ := K0
  have HR : Hid _ := R
  have HB : Hid _ := h0
  have HR0 : Hid _ := fun k hk => (R.ltS k hk).1
  have hrow : sv.ownBlock ≠ some w.heap.size := row_not R.signed X0 (by decide)
  have HRow : Hid _ := hrow
  have HRd : Hid _ := fun wx => round_calls kind 4 wx (by decide) (by decide)
  rw [hq] at HRd
  clear K0 R hrow X0 h0
  have HZ : Hid _ := B0
  have hz0 := B0.size
  clear B0 hq
  by_cases hn : 0 ≤ who ∧ who ≤ 255
  · obtain ⟨g0, g1⟩ := hn
    have hsg := isSg_true g0 g1
    have hSi := fun wx h => bookSign_calls (p := p) (b := b) (x := x) (y := y) (T := T) (S := S) who text wx h (by omega) ht
    unfold signR signS at hSi
    rw [if_pos hsg, if_pos hsg] at hSi
    have HSi : Hid _ := hSi
    have hsl := note_len S (who, text)
    clear hSi hsg
    go_enter Try.func5, Try.ntmps5
    go_wp2_with fail
    refine (HRd.out _).mono ?_
    rintro e w1 ⟨rfl, rfl⟩
    go_wp2_with fail
    refine (HSi.out _ HK.out).mono ?_
    rintro e w2 ⟨rfl, K2, o2⟩
    have e1 := keepCell2 HK.out o2 d1
    have e2 := keepCell2 HK.out o2 d2
    have R2 := RB.off2 HR.out HK.out o2
    have z2 := o2.size
    have HRs : Hid _ := refSign_calls who text w2 R2 (by omega) ht (Nat.le_trans hbase (Nat.le_trans hz0 z2))
    have HK2 : Hid _ := K2
    have HR2 : Hid _ := R2
    have HO2 : Hid _ := o2
    clear K2 R2 o2
    generalize sgnB (num (note S (who, text)) (who, text)) = d at *
    go_wp2_with fail
    refine (Calls.mono HRs.out) ?_
    rintro e w3 ⟨rfl, sv', R3, o3⟩
    have K3 : Book w3 p b x y T (note S (who, text)) := Book.off3 HK2.out o3 (RB.notIn HR2.out HK2.out) (RB.rowS HR2.out HK2.out)
    have bB1 : Below base w w1 := (HZ.out : Below w.heap.size w w1).mono hbase
    have bB2 : Below base w w2 := Off2.below HO2.out hbx hby bB1 (Nat.le_trans hbase hz0)
    have bB3 : Below base w w3 := o3.belowB (RB.rb HR2.out) (fun k hk => HR0.out k hk) bB2 (Nat.le_trans hbase (Nat.le_trans hz0 z2))
    have HST : Hid _ := (show Stepped w base p b x y r T S w3 from ⟨⟨_, _, ⟨K3, ⟨_, _, R3⟩, hbx, hby⟩, Nat.le_succ _, hsl⟩, bB3⟩)
    clear K3 R3 o3 bB1 bB2 bB3
    go_wp2
    go_ret
    exact ⟨rfl, HST.out⟩
  · have hsg := isSg_false hn
    have hSi := fun wx h => bookSign_calls (p := p) (b := b) (x := x) (y := y) (T := T) (S := S) who text wx h (by omega) ht
    unfold signR signS at hSi
    rw [hsg] at hSi
    simp only [Bool.false_eq_true, if_false] at hSi
    have HSi : Hid _ := hSi
    clear hSi hsg
    have hcs : (0 ≤ who ∧ ¬ who ≤ 255) ∨ ¬ 0 ≤ who := by omega
    clear hn
    rcases hcs with ⟨g0, g1⟩ | g0
    all_goals
      go_enter Try.func5, Try.ntmps5
      go_wp2_with fail
      refine (HRd.out _).mono ?_
      rintro e w1 ⟨rfl, rfl⟩
      go_wp2_with fail
      refine (HSi.out _ HK.out).mono ?_
      rintro e w2 ⟨rfl, K2, o2⟩
      have R2 := RB.off2 HR.out HK.out o2
      have bB1 : Below base w w1 := (HZ.out : Below w.heap.size w w1).mono hbase
      have bB2 : Below base w w2 := Off2.below o2 hbx hby bB1 (Nat.le_trans hbase hz0)
      have HST : Hid _ := (show Stepped w base p b x y r T S w2 from ⟨⟨_, _, ⟨K2, ⟨_, _, R2⟩, hbx, hby⟩, Nat.le_succ _, Nat.le_succ _⟩, bB2⟩)
      clear K2 R2 o2 bB1 bB2
      go_wp2
      go_ret
      exact ⟨rfl, HST.out⟩

set_option maxHeartbeats 4000000 in
set_option maxRecDepth 100000 in
/-- Both are asked whether a text was signed. -/
theorem step_issued (kind who : Int) (text sig : ByteArray) (w : World) (h : Both w base p b x y r T S) (hT : T.length < 999999) (hS : S.length < 999999) (ht : text.size ≤ 140737488351232) (hbase : base ≤ w.heap.size) (hq : rnd kind 4 = 3) :
    Calls Try.prog 5 #[.pointer (some ⟨p, 0, none⟩), .pointer (some ⟨r, 0, none⟩), .agg #[.int .i64 kind, .int .i64 who, .string text, .string sig]] w fun e w' => e = .returned (.bool true) ∧ Stepped w base p b x y r T S w' := by
  obtain ⟨W0, hW0⟩ : ∃ W0, w.alloc (.cells #[.int .i64 kind, .int .i64 who, .string text, .string sig] 32) = W0 := ⟨_, rfl⟩
  have B0 : Below w.heap.size w W0 := by rw [← hW0]; exact (Below.refl _ _).alloc (Nat.le_refl _) _
  have X0 : Blk W0 w.heap.size #[.int .i64 kind, .int .i64 who, .string text, .string sig] 32 := by rw [← hW0]; exact blk_new _ _ _ _ rfl
  have h0 := h.below B0
  obtain ⟨tv0, sv0, R0⟩ := h.ref
  have hrl := R0.blk.lt
  have hbx := h.bx
  have hby := h.yb
  clear h R0
  have d0 : W0.cell? ⟨w.heap.size, 0, none⟩ = some (.int .i64 kind) := X0.cell rfl
  have d1 : W0.cell? ⟨w.heap.size, 1, none⟩ = some (.int .i64 who) := X0.cell rfl
  have d2 : W0.cell? ⟨w.heap.size, 2, none⟩ = some (.string text) := X0.cell rfl
  have d3 : W0.cell? ⟨w.heap.size, 3, none⟩ = some (.string sig) := X0.cell rfl
  have hx0 := X0.lt
  obtain ⟨K0, ⟨tv, sv, R⟩, -, -⟩ := id h0
  have HK : Hid _ := K0
  have HR : Hid _ := R
  have HB : Hid _ := h0
  have HR0 : Hid _ := fun k hk => (R.ltS k hk).1
  have hrow : sv.ownBlock ≠ some w.heap.size := row_not R.signed X0 (by decide)
  have HRow : Hid _ := hrow
  have HRd : Hid _ := fun wx => round_calls kind 4 wx (by decide) (by decide)
  rw [hq] at HRd
  clear K0 R hrow X0 h0
  have HZ : Hid _ := B0
  have hz0 := B0.size
  clear B0 hq
  have HIs : Hid _ := fun wx h => bookIssued_calls (p := p) (b := b) (x := x) (y := y) (T := T) (S := S) who text wx h
  unfold issB at HIs
  have HAt : Hid _ := fun wx tv sv h => refAt_calls (base := base) (r := r) (tv := tv) (sv := sv) (T := T) (S := S) who text wx h (by omega)
  by_cases hn : 0 ≤ who ∧ who ≤ 255
  · obtain ⟨g0, g1⟩ := hn
    rw [isSg_true g0 g1] at HIs
    by_cases hin : (who, text) ∈ S
    · obtain ⟨k, hk1, _, _⟩ := atR_in hin
      rw [hk1] at HAt
      rw [(isIn_iff _ _).2 hin] at HIs
      have hd : decide (0 ≤ (k : Int)) = true := by simp only [decide_eq_true_eq]; omega
      clear hk1 hin
      go_enter Try.func5, Try.ntmps5
      go_wp2_with fail
      refine (HRd.out _).mono ?_
      rintro e w1 ⟨rfl, rfl⟩
      go_wp2_with fail
      refine (HIs.out _ HK.out).mono ?_
      rintro e w2 ⟨rfl, b2⟩
      have e1 := keepCell b2 d1
      have e2 := keepCell b2 d2
      go_wp2_with fail
      refine (HAt.out _ _ _ (RB.below HR.out b2)).mono ?_
      rintro e w3 ⟨rfl, rfl⟩
      go_wp2
      go_ret
      exact ⟨rfl, Stepped.still HB.out HZ.out b2 hbase⟩
    · rw [atR_out hin] at HAt
      rw [(isIn_false _ _).2 hin] at HIs
      clear hin
      go_enter Try.func5, Try.ntmps5
      go_wp2_with fail
      refine (HRd.out _).mono ?_
      rintro e w1 ⟨rfl, rfl⟩
      go_wp2_with fail
      refine (HIs.out _ HK.out).mono ?_
      rintro e w2 ⟨rfl, b2⟩
      have e1 := keepCell b2 d1
      have e2 := keepCell b2 d2
      go_wp2_with fail
      refine (HAt.out _ _ _ (RB.below HR.out b2)).mono ?_
      rintro e w3 ⟨rfl, rfl⟩
      go_wp2
      go_ret
      exact ⟨rfl, Stepped.still HB.out HZ.out b2 hbase⟩
  · rw [isSg_false hn] at HIs
    simp only [Bool.false_and] at HIs
    have hcs : (0 ≤ who ∧ ¬ who ≤ 255) ∨ ¬ 0 ≤ who := by omega
    clear hn
    rcases hcs with ⟨g0, g1⟩ | g0
    all_goals
      go_enter Try.func5, Try.ntmps5
      go_wp2_with fail
      refine (HRd.out _).mono ?_
      rintro e w1 ⟨rfl, rfl⟩
      go_wp2_with fail
      refine (HIs.out _ HK.out).mono ?_
      rintro e w2 ⟨rfl, b2⟩
      have e1 := keepCell b2 d1
      have e2 := keepCell b2 d2
      go_wp2
      go_ret
      exact ⟨rfl, Stepped.still HB.out HZ.out b2 hbase⟩
end Go.Proofs.Ytlloekgdelclcaa
