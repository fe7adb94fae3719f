/- Of's three questions: may the round be, the demands, the state? -/
import Derived.Test.YtgbcbjfaplogaaaCkU
namespace Go.Proofs.Ytgbcbjfaplogaaa
open Go.RowKit
set_option linter.unusedSimpArgs false
set_option linter.unusedVariables false

/-- An auction in memory, whatever its numbers. -/
structure Lm (w : World) (p b : Nat) (a : Au) : Prop where
  blk : Blk w p #[.int .i64 a.supply, .int .i64 a.start, .int .i64 a.step, .int .i64 a.round, .int .i64 a.state, .slice (some ⟨b, 0, none⟩) a.ds.length a.ds.length] 47
  row : Blk w b (dC a.ds) 49
  ne : p ≠ b
variable {p b : Nat} {a : Au}
theorem Lm.below {w w' : World} (h : Lm w p b a) (hb : Below w.heap.size w w') : Lm w' p b a := ⟨h.blk.below hb, h.row.below hb, h.ne⟩
theorem Lm.was {w : World} (h : Lm w p b a) {i : Nat} (hi : i < a.ds.length) : w.cell? ⟨b, i * 2, none⟩ = some (.int .i64 (wasOf a.ds i)) := h.row.cell (dC_get 0 hi rfl)
theorem Lm.now {w : World} (h : Lm w p b a) {i : Nat} (hi : i < a.ds.length) : w.cell? ⟨b, i * 2 + 1, none⟩ = some (.int .i64 (nowOf a.ds i)) := h.row.cell (dC_get 1 hi rfl)
/-- But for its state it can be. -/
abbrev Inv0 (a : Au) : Prop := Inv { a with state := 0 }

set_option maxRecDepth 100000 in
theorem made_m (w : World) (h : Lm w p b a) (hp : 1 ≤ a.ds.length) : Calls Try.prog 20 #[.pointer (some ⟨p, 0, none⟩)] w fun e w' => e = .returned (.bool true) ∧ w' = w := by
  have c0 : w.cell? ⟨p, 5, none⟩ = some (.slice (some ⟨b, 0, none⟩) a.ds.length a.ds.length) := h.blk.cell rfl
  have hd : decide (0 < (a.ds.length : Int)) = true := decide_eq_true (by omega)
  go_enter Try.func20, Try.ntmps20
  go_wp2
  go_ret
  exact ⟨by simp; omega, rfl⟩
set_option maxRecDepth 100000 in
theorem price_m (w : World) (h : Lm w p b a) (H : Inv0 a) : Calls Try.prog 30 #[.pointer (some ⟨p, 0, none⟩)] w fun e w' => e = .returned (.int .i64 a.price) ∧ Below w.heap.size w w' := by
  have hma := made_m w h H.len.1
  have c1 : w.cell? ⟨p, 1, none⟩ = some (.int .i64 a.start) := h.blk.cell rfl
  have c2 : w.cell? ⟨p, 2, none⟩ = some (.int .i64 a.step) := h.blk.cell rfl
  have c3 : w.cell? ⟨p, 3, none⟩ = some (.int .i64 a.round) := h.blk.cell rfl
  have hm : 0 ≤ (a.round - 1) * a.step ∧ (a.round - 1) * a.step ≤ 1099511627776 := H.mul
  have hs : 0 ≤ a.start ∧ a.start ≤ 1099511627776 := H.st
  have hr : 1 ≤ a.round := H.rd
  have hr2 : a.round ≤ 1099511627777 := H.rnd
  unfold Au.price
  go_enter Try.func30, Try.ntmps30
  go_wp2_with fail
  refine hma.mono ?_
  rintro e w1 ⟨rfl, rfl⟩
  go_wp2
  go_quiet (fail)
  go_wp2
  go_ret
  exact ⟨rfl, drewN_below _ _ _⟩
set_option maxRecDepth 100000 in
theorem atTop_m (w : World) (h : Lm w p b a) (H : Inv0 a) : Calls Try.prog 26 #[.pointer (some ⟨p, 0, none⟩)] w fun e w' => e = .returned (.bool (decide (1099511627776 < a.price + a.step))) ∧ Below w.heap.size w w' := by
  have HP : Hid (∀ y : BW w, _) := fun y : BW w => price_m y.w (h.below y.h) H
  have hne := bw_some w
  have y2 := fun y : BW w => y.cell (show w.cell? ⟨p, 2, none⟩ = some (.int .i64 a.step) from h.blk.cell rfl)
  have hp : 0 ≤ a.price ∧ a.price ≤ 1099511627776 := H.price0
  have hs : 1 ≤ a.step ∧ a.step ≤ 1099511627776 := H.sp
  generalize a.price = pr at *
  have hwr : IntKind.i64.wrap (pr + a.step) = pr + a.step := by rw [IntKind.wrap_i64]; omega
  go_enter Try.func26, Try.ntmps26
  go_wp2_with fail
  refine wp_region_below (by kernel_rfl) (by kernel_rfl) ?_
  repeat (quiet_step (first | (go_at_call 30; exact BW.call _ (HP.out _))))
  refine wpQuiet_nil ?_
  rintro w4 ⟨⟨_, b4⟩, rfl⟩
  go_wp2
  go_ret
  exact ⟨rfl, b4⟩
set_option maxRecDepth 100000 in
theorem demand_m (w : World) (h : Lm w p b a) (H : Inv0 a) : Calls Try.prog 25 #[.pointer (some ⟨p, 0, none⟩)] w fun e w' => e = .returned (.int .i64 a.want) ∧ Below w.heap.size w w' := by
  have hlen : 1 ≤ a.ds.length ∧ a.ds.length ≤ 16 := H.len
  have hma := made_m w h hlen.1
  have c5 : w.cell? ⟨p, 5, none⟩ = some (.slice (some ⟨b, 0, none⟩) a.ds.length a.ds.length) := h.blk.cell rfl
  have HW : Hid (∀ k, k ≤ a.ds.length → 0 ≤ sumTo (nowOf a.ds) k ∧ sumTo (nowOf a.ds) k ≤ 16777216) := fun k hk => H.wants hk
  have HD : Hid (∀ i, i < a.ds.length → 0 ≤ wasOf a.ds i ∧ wasOf a.ds i ≤ 1048576 ∧ 0 ≤ nowOf a.ds i ∧ nowOf a.ds i ≤ 1048576) := H.dm
  go_enter Try.func25, Try.ntmps25
  go_wp2_with fail
  refine hma.mono ?_
  rintro e w1 ⟨rfl, rfl⟩
  clear hma
  go_wp2
  go_loopw [3, 14] (fun c i wr => ∃ k : Nat, k ≤ a.ds.length ∧ i = .int .i64 k ∧ c = .int .i64 (sumTo (nowOf a.ds) k) ∧ Below w1.heap.size w1 wr) (fun _ i _ => a.ds.length - (intOf i).toNat)
  case atStart => exact ⟨0, Nat.zero_le _, rfl, rfl, Below.refl _ _⟩
  case round =>
    obtain ⟨k, hk, rfl, rfl, hb⟩ := hrel
    by_cases hlt : k < a.ds.length
    · have hd : decide ((k : Int) < a.ds.length) = true := by simp only [decide_eq_true_eq]; omega
      have hLr := h.below hb
      have n0 := hLr.was hlt
      have n1 := hLr.now hlt
      have t0 := HW.out k hk
      have t1 := HD.out k hlt
      have HT : Hid (sumTo (nowOf a.ds) (k + 1) = sumTo (nowOf a.ds) k + nowOf a.ds k) := rfl
      generalize sumTo (nowOf a.ds) k = s at *
      generalize nowOf a.ds k = x at *
      generalize wasOf a.ds k = y at *
      obtain ⟨W1, hW1, X1, B1⟩ : ∃ W1, (wr.alloc (.cells #[.int .i64 y, .int .i64 x] 49)) = W1 ∧ Blk W1 wr.heap.size #[.int .i64 y, .int .i64 x] 49 ∧ Below wr.heap.size wr W1 := ⟨_, rfl, blk_new _ _ _ _ rfl, by go_grown⟩
      have e0 : W1.cell? ⟨wr.heap.size, 1, none⟩ = some (.int .i64 x) := X1.cell rfl
      go_wp2
      refine ⟨⟨k + 1, by omega, by norm_cast, by rw [HT.out], hb.trans (B1.mono hb.size)⟩, ?_⟩
      simp [intOf]; omega
    · have hd : decide ((k : Int) < a.ds.length) = false := by simp only [decide_eq_false_iff_not]; omega
      have hkk : k = a.ds.length := by omega
      have HK : Hid (sumTo (nowOf a.ds) k = a.want) := by show _ = _; rw [hkk]; rfl
      clear hkk
      generalize sumTo (nowOf a.ds) k = s at *
      go_wp2
      go_ret
      exact ⟨by rw [← HK.out]; rfl, hb⟩

/-- The rounds that there can be. -/
def RMay (a : Au) : Prop := 1 ≤ a.round ∧ a.round ≤ 1 + (1099511627776 - a.start).tdiv a.step
theorem rMay_iff (h1 : 0 ≤ a.start ∧ a.start ≤ 1099511627776) (h2 : 1 ≤ a.step) : RMay a ↔ (1 ≤ a.round ∧ a.price ≤ 1099511627776) := by
  unfold RMay Au.price
  rw [Int.tdiv_eq_ediv_of_nonneg (by omega)]
  have := Int.le_ediv_iff_mul_le (show 0 < a.step by omega) (a := a.round - 1) (b := 1099511627776 - a.start)
  constructor
  · rintro ⟨q1, q2⟩
    have := this.1 (by omega)
    exact ⟨q1, by omega⟩
  · rintro ⟨q1, q2⟩
    have := this.2 (by omega)
    exact ⟨q1, by omega⟩
theorem decide_eq_iff_bool {q : Prop} [Decidable q] {t : Bool} (h : q ↔ t = true) : decide q = t := by
  cases t
  · exact decide_eq_false fun e => by have := h.1 e; cases this
  · exact decide_eq_true (h.2 rfl)
set_option maxRecDepth 100000 in
theorem roundMayBe_calls (w : World) (h : Lm w p b a) (h1 : 0 ≤ a.start ∧ a.start ≤ 1099511627776) (h2 : 1 ≤ a.step) (t : Bool) (ht : RMay a ↔ t = true) :
    Calls Try.prog 17 #[.pointer (some ⟨p, 0, none⟩)] w fun e w' => e = .returned (.bool t) ∧ Below w.heap.size w w' := by
  have y1 := fun y : BW w => y.cell (show w.cell? ⟨p, 1, none⟩ = some (.int .i64 a.start) from h.blk.cell rfl)
  have y2 := fun y : BW w => y.cell (show w.cell? ⟨p, 2, none⟩ = some (.int .i64 a.step) from h.blk.cell rfl)
  have y3 := fun y : BW w => y.cell (show w.cell? ⟨p, 3, none⟩ = some (.int .i64 a.round) from h.blk.cell rfl)
  have hne := bw_some w
  have hb := tdiv_between (1099511627776 - a.start) a.step h2
  unfold RMay at ht
  have w1 : IntKind.i64.wrap (1099511627776 - a.start) = 1099511627776 - a.start := by rw [IntKind.wrap_i64]; omega
  generalize hX : 1099511627776 - a.start = X at *
  have w2 : IntKind.i64.wrap (X.tdiv a.step) = X.tdiv a.step := by rw [IntKind.wrap_i64]; omega
  have w3 : IntKind.i64.wrap (1 + X.tdiv a.step) = 1 + X.tdiv a.step := by rw [IntKind.wrap_i64]; omega
  have hz : (a.step == 0) = false := by simp; omega
  have HI : Hid (∀ y : BW w, Calls Try.prog 29 #[.int .i64 a.round, .int .i64 1, .int .i64 (1 + X.tdiv a.step)] y.w fun e w' => e = .returned (.bool t) ∧ Below y.w.heap.size y.w w') := fun y => by
    have := Calls.belowOf (inn_calls a.round 1 (1 + X.tdiv a.step) y.w)
    rw [show decide (1 ≤ a.round ∧ a.round ≤ 1 + X.tdiv a.step) = t by rw [decide_eq_iff_bool ht]] at this
    exact this
  clear hb ht
  have hz2 : ¬ a.step = 0 := by omega
  go_enter Try.func17, Try.ntmps17
  go_wp2_with fail
  refine wp_region_below (by kernel_rfl) (by kernel_rfl) ?_
  repeat (quiet_step (first | (go_at_call 29; exact BW.call _ (HI.out _))))
  refine wpQuiet_nil ?_
  rintro w4 ⟨⟨_, b4⟩, rfl⟩
  go_wp2
  go_ret
  exact ⟨rfl, b4⟩

/-- The demands that there can be. -/
def DMay (a : Au) : Prop := (∀ i, i < a.ds.length → wasOf a.ds i ≤ 1048576 ∧ nowOf a.ds i ≤ 1048576 ∧ (1 < a.round → nowOf a.ds i ≤ wasOf a.ds i)) ∧ (a.round = 1 → a.ahead = 0) ∧ (a.round ≠ 1 → a.supply < a.ahead)
set_option maxRecDepth 100000 in
set_option maxHeartbeats 1000000 in
theorem demandsMayBe_calls (w : World) (h : Lm w p b a) (hl : a.ds.length ≤ 16) (h0 : ∀ i, i < a.ds.length → 0 ≤ wasOf a.ds i) (t : Bool) (ht : DMay a ↔ t = true) :
    Calls Try.prog 18 #[.pointer (some ⟨p, 0, none⟩)] w fun e w' => e = .returned (.bool t) ∧ Below w.heap.size w w' := by
  have c5 : w.cell? ⟨p, 5, none⟩ = some (.slice (some ⟨b, 0, none⟩) a.ds.length a.ds.length) := h.blk.cell rfl
  have HT : Hid _ := ht
  have H0 : Hid _ := h0
  have HF : Hid (¬ DMay a → t = false) := fun hn => by
    cases t
    · rfl
    · exact absurd (ht.2 rfl) hn
  clear ht h0
  go_enter Try.func18, Try.ntmps18
  go_wp2
  go_loopw [3, 11] (fun c i wr => ∃ k : Nat, k ≤ a.ds.length ∧ i = .int .i64 k ∧ c = .int .i64 (sumTo (wasOf a.ds) k) ∧ Hid (∀ i, i < k → wasOf a.ds i ≤ 1048576 ∧ nowOf a.ds i ≤ 1048576 ∧ (1 < a.round → nowOf a.ds i ≤ wasOf a.ds i)) ∧ Below w.heap.size w wr) (fun _ i _ => a.ds.length - (intOf i).toNat)
  case atStart => exact ⟨0, Nat.zero_le _, rfl, rfl, fun i hi => absurd hi (Nat.not_lt_zero _), Below.refl _ _⟩
  case round =>
    obtain ⟨k, hk, rfl, rfl, hal, br⟩ := hrel
    have Lr := h.below br
    have c3 : wr.cell? ⟨p, 3, none⟩ = some (.int .i64 a.round) := Lr.blk.cell rfl
    have c0 : wr.cell? ⟨p, 0, none⟩ = some (.int .i64 a.supply) := Lr.blk.cell rfl
    have hs0 : 0 ≤ sumTo (wasOf a.ds) k := sumTo_nonneg fun i hi => H0.out i (by omega)
    have hs1 : sumTo (wasOf a.ds) k ≤ 16777216 := by
      have := sumTo_le (f := wasOf a.ds) (m := 1048576) (k := k) fun i hi => (hal.out i hi).1
      omega
    by_cases hlt : k < a.ds.length
    · have hd : decide ((k : Int) < a.ds.length) = true := by simp only [decide_eq_true_eq]; omega
      have n0 := Lr.was hlt
      have n1 := Lr.now hlt
      have HS : Hid (sumTo (wasOf a.ds) (k + 1) = sumTo (wasOf a.ds) k + wasOf a.ds k) := rfl
      have hw0 := H0.out k hlt
      have HBad : Hid (¬ (wasOf a.ds k ≤ 1048576 ∧ nowOf a.ds k ≤ 1048576 ∧ (1 < a.round → nowOf a.ds k ≤ wasOf a.ds k)) → t = false) := fun hn => HF.out fun hd => hn (hd.1 k hlt)
      have HOk : Hid ((wasOf a.ds k ≤ 1048576 ∧ nowOf a.ds k ≤ 1048576 ∧ (1 < a.round → nowOf a.ds k ≤ wasOf a.ds k)) → ∀ i, i < k + 1 → wasOf a.ds i ≤ 1048576 ∧ nowOf a.ds i ≤ 1048576 ∧ (1 < a.round → nowOf a.ds i ≤ wasOf a.ds i)) := fun ho i hi => by
        by_cases e : i = k
        · subst e; exact ho
        · exact hal.out i (by omega)
      generalize sumTo (wasOf a.ds) k = s at *
      generalize nowOf a.ds k = x at *
      generalize wasOf a.ds k = y at *
      obtain ⟨W1, hW1, X1, B1, L1⟩ : ∃ W1, (wr.alloc (.cells #[.int .i64 y, .int .i64 x] 49)) = W1 ∧ Blk W1 wr.heap.size #[.int .i64 y, .int .i64 x] 49 ∧ Below w.heap.size w W1 ∧ Lm W1 p b a := ⟨_, rfl, blk_new _ _ _ _ rfl, br.alloc br.size _, Lr.below ((Below.refl _ _).alloc (Nat.le_refl _) _)⟩
      have e0 : W1.cell? ⟨wr.heap.size, 0, none⟩ = some (.int .i64 y) := X1.cell rfl
      have e1 : W1.cell? ⟨wr.heap.size, 1, none⟩ = some (.int .i64 x) := X1.cell rfl
      have e3 : W1.cell? ⟨p, 3, none⟩ = some (.int .i64 a.round) := L1.blk.cell rfl
      clear hal Lr X1 L1
      by_cases g1 : 1048576 < y
      · have d1 : decide (1048576 < y) = true := decide_eq_true g1
        go_wp2
        go_ret
        exact ⟨by rw [HBad.out (by omega)]; rfl, B1⟩
      · have d1 : decide (1048576 < y) = false := decide_eq_false g1
        by_cases g2 : 1048576 < x
        · have d2 : decide (1048576 < x) = true := decide_eq_true g2
          go_wp2
          go_ret
          exact ⟨by rw [HBad.out (by omega)]; rfl, B1⟩
        · have d2 : decide (1048576 < x) = false := decide_eq_false g2
          by_cases g3 : 1 < a.round
          · have d3 : decide (1 < a.round) = true := decide_eq_true g3
            by_cases g4 : y < x
            · have d4 : decide (y < x) = true := decide_eq_true g4
              go_wp2
              go_ret
              exact ⟨by rw [HBad.out (fun hh => by have := hh.2.2 g3; omega)]; rfl, B1⟩
            · have d4 : decide (y < x) = false := decide_eq_false g4
              go_wp2
              refine ⟨⟨k + 1, by omega, by norm_cast, by rw [HS.out], HOk.out ⟨by omega, by omega, fun _ => by omega⟩, B1⟩, ?_⟩
              simp [intOf]; omega
          · have d3 : decide (1 < a.round) = false := decide_eq_false g3
            go_wp2
            refine ⟨⟨k + 1, by omega, by norm_cast, by rw [HS.out], HOk.out ⟨by omega, by omega, fun h => absurd h g3⟩, B1⟩, ?_⟩
            simp [intOf]; omega
    · have hd : decide ((k : Int) < a.ds.length) = false := by simp only [decide_eq_false_iff_not]; omega
      have hkk : k = a.ds.length := by omega
      subst hkk
      have HE : Hid (sumTo (wasOf a.ds) a.ds.length = a.ahead) := rfl
      have HD : Hid (((a.round = 1 → a.ahead = 0) ∧ (a.round ≠ 1 → a.supply < a.ahead)) ↔ t = true) := by
        show _ ↔ _
        rw [← HT.out]
        exact ⟨fun q => ⟨hal.out, q.1, q.2⟩, fun q => ⟨q.2.1, q.2.2⟩⟩
      rw [← HE.out] at HD
      clear hal HF HT HE
      generalize sumTo (wasOf a.ds) a.ds.length = s at *
      by_cases g1 : a.round = 1
      · have HV : Hid ((s == 0) = t) := by
          show _ = _
          cases t
          · have : ¬ (s = 0) := fun e => by have := HD.out.1 ⟨fun _ => e, fun q => absurd g1 q⟩; cases this
            simpa using this
          · have := (HD.out.2 rfl).1 g1
            simpa using this
        rw [g1] at c3
        go_wp2
        go_ret
        exact ⟨by rw [← HV.out]; rfl, br⟩
      · have d1 : (a.round == 1) = false := by simpa using g1
        have HV : Hid (decide (a.supply < s) = t) := by
          show _ = _
          refine decide_eq_iff_bool ?_
          rw [← HD.out]
          exact ⟨fun q => ⟨fun e => absurd e g1, fun _ => q⟩, fun q => q.2 g1⟩
        go_wp2
        go_ret
        exact ⟨by rw [← HV.out]; rfl, br⟩

/-- The state that there can be. -/
def SMay (a : Au) : Prop := a.state = 0 ∨ (a.state = 1 ∧ a.want ≤ a.supply) ∨ (a.state = 2 ∧ a.supply < a.want ∧ 1099511627776 < a.price + a.step)
set_option maxRecDepth 100000 in
set_option maxHeartbeats 1000000 in
theorem stateMayBe_calls (w : World) (h : Lm w p b a) (H : Inv0 a) (t : Bool) (ht : SMay a ↔ t = true) :
    Calls Try.prog 19 #[.pointer (some ⟨p, 0, none⟩)] w fun e w' => e = .returned (.bool t) ∧ Below w.heap.size w w' := by
  have c4 : w.cell? ⟨p, 4, none⟩ = some (.int .i64 a.state) := h.blk.cell rfl
  have HD : Hid (∀ y : BW w, _) := fun y : BW w => demand_m y.w (h.below y.h) H
  have HT : Hid (∀ y : BW w, _) := fun y : BW w => atTop_m y.w (h.below y.h) H
  have y0 := fun y : BW w => y.cell (show w.cell? ⟨p, 0, none⟩ = some (.int .i64 a.supply) from h.blk.cell rfl)
  have hne := bw_some w
  unfold SMay at ht
  have HTT : Hid _ := ht
  clear ht
  generalize a.want = wt at *
  by_cases g0 : a.state = 0
  · have e : t = true := HTT.out.1 (Or.inl g0)
    subst e
    rw [g0] at c4
    go_enter Try.func19, Try.ntmps19
    go_wp2
    go_ret
    exact ⟨rfl, Below.refl _ _⟩
  · have d0 : (a.state == 0) = false := by simpa using g0
    by_cases g1 : a.state = 1
    · have HV : Hid (decide (wt ≤ a.supply) = t) := by
        show _ = _
        refine decide_eq_iff_bool ?_
        rw [← HTT.out]
        exact ⟨fun q => Or.inr (Or.inl ⟨g1, q⟩), fun q => by
          rcases q with q | q | q
          · exact absurd q g0
          · exact q.2
          · omega⟩
      rw [g1] at c4
      clear d0
      go_enter Try.func19, Try.ntmps19
      go_wp2_with fail
      refine wp_region_below (by kernel_rfl) (by kernel_rfl) ?_
      repeat (quiet_step (first | (go_at_call 25; exact BW.call _ (HD.out _))))
      refine wpQuiet_nil ?_
      rintro w4 ⟨⟨_, b4⟩, rfl⟩
      go_wp2
      go_ret
      exact ⟨by rw [← HV.out]; rfl, b4⟩
    · have d1 : (a.state == 1) = false := by simpa using g1
      by_cases g2 : a.state = 2
      · rw [g2] at c4
        clear d0 d1
        by_cases g3 : a.supply < wt
        · have d3 : decide (a.supply < wt) = true := decide_eq_true g3
          have HV : Hid (decide (1099511627776 < a.price + a.step) = t) := by
            show _ = _
            refine decide_eq_iff_bool ?_
            rw [← HTT.out]
            exact ⟨fun q => Or.inr (Or.inr ⟨g2, g3, q⟩), fun q => by
              rcases q with q | q | q
              · exact absurd q g0
              · exact absurd q.1 g1
              · exact q.2.2⟩
          rw [HV.out] at HT
          go_enter Try.func19, Try.ntmps19
          go_wp2_with fail
          refine wp_region_below (by kernel_rfl) (by kernel_rfl) ?_
          repeat (quiet_step (first | (go_at_call 25; exact BW.call _ (HD.out _)) | (go_at_call 26; exact BW.call _ (HT.out _))))
          refine wpQuiet_nil ?_
          rintro w4 ⟨⟨_, b4⟩, rfl⟩
          go_wp2
          go_ret
          exact ⟨rfl, b4⟩
        · have d3 : decide (a.supply < wt) = false := decide_eq_false g3
          have e : t = false := by
            cases t
            · rfl
            · rcases HTT.out.2 rfl with q | q | q
              · exact absurd q g0
              · exact absurd q.1 g1
              · exact absurd q.2.1 g3
          subst e
          go_enter Try.func19, Try.ntmps19
          go_wp2_with fail
          refine wp_region_below (by kernel_rfl) (by kernel_rfl) ?_
          repeat (quiet_step (first | (go_at_call 25; exact BW.call _ (HD.out _))))
          refine wpQuiet_nil ?_
          rintro w4 ⟨⟨_, b4⟩, rfl⟩
          go_wp2
          go_ret
          exact ⟨rfl, b4⟩
      · have d2 : (a.state == 2) = false := by simpa using g2
        have e : t = false := by
          cases t
          · rfl
          · rcases HTT.out.2 rfl with q | q | q
            · exact absurd q g0
            · exact absurd q.1 g1
            · exact absurd q.1 g2
        subst e
        go_enter Try.func19, Try.ntmps19
        go_wp2
        go_ret
        exact ⟨rfl, Below.refl _ _⟩

/-- The three questions make an auction that can be. -/
theorem inv0_of (hf : Au.fits a.supply a.start a.step a.ds.length) (h0 : ∀ i, i < a.ds.length → 0 ≤ wasOf a.ds i ∧ 0 ≤ nowOf a.ds i) (hr : RMay a) (hd : DMay a) : Inv0 a := by
  obtain ⟨f1, f2, f3, f4⟩ := hf
  obtain ⟨r1, r2⟩ := (rMay_iff f2 f3.1).1 hr
  obtain ⟨d1, d2, d3⟩ := hd
  refine ⟨f1, f2, f3, ⟨by show 1 ≤ a.ds.length; omega, by show a.ds.length ≤ 16; omega⟩, r1, r2, fun i hi => ?_, fun h i hi => ?_, fun h i hi => ?_, fun h => ?_, Or.inl rfl⟩
  · exact ⟨(h0 i hi).1, (d1 i hi).1, (h0 i hi).2, (d1 i hi).2.1⟩
  · exact (d1 i hi).2.2 h
  · have e := d2 h
    have := one_le (g := wasOf a.ds) (m := a.ds.length) (fun j hj => (h0 j hj).1) hi
    have e2 : sumTo (wasOf a.ds) a.ds.length = 0 := e
    have := (h0 i hi).1
    show wasOf a.ds i = 0
    omega
  · have h' : 1 < a.round := h
    exact d3 (by omega)
theorem inv_of (hf : Au.fits a.supply a.start a.step a.ds.length) (h0 : ∀ i, i < a.ds.length → 0 ≤ wasOf a.ds i ∧ 0 ≤ nowOf a.ds i) : Inv a ↔ RMay a ∧ DMay a ∧ SMay a := by
  constructor
  · intro H
    refine ⟨(rMay_iff H.st H.sp.1).2 ⟨H.rd, H.pr⟩, ⟨fun i hi => ?_, fun h => ?_, fun h => ?_⟩, H.sta⟩
    · have := H.dm i hi; exact ⟨this.2.1, this.2.2.2, fun h => H.fall h i hi⟩
    · unfold Au.ahead
      rw [sumTo_congr (g := fun _ => 0) fun i hi => H.first h i hi, sumTo_zero]
    · have := H.rd; exact H.ah (by omega)
  · rintro ⟨hr, hd, hs⟩
    have H := inv0_of hf h0 hr hd
    exact ⟨H.sup, H.st, H.sp, H.len, H.rd, H.pr, H.dm, H.fall, H.first, H.ah, hs⟩
theorem fits_of {a : Au} (H : Inv a) : Au.fits a.supply a.start a.step a.ds.length := ⟨H.sup, H.st, H.sp, ⟨by have := H.len; omega, by have := H.len; omega⟩⟩
end Go.Proofs.Ytgbcbjfaplogaaa
