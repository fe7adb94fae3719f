/- ClockRises: it answers true. -/
import Derived.Test.YtalganihjgkmeaaCkE

import Derived.Deep.RegionHeldLaw
import Derived.Deep.RegionHeld3
namespace Go.Proofs.Ytalganihjgkmeaa
open Go.RowKit
set_option linter.unusedSimpArgs false
set_option linter.unusedVariables false
variable {p b : Nat} {a : Au}

theorem bid_same (a : Au) (who n : Int) : (a.bid who n).2.start = a.start ∧ (a.bid who n).2.step = a.step ∧ (a.bid who n).2.supply = a.supply ∧ (a.bid who n).2.round = a.round ∧ (a.bid who n).2.state = a.state ∧ (a.bid who n).2.ds.length = a.ds.length := by
  unfold Au.bid
  split
  · exact ⟨rfl, rfl, rfl, rfl, rfl, rfl⟩
  · split
    · exact ⟨rfl, rfl, rfl, rfl, rfl, rfl⟩
    · split
      · exact ⟨rfl, rfl, rfl, rfl, rfl, rfl⟩
      · exact ⟨rfl, rfl, rfl, rfl, rfl, by simp⟩
theorem next_same (a : Au) : a.next.2.2.start = a.start ∧ a.next.2.2.step = a.step ∧ a.next.2.2.supply = a.supply ∧ a.round ≤ a.next.2.2.round ∧ a.next.2.2.round ≤ a.round + 1 ∧ a.next.2.2.ds.length = a.ds.length := by
  unfold Au.next
  split
  · exact ⟨rfl, rfl, rfl, Int.le_refl _, by show a.round ≤ a.round + 1; omega, rfl⟩
  · split
    · exact ⟨rfl, rfl, rfl, Int.le_refl _, by show a.round ≤ a.round + 1; omega, rfl⟩
    · split
      · exact ⟨rfl, rfl, rfl, Int.le_refl _, by show a.round ≤ a.round + 1; omega, rfl⟩
      · exact ⟨rfl, rfl, rfl, by show a.round ≤ a.round + 1; omega, Int.le_refl _, by simp [Au.begin, roll_len]⟩
theorem price_mono {a c : Au} (H : Inv a) (h1 : c.start = a.start) (h2 : c.step = a.step) (h3 : a.round ≤ c.round) : a.price ≤ c.price := by
  unfold Au.price
  rw [h1, h2]
  have := Int.mul_le_mul_of_nonneg_right (show a.round - 1 ≤ c.round - 1 by omega) (show 0 ≤ a.step by have := H.sp; omega)
  omega

set_option maxRecDepth 100000 in
set_option maxHeartbeats 2000000 in
theorem rises_calls (s : Int) (v : Value) (ls : List Ac) (w : World) (hl : Acs w v ls) (hz : ls.length * 24 ≤ 140737488351232) :
    Calls Try.prog 4 #[.int .i64 s, v] w fun e w' => e = .returned (.bool true) ∧ Below w.heap.size w w' := by
  have HB : Hid _ := begun_calls s (.slice none 0 0) [] w (Or.inl ⟨⟨_, _, rfl⟩, rfl⟩) (by simp)
  have HA : Hid _ := awake_calls
  have HK : Hid _ := fun z wx => around_calls z 3 wx (by omega) (by omega)
  obtain ⟨c, cap, rfl, hc⟩ := hl.any
  have HC : Hid _ := hc
  clear hc hl
  have HF : Hid ((runs (Au.four s) (([] : List Ac).take 100)).ds.length = 4) := by show _ = _; simp [runs, Au.four, Au.new]
  generalize runs (Au.four s) (([] : List Ac).take 100) = A0 at *
  go_enter Try.func4, Try.ntmps4
  go_wp2_with fail
  refine Calls.mono HB.out ?_
  rintro e w1 ⟨p, b, rfl, L1, b1, hp, hb⟩
  clear HB
  go_wp2
  go_loopw [6] (fun i wr => ∃ (k : Nat) (A : Au), k ≤ ls.length ∧ k ≤ 100 ∧ i = .int .i64 k ∧ A.ds.length = 4 ∧ Lc wr p b A ∧ Below w.heap.size w wr) (fun i _ => ls.length - (intOf i).toNat)
  case atStart => exact ⟨0, A0, Nat.zero_le _, by omega, rfl, HF.out, L1, b1⟩
  case round =>
    obtain ⟨k, A, hk, hk1, rfl, hA4, Lr, br⟩ := hrel
    have HA4 : Hid _ := hA4
    clear hA4
    obtain ⟨wo, rfl⟩ : ∃ wo, wo = wr := ⟨wr, rfl⟩
    by_cases hgo : k < ls.length ∧ k < 100
    · obtain ⟨hlt, hlt1⟩ := hgo
      have hd1 : decide ((k : Int) < ls.length) = true := by simp only [decide_eq_true_eq]; omega
      have hd2 : decide ((k : Int) < 100) = true := by simp only [decide_eq_true_eq]; omega
      obtain ⟨q, off, hga, _, hg, hcel, _⟩ := HC.out k hlt
      subst hga
      have HPr : Hid _ := price_calls wo Lr
      have HRo : Hid _ := fun wx (hx : Lc wx p b A) => round_calls wx hx
      have HInv : Hid _ := Lr.inv
      have HRA : Hid (0 ≤ A.round) := by show 0 ≤ A.round; have := Lr.inv.rd; omega
      generalize ls[k] = ac at *
      go_wp2_with fail
      refine Calls.mono HPr.out ?_
      rintro e w2 ⟨rfl, b2⟩
      clear HPr
      have L2 := Lr.below b2
      go_wp2_with fail
      refine Calls.mono (HRo.out w2 L2) ?_
      rintro e w3 ⟨rfl, rfl⟩
      have br2 : Below w.heap.size w w3 := br.trans (b2.mono br.size)
      clear br b2 Lr HRo
      have d0 := keepCell br2 (hcel 0 _ rfl) hg
      have d1 := keepCell br2 (hcel 1 _ rfl) hg
      have d2 := keepCell br2 (hcel 2 _ rfl) hg
      rw [Nat.add_zero] at d0
      clear hcel
      have HAk : Hid _ := HK.out ac.kind w3
      by_cases hkind : arn ac.kind 3 = 2
      · have hde : (arn ac.kind 3 == 2) = true := by simpa using hkind
        have HNx : Hid _ := next_calls w3 L2 _ rfl
        clear hkind
        go_wp2_with fail
        refine Calls.mono HAk.out ?_
        rintro e w4 ⟨rfl, rfl⟩
        go_wp2_with fail
        refine Calls.mono HNx.out ?_
        rintro e w2 ⟨rfl, L2, O2⟩
        have hs := next_same A
        have HM : Hid (A.price ≤ A.next.2.2.price ∧ A.round ≤ A.next.2.2.round ∧ A.next.2.2.round ≤ A.round + 1) := ⟨price_mono HInv.out hs.1 hs.2.1 hs.2.2.2.1, hs.2.2.2.1, hs.2.2.2.2.1⟩
        have HL' : Hid (A.next.2.2.ds.length = 4) := hs.2.2.2.2.2.trans HA4.out
        have HB2 : Hid (Below w.heap.size w w2) := O2.below hp hb br2 br2.size
        clear hs HNx HAk O2 br2
        generalize A.next.2.2 = A' at *
        have hlen' : A'.ds.length = 4 := HL'.out
        have HP2 : Hid _ := price_calls w2 L2
        have HR2 : Hid _ := fun wx (hx : Lc wx p b A') => round_calls wx hx
        have hin := L2.inv
        have HIN : Hid _ := hin
        have hrd := hin.rd
        have hrd2 := hin.rnd
        have hp0 := hin.price0
        have e1 : decide (A'.price < A.price) = false := decide_eq_false (by have := HM.out; omega)
        have e2 : decide (A'.round < A.round) = false := decide_eq_false (by have := HM.out; omega)
        have e3 : decide (A.round + 1 < A'.round) = false := decide_eq_false (by have := HM.out; omega)
        have hrA : A.round ≤ 1099511627777 := by have := HM.out; omega
        have hrA0 := HRA.out
        clear hin
        have B2 := HB2.out
        generalize A'.price = pr' at *
        generalize A.price = pr at *
        go_wp2_with fail
        refine Calls.mono HP2.out ?_
        rintro e w5 ⟨rfl, b5⟩
        have L5 := L2.below b5
        go_wp2_with fail
        refine Calls.mono (HR2.out w5 L5) ?_
        rintro e w6 ⟨rfl, rfl⟩
        go_wp2_with fail
        refine Calls.mono (HR2.out w6 L5) ?_
        rintro e w7 ⟨rfl, rfl⟩
        have B7 : Below w.heap.size w w7 := B2.trans (b5.mono B2.size)
        clear HP2 b5 L2 HB2 B2
        go_wp2
        clear e1 e2 e3
        obtain ⟨wo, rfl⟩ : ∃ wo, wo = w7 := ⟨w7, rfl⟩
        go_loopw [9] (fun i wr => ∃ j : Nat, j ≤ 4 ∧ i = .int .i64 j ∧ Lc wr p b A' ∧ Below w.heap.size w wr) (fun i _ => 4 - (intOf i).toNat)
        case atStart => exact ⟨0, by omega, rfl, L5, B7⟩
        case round =>
          obtain ⟨j, hj, rfl, Lq, bq⟩ := hrel
          by_cases hjt : j < 4
          · have hdj : decide ((j : Int) < 4) = true := by simp only [decide_eq_true_eq]; omega
            have hwa := wants_ok wr Lq j (by omega) (by omega)
            rw [Int.toNat_natCast] at hwa
            have hdm := HIN.out.dm j (by omega)
            have hfa : 1 < A'.round → nowOf A'.ds j ≤ wasOf A'.ds j := fun h => HIN.out.fall h j (by omega)
            have hfi : A'.round = 1 → wasOf A'.ds j = 0 := fun h => HIN.out.first h j (by omega)
            generalize nowOf A'.ds j = x at *
            generalize wasOf A'.ds j = y at *
            have f0 : decide (x < 0) = false := decide_eq_false (by omega)
            by_cases hr1 : A'.round = 1
            · have y0 := hfi hr1
              subst y0
              have HRd : Hid _ := fun wx hx => HR2.out wx hx
              rw [hr1] at HRd
              clear hfa hfi hr1
              go_wp2_with fail
              refine hwa.mono ?_
              rintro e w8 ⟨rfl, b8⟩
              have L8 := Lq.below b8
              go_wp2_with fail
              refine Calls.mono (HRd.out w8 L8) ?_
              rintro e w9 ⟨rfl, rfl⟩
              go_wp2_with fail
              refine Calls.mono (HRd.out w9 L8) ?_
              rintro e w10 ⟨rfl, rfl⟩
              go_wp2
              refine ⟨⟨j + 1, by omega, by norm_cast, L8, bq.trans (b8.mono bq.size)⟩, ?_⟩
              simp [intOf]; omega
            · have hr2 : 1 < A'.round := by omega
              have f1 : decide (1 < A'.round) = true := decide_eq_true hr2
              have f2 : decide (y < x) = false := decide_eq_false (by have := hfa hr2; omega)
              have f3 : (A'.round == 1) = false := by simpa using hr1
              clear hfa hfi hr1 hr2
              go_wp2_with fail
              refine hwa.mono ?_
              rintro e w8 ⟨rfl, b8⟩
              have L8 := Lq.below b8
              go_wp2_with fail
              refine Calls.mono (HR2.out w8 L8) ?_
              rintro e w9 ⟨rfl, rfl⟩
              go_wp2_with fail
              refine Calls.mono (HR2.out w9 L8) ?_
              rintro e w10 ⟨rfl, rfl⟩
              go_wp2
              refine ⟨⟨j + 1, by omega, by norm_cast, L8, bq.trans (b8.mono bq.size)⟩, ?_⟩
              simp [intOf]; omega
          · have hdj : decide ((j : Int) < 4) = false := by simp only [decide_eq_false_iff_not]; omega
            go_wp2
            refine ⟨⟨k + 1, A', by omega, by omega, by norm_cast, HL'.out, Lq, bq⟩, ?_⟩
            simp [intOf]; omega
      · have hde : (arn ac.kind 3 == 2) = false := by simpa using hkind
        have HBid : Hid _ := fun wx (hx : Lc wx p b A) => bid_calls wx hx ac.who ac.n _ rfl
        have hq1 := br2.size
        have hqp : q ≠ p := by omega
        have hqb : q ≠ b := by omega
        have hki : (k : Int) < ls.length := by omega
        clear hkind
        go_wp2_with fail
        refine Calls.mono HAk.out ?_
        rintro e w4 ⟨rfl, rfl⟩
        have Ld := L2.drew
        have hqs : q < w4.drew.heap.size := by show q < w4.heap.size; omega
        go_wp2_with fail
        refine wp_region_held_drew (S := (fun wx => wx.cell? ⟨q, off + k * 3 + 1, none⟩ = some (.int .i64 ac.who) ∧ wx.cell? ⟨q, off + k * 3 + 2, none⟩ = some (.int .i64 ac.n))) (by kernel_rfl) ⟨d1, d2⟩ (fun hS => ?_)
        refine wpAnyH_take (i := 0) (v := (.pointer (some ⟨p, 0, none⟩))) rfl (by kernel_rfl) (by kernel_rfl) (by kernel_rfl) (fun _ _ _ h => h) (Or.inl ⟨by rfl, fun w hS => by obtain ⟨s0, s1⟩ := hS; go_simp⟩) hS ?_
        refine wpAnyH_take (i := 1) (v := (.slice (some ⟨q, off, none⟩) ls.length cap)) rfl (by kernel_rfl) (by kernel_rfl) (by kernel_rfl) (fun _ _ _ h => h) (Or.inl ⟨by rfl, fun w hS => by obtain ⟨s0, s1⟩ := hS; go_simp⟩) hS ?_
        refine wpAnyH_take (i := 2) (v := (.int .i64 (k : Int))) rfl (by kernel_rfl) (by kernel_rfl) (by kernel_rfl) (fun _ _ _ h => h) (Or.inl ⟨by rfl, fun w hS => by obtain ⟨s0, s1⟩ := hS; go_simp⟩) hS ?_
        refine wpAnyH_take (i := 3) (v := (.pointer (some ⟨q, off + k * 3, none⟩))) rfl (by kernel_rfl) (by kernel_rfl) (by kernel_rfl) (fun _ _ _ h => h) (Or.inl ⟨by rfl, fun w hS => by obtain ⟨s0, s1⟩ := hS; go_simp⟩) hS ?_
        refine wpAnyH_take (i := 4) (v := (.pointer (some ⟨q, off + k * 3 + 1, none⟩))) rfl (by kernel_rfl) (by kernel_rfl) (by kernel_rfl) (fun _ _ _ h => h) (Or.inl ⟨by rfl, fun w hS => by obtain ⟨s0, s1⟩ := hS; go_simp⟩) hS ?_
        refine wpAnyH_take (i := 5) (v := (.int .i64 ac.who)) rfl (by kernel_rfl) (by kernel_rfl) (by kernel_rfl) (fun _ _ _ h => h) (Or.inl ⟨by rfl, fun w hS => by obtain ⟨s0, s1⟩ := hS; go_simp⟩) hS ?_
        refine wpAnyH_take (i := 6) (v := (.slice (some ⟨q, off, none⟩) ls.length cap)) rfl (by kernel_rfl) (by kernel_rfl) (by kernel_rfl) (fun _ _ _ h => h) (Or.inl ⟨by rfl, fun w hS => by obtain ⟨s0, s1⟩ := hS; go_simp⟩) hS ?_
        refine wpAnyH_take (i := 7) (v := (.int .i64 (k : Int))) rfl (by kernel_rfl) (by kernel_rfl) (by kernel_rfl) (fun _ _ _ h => h) (Or.inl ⟨by rfl, fun w hS => by obtain ⟨s0, s1⟩ := hS; go_simp⟩) hS ?_
        refine wpAnyH_take (i := 8) (v := (.pointer (some ⟨q, off + k * 3, none⟩))) rfl (by kernel_rfl) (by kernel_rfl) (by kernel_rfl) (fun _ _ _ h => h) (Or.inl ⟨by rfl, fun w hS => by obtain ⟨s0, s1⟩ := hS; go_simp⟩) hS ?_
        refine wpAnyH_take (i := 9) (v := (.pointer (some ⟨q, off + k * 3 + 2, none⟩))) rfl (by kernel_rfl) (by kernel_rfl) (by kernel_rfl) (fun _ _ _ h => h) (Or.inl ⟨by rfl, fun w hS => by obtain ⟨s0, s1⟩ := hS; go_simp⟩) hS ?_
        refine wpAnyH_take (i := 10) (v := (.int .i64 ac.n)) rfl (by kernel_rfl) (by kernel_rfl) (by kernel_rfl) (fun _ _ _ h => h) (Or.inl ⟨by rfl, fun w hS => by obtain ⟨s0, s1⟩ := hS; go_simp⟩) hS ?_
        refine wpAnyH_ready (rs := [11]) (by kernel_rfl) (by simp) ?_
        refine AllReadyH.cons rfl (fun K hK => ?_) AllReadyH.nil
        go_simp
        refine Calls.mono (HBid.out _ Ld) ?_
        rintro e w2 ⟨rfl, L2, O2⟩
        refine hK.out _ _ ⟨keepOfc O2 hS.1 hqs hqp hqb, keepOfc O2 hS.2 hqs hqp hqb⟩ (fun hS => ?_)
        clear hK
        refine wpAnyH_done (by kernel_rfl) ?_ _
        have hs := bid_same A ac.who ac.n
        have HM : Hid (A.price ≤ (A.bid ac.who ac.n).2.price ∧ A.round ≤ (A.bid ac.who ac.n).2.round ∧ (A.bid ac.who ac.n).2.round ≤ A.round + 1) := ⟨price_mono HInv.out hs.1 hs.2.1 (by rw [hs.2.2.2.1]; omega), by rw [hs.2.2.2.1]; omega, by rw [hs.2.2.2.1]; omega⟩
        have HL' : Hid ((A.bid ac.who ac.n).2.ds.length = 4) := hs.2.2.2.2.2.trans HA4.out
        have HB2 : Hid (Below w.heap.size w w2) := O2.below hp hb (br2.trans (Below.refl _ _).drew) hq1
        clear hs HBid HAk O2 br2
        generalize (A.bid ac.who ac.n).2 = A' at *
        have hlen' : A'.ds.length = 4 := HL'.out
        have HP2 : Hid _ := price_calls w2 L2
        have HR2 : Hid _ := fun wx (hx : Lc wx p b A') => round_calls wx hx
        have hin := L2.inv
        have HIN : Hid _ := hin
        have hrd := hin.rd
        have hrd2 := hin.rnd
        have hp0 := hin.price0
        have e1 : decide (A'.price < A.price) = false := decide_eq_false (by have := HM.out; omega)
        have e2 : decide (A'.round < A.round) = false := decide_eq_false (by have := HM.out; omega)
        have e3 : decide (A.round + 1 < A'.round) = false := decide_eq_false (by have := HM.out; omega)
        have hrA : A.round ≤ 1099511627777 := by have := HM.out; omega
        have hrA0 := HRA.out
        clear hin
        have B2 := HB2.out
        generalize A'.price = pr' at *
        generalize A.price = pr at *
        go_wp2_with fail
        refine Calls.mono HP2.out ?_
        rintro e w5 ⟨rfl, b5⟩
        have L5 := L2.below b5
        go_wp2_with fail
        refine Calls.mono (HR2.out w5 L5) ?_
        rintro e w6 ⟨rfl, rfl⟩
        go_wp2_with fail
        refine Calls.mono (HR2.out w6 L5) ?_
        rintro e w7 ⟨rfl, rfl⟩
        have B7 : Below w.heap.size w w7 := B2.trans (b5.mono B2.size)
        clear HP2 b5 L2 HB2 B2
        go_wp2
        clear e1 e2 e3
        obtain ⟨wo, rfl⟩ : ∃ wo, wo = w7 := ⟨w7, rfl⟩
        go_loopw [9] (fun i wr => ∃ j : Nat, j ≤ 4 ∧ i = .int .i64 j ∧ Lc wr p b A' ∧ Below w.heap.size w wr) (fun i _ => 4 - (intOf i).toNat)
        case atStart => exact ⟨0, by omega, rfl, L5, B7⟩
        case round =>
          obtain ⟨j, hj, rfl, Lq, bq⟩ := hrel
          by_cases hjt : j < 4
          · have hdj : decide ((j : Int) < 4) = true := by simp only [decide_eq_true_eq]; omega
            have hwa := wants_ok wr Lq j (by omega) (by omega)
            rw [Int.toNat_natCast] at hwa
            have hdm := HIN.out.dm j (by omega)
            have hfa : 1 < A'.round → nowOf A'.ds j ≤ wasOf A'.ds j := fun h => HIN.out.fall h j (by omega)
            have hfi : A'.round = 1 → wasOf A'.ds j = 0 := fun h => HIN.out.first h j (by omega)
            generalize nowOf A'.ds j = x at *
            generalize wasOf A'.ds j = y at *
            have f0 : decide (x < 0) = false := decide_eq_false (by omega)
            by_cases hr1 : A'.round = 1
            · have y0 := hfi hr1
              subst y0
              have HRd : Hid _ := fun wx hx => HR2.out wx hx
              rw [hr1] at HRd
              clear hfa hfi hr1
              go_wp2_with fail
              refine hwa.mono ?_
              rintro e w8 ⟨rfl, b8⟩
              have L8 := Lq.below b8
              go_wp2_with fail
              refine Calls.mono (HRd.out w8 L8) ?_
              rintro e w9 ⟨rfl, rfl⟩
              go_wp2_with fail
              refine Calls.mono (HRd.out w9 L8) ?_
              rintro e w10 ⟨rfl, rfl⟩
              go_wp2
              refine ⟨⟨j + 1, by omega, by norm_cast, L8, bq.trans (b8.mono bq.size)⟩, ?_⟩
              simp [intOf]; omega
            · have hr2 : 1 < A'.round := by omega
              have f1 : decide (1 < A'.round) = true := decide_eq_true hr2
              have f2 : decide (y < x) = false := decide_eq_false (by have := hfa hr2; omega)
              have f3 : (A'.round == 1) = false := by simpa using hr1
              clear hfa hfi hr1 hr2
              go_wp2_with fail
              refine hwa.mono ?_
              rintro e w8 ⟨rfl, b8⟩
              have L8 := Lq.below b8
              go_wp2_with fail
              refine Calls.mono (HR2.out w8 L8) ?_
              rintro e w9 ⟨rfl, rfl⟩
              go_wp2_with fail
              refine Calls.mono (HR2.out w9 L8) ?_
              rintro e w10 ⟨rfl, rfl⟩
              go_wp2
              refine ⟨⟨j + 1, by omega, by norm_cast, L8, bq.trans (b8.mono bq.size)⟩, ?_⟩
              simp [intOf]; omega
          · have hdj : decide ((j : Int) < 4) = false := by simp only [decide_eq_false_iff_not]; omega
            go_wp2
            refine ⟨⟨k + 1, A', by omega, by omega, by norm_cast, HL'.out, Lq, bq⟩, ?_⟩
            simp [intOf]; omega
    · by_cases h1 : k < ls.length
      · have hd1 : decide ((k : Int) < ls.length) = true := by simp only [decide_eq_true_eq]; omega
        have hd2 : decide ((k : Int) < 100) = false := by simp only [decide_eq_false_iff_not]; omega
        go_wp2_with fail
        refine (HA.out _).mono ?_
        rintro e w6 ⟨rfl, b6⟩
        go_wp2
        go_ret
        exact ⟨rfl, br.trans (b6.mono br.size)⟩
      · have hd1 : decide ((k : Int) < ls.length) = false := by simp only [decide_eq_false_iff_not]; omega
        go_wp2_with fail
        refine (HA.out _).mono ?_
        rintro e w6 ⟨rfl, b6⟩
        go_wp2
        go_ret
        exact ⟨rfl, br.trans (b6.mono br.size)⟩
end Go.Proofs.Ytalganihjgkmeaa
