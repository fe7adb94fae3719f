/- LedgerStamps for all stamps and every reply: it answers true. -/
import Derived.Test.YtkgkflgopiabiaaLgE
import Derived.Test.YtkgkflgopiabiaaLgS
namespace Go.Proofs.Ytkgkflgopiabiaa
open Go.RowKit
set_option linter.unusedSimpArgs false
set_option linter.unusedVariables false

/-- A ledger of three clients of which the second alone has been marked, always with this reply. -/
structure Mk (L : List Kt) (t : ByteArray) : Prop where
  len : L.length = 3
  z : (kAt L 0).n 10 = 0
  zr : (kAt L 0).reply = ⟨#[]⟩
  nn : 0 ≤ (kAt L 1).n 10
  one : 1 ≤ (kAt L 1).n 10 → (kAt L 1).reply = t
theorem Mk.next {L : List Kt} {t : ByteArray} (h : Mk L t) (s : Int) (hs : 1 ≤ s) : Mk (markL L 1 s t) t ∧ (kAt (markL L 1 s t) 1).n 10 = s := by
  have hl := h.len
  have e : ∀ j, kAt (markL L 1 s t) j = if j = 1 then (kAt L 1).mark s t else kAt L j := fun j => by unfold markL; exact kAt_set _ (by omega) j
  refine ⟨⟨by rw [markL_len]; exact hl, by rw [e 0, if_neg (by omega)]; exact h.z, by rw [e 0, if_neg (by omega)]; exact h.zr, ?_, ?_⟩, ?_⟩
  · rw [e 1, if_pos rfl]; simp only [Kt.mark, if_true]; omega
  · intro _; rw [e 1, if_pos rfl]; rfl
  · rw [e 1, if_pos rfl]; simp [Kt.mark]

set_option maxRecDepth 100000 in
set_option maxHeartbeats 4000000 in
theorem stamps_calls (v : Value) (ls : List Int) (t : ByteArray) (w : World) (hl : Elems 1 (fun n : Int => [Value.int .i64 n]) (fun _ => True) w v ls) (hz : ls.length * 8 ≤ 140737488351232) (ht : t.size ≤ 140737488351232) :
    Calls Try.prog 6 #[v, .string t] w fun e w' => e = .returned (.bool true) ∧ Below w.heap.size w w' := by
  have HB : Hid _ := begun_calls (.slice none 0 0) [] w (Or.inl ⟨⟨_, _, rfl⟩, rfl⟩) (by simp)
  have HA : Hid _ := awake_calls
  have hM : Mk empty3 t := ⟨rfl, rfl, rfl, by decide, fun h => absurd h (by decide)⟩
  have h10 : (kAt empty3 1).n 10 = 0 := rfl
  have hr0 : runs 2 empty3 (([] : List Ac).take 100) = empty3 := rfl
  rw [hr0] at HB
  obtain ⟨a, cap, rfl, hc⟩ := hl.any
  have HC : Hid _ := hc
  clear hc hl hr0
  generalize empty3 = L0 at *
  have HM : Hid _ := hM
  clear hM
  go_enter Try.func6, Try.ntmps6
  go_wp2_with fail
  refine Calls.mono HB.out ?_
  rintro e w1 ⟨p, b, rfl, L1, b1, hp, hb⟩
  clear HB
  go_wp2
  go_loopw [6, 7] (fun c i wr => ∃ (k : Nat) (L : List Kt), k ≤ ls.length ∧ k ≤ 60 ∧ i = .int .i64 k ∧ c = .int .i64 ((kAt L 1).n 10) ∧ Mk L t ∧ Lg wr p b 2 L ∧ Below w.heap.size w wr) (fun _ i _ => ls.length - (intOf i).toNat)
  case atStart => exact ⟨0, L0, Nat.zero_le _, by omega, rfl, by rw [h10], HM.out, L1, b1⟩
  case round =>
    obtain ⟨k, L, hk, hk1, rfl, rfl, hMk, Lr, br⟩ := hrel
    have HMk : Hid _ := hMk
    have hlen := hMk.len
    have hst := Lr.inv.stamp 1 (by omega)
    have hla := fun wx (hx : Lg wx p b 2 L) => last_ok wx hx 1 (by omega) (by omega)
    have hla0 := fun wx (hx : Lg wx p b 2 L) => last_ok wx hx 0 (by omega) (by omega)
    rw [show (1 : Int).toNat = 1 from rfl] at hla
    rw [show (0 : Int).toNat = 0 from rfl, hMk.z, hMk.zr] at hla0
    have HLA : Hid _ := hla
    have HL0 : Hid _ := hla0
    clear hla hla0 hMk
    by_cases hgo : k < ls.length ∧ k < 60
    · obtain ⟨hlt, hlt1⟩ := hgo
      have hd1 : decide ((k : Int) < ls.length) = true := by simp only [decide_eq_true_eq]; omega
      have hd2 : decide ((k : Int) < 60) = true := by simp only [decide_eq_true_eq]; omega
      obtain ⟨q, off, hga, _, hg, hcel, _⟩ := HC.out k hlt
      subst hga
      have d0 := keepCell br (hcel 0 _ rfl) hg
      rw [Nat.mul_one, Nat.add_zero] at d0
      generalize ls[k] = s at *
      clear hcel
      have hmk := fun wx (hx : Lg wx p b 2 L) => mark_calls wx hx 1 s t (by omega) _ rfl
      have hmr : markR L 1 s t = if s < 1 ∨ 1099511627776 < s ∨ 256 < t.size then (1, L) else if s ≤ (kAt L 1).n 10 then (91, L) else (0, markL L 1 s t) := by
        unfold markR
        rw [if_neg (by omega)]
        rfl
      rw [hmr] at hmk
      clear hmr
      by_cases h1 : s < 1 ∨ 1099511627776 < s ∨ 256 < t.size
      · rw [if_pos h1] at hmk
        have HK : Hid _ := hmk wr Lr
        clear hmk
        have HH : Hid _ := h1
        clear h1
        generalize hY : (kAt L 1).n 10 = y at *
        have HY : Hid _ := hY
        clear hY
        cases e1 : decide (s < 1)
        · cases e2 : decide (1099511627776 < s)
          · have e3 : decide (256 < (t.size : Int)) = true := by have := HH.out; simp at e1 e2 ⊢; omega
            go_wp2_with fail
            refine Calls.mono HK.out ?_
            rintro e w2 ⟨rfl, L2, O2⟩
            go_wp2
            refine ⟨⟨k + 1, L, by omega, by omega, by norm_cast, by rw [HY.out], HMk.out, L2, O2.below hb br br.size⟩, ?_⟩
            simp [intOf]; omega
          · go_wp2_with fail
            refine Calls.mono HK.out ?_
            rintro e w2 ⟨rfl, L2, O2⟩
            go_wp2
            refine ⟨⟨k + 1, L, by omega, by omega, by norm_cast, by rw [HY.out], HMk.out, L2, O2.below hb br br.size⟩, ?_⟩
            simp [intOf]; omega
        · go_wp2_with fail
          refine Calls.mono HK.out ?_
          rintro e w2 ⟨rfl, L2, O2⟩
          go_wp2
          refine ⟨⟨k + 1, L, by omega, by omega, by norm_cast, by rw [HY.out], HMk.out, L2, O2.below hb br br.size⟩, ?_⟩
          simp [intOf]; omega
      · have e1 : decide (s < 1) = false := decide_eq_false (by omega)
        have e2 : decide (1099511627776 < s) = false := decide_eq_false (by omega)
        have e3 : decide (256 < (t.size : Int)) = false := decide_eq_false (by omega)
        rw [if_neg h1] at hmk
        by_cases h2 : s ≤ (kAt L 1).n 10
        · rw [if_pos h2] at hmk
          have HK : Hid _ := hmk
          clear hmk
          rw [HMk.out.one (by omega)] at HLA
          generalize hY : (kAt L 1).n 10 = y at *
          have HY : Hid _ := hY
          clear hY
          have e4 : decide (y < s) = false := decide_eq_false (by omega)
          have e5 : max y s = y := by omega
          go_wp2_with fail
          refine (HK.out _ Lr).mono ?_
          rintro e w2 ⟨rfl, L2, O2⟩
          go_wp2_with fail
          refine (HLA.out _ L2).mono ?_
          rintro e w3 ⟨rfl, b3⟩
          have L3 := L2.below b3
          go_wp2_with fail
          refine (HK.out _ L3).mono ?_
          rintro e w4 ⟨rfl, L4, O4⟩
          go_wp2
          have B2 := O2.below hb br br.size
          have B3 := B2.trans (b3.mono B2.size)
          refine ⟨⟨k + 1, L, by omega, by omega, by norm_cast, by rw [HY.out], HMk.out, L4, O4.below hb B3 B3.size⟩, ?_⟩
          simp [intOf]; omega
        · rw [if_neg h2] at hmk
          have HK : Hid _ := hmk wr Lr
          clear hmk
          obtain ⟨hN, hN10⟩ := HMk.out.next s (by omega)
          have hla := fun wx (hx : Lg wx p b 2 (markL L 1 s t)) => last_ok wx hx 1 (by omega) (by have := hN.len; omega)
          rw [show (1 : Int).toNat = 1 from rfl, hN10, hN.one (by omega)] at hla
          have hmk2 := fun wx (hx : Lg wx p b 2 (markL L 1 s t)) => mark_calls wx hx 1 s t (by omega) _ rfl
          have hmr2 : markR (markL L 1 s t) 1 s t = (91, markL L 1 s t) := by
            unfold markR
            have := hN.len
            rw [if_neg (by omega), if_neg h1]
            rw [show (1 : Int).toNat = 1 from rfl, hN10, if_pos (Int.le_refl _)]
          rw [hmr2] at hmk2
          clear hmr2
          generalize hL2 : markL L 1 s t = LL at *
          have HLA2 : Hid _ := hla
          have HK2 : Hid _ := hmk2
          have HN : Hid _ := hN
          have HN10 : Hid _ := hN10
          clear hla hmk2 hN hN10 hL2 HLA
          generalize hY : (kAt L 1).n 10 = y at *
          clear hY
          have e4 : decide (y < s) = true := decide_eq_true (by omega)
          have e5 : max y s = s := by omega
          go_wp2_with fail
          refine Calls.mono HK.out ?_
          rintro e w2 ⟨rfl, L2, O2⟩
          go_wp2_with fail
          refine (HLA2.out _ L2).mono ?_
          rintro e w3 ⟨rfl, b3⟩
          have L3 := Lg.below L2 b3
          go_wp2_with fail
          refine (HK2.out _ L3).mono ?_
          rintro e w4 ⟨rfl, L4, O4⟩
          go_wp2
          have B2 := O2.below hb br br.size
          have B3 := B2.trans (b3.mono B2.size)
          refine ⟨⟨k + 1, LL, by omega, by omega, by norm_cast, by rw [HN10.out], HN.out, L4, O4.below hb B3 B3.size⟩, ?_⟩
          simp [intOf]; omega
    · generalize hY : (kAt L 1).n 10 = y at *
      clear hY
      have HE : Hid (∀ wx, Lg wx p b 2 L → Below w.heap.size w wx → True) := fun _ _ _ => trivial
      by_cases h1 : k < ls.length
      · have hd1 : decide ((k : Int) < ls.length) = true := by simp only [decide_eq_true_eq]; omega
        have hd2 : decide ((k : Int) < 60) = false := by simp only [decide_eq_false_iff_not]; omega
        go_wp2_with fail
        refine (HLA.out _ Lr).mono ?_
        rintro e w3 ⟨rfl, b3⟩
        have L3 := Lr.below b3
        go_wp2_with fail
        refine (HL0.out _ L3).mono ?_
        rintro e w4 ⟨rfl, b4⟩
        go_wp2_with fail
        refine (HA.out _).mono ?_
        rintro e w5 ⟨rfl, b5⟩
        go_wp2
        go_ret
        have B3 := br.trans (b3.mono br.size)
        have B4 := B3.trans (b4.mono B3.size)
        exact ⟨rfl, B4.trans (b5.mono B4.size)⟩
      · have hd1 : decide ((k : Int) < ls.length) = false := by simp only [decide_eq_false_iff_not]; omega
        go_wp2_with fail
        refine (HLA.out _ Lr).mono ?_
        rintro e w3 ⟨rfl, b3⟩
        have L3 := Lr.below b3
        go_wp2_with fail
        refine (HL0.out _ L3).mono ?_
        rintro e w4 ⟨rfl, b4⟩
        go_wp2_with fail
        refine (HA.out _).mono ?_
        rintro e w5 ⟨rfl, b5⟩
        go_wp2
        go_ret
        have B3 := br.trans (b3.mono br.size)
        have B4 := B3.trans (b4.mono B3.size)
        exact ⟨rfl, B4.trans (b5.mono B4.size)⟩
end Go.Proofs.Ytkgkflgopiabiaa
