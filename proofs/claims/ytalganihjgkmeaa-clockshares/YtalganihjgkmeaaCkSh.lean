/- ClockShares: it answers true. -/
import Derived.Test.YtalganihjgkmeaaCkH
import Derived.Test.YtalganihjgkmeaaCkE
namespace Go.Proofs.Ytalganihjgkmeaa
open Go.RowKit
set_option linter.unusedSimpArgs false
set_option linter.unusedVariables false

theorem rd_elems {w : World} {v : Value} {l : List Int} (h : Elems 1 (fun n : Int => [Value.int .i64 n]) (fun _ => True) w v l) : Rd w v l := by
  obtain ⟨a, cap, rfl, hc⟩ := h.any
  refine ⟨a, cap, rfl, fun i hi => ?_⟩
  obtain ⟨g, off, rfl, _, hg, hcel, _⟩ := hc i hi
  refine ⟨g, off, rfl, hg, ?_⟩
  have := hcel 0 _ rfl
  rw [Nat.mul_one, Nat.add_zero] at this
  rw [gAt_eq hi]; exact this
theorem Rd.get {w : World} {c : Option Addr} {cap n : Nat} {l : List Int} (h : Rd w (.slice c n cap) l) {i : Nat} (hi : i < l.length) : ∃ g off, c = some ⟨g, off, none⟩ ∧ w.cell? ⟨g, off + i, none⟩ = some (.int .i64 (gAt l i)) := by
  obtain ⟨c', cap', e, hc⟩ := h
  cases e
  obtain ⟨g, off, h1, _, h2⟩ := hc i hi
  exact ⟨g, off, h1, h2⟩

set_option maxRecDepth 100000 in
set_option maxHeartbeats 4000000 in
theorem shares_law (n : Int) (v : Value) (l : List Int) (w : World) (hl : Elems 1 (fun n : Int => [Value.int .i64 n]) (fun _ => True) w v l) (hz : l.length * 8 ≤ 140737488351232) :
    Calls Try.prog 6 #[.int .i64 n, v] w fun e w' => e = .returned (.bool true) ∧ Below w.heap.size w w' := by
  have hv := rd_elems hl
  have HA : Hid _ := awake_calls
  clear hl
  by_cases h : Sh n l
  · have h1 := shares_ok v l n w hv h
    have HR : Hid _ := fun wx (hb : Below w.heap.size w wx) => refShares_ok v l n wx (hv.below hb) h
    have HEa : Hid (∀ i, i < l.length → 0 ≤ gAt (shares n l) i ∧ gAt (shares n l) i ≤ gAt l i) := fun i hi => h.each hi
    have HMo : Hid (∀ i k, i < l.length → k < l.length → gAt l k < gAt l i → gAt (shares n l) k ≤ gAt (shares n l) i + 1) := fun i k hi hk he => h.more hi hk he
    have HEq : Hid (∀ i k, i < l.length → k < l.length → i < k → gAt l i = gAt l k → gAt (shares n l) k ≤ gAt (shares n l) i ∧ gAt (shares n l) i ≤ gAt (shares n l) k + 1) := fun i k hi hk hik he => h.equal hi hk hik he
    have HBd : Hid (∀ i, i < l.length → gAt l i ≤ 1048576) := fun i hi => (h.2.1 i hi).2
    have HSm : Hid (sumL (shares n l) = n) := h.sum
    have hlen := h.1
    have HSL : Hid ((shares n l).length = l.length) := shares_len n l
    clear h
    generalize shares n l = sh at *
    have hv' := hv
    obtain ⟨c, cap, rfl, _⟩ := hv'
    have HV : Hid _ := hv
    clear hv
    go_enter Try.func6, Try.ntmps6
    go_wp2_with fail
    refine h1.mono ?_
    rintro e w1 ⟨rfl, X1, b1⟩
    have HR1 := HR.out w1 b1
    clear HR h1
    go_wp2_with fail
    refine HR1.mono ?_
    rintro e w2 ⟨u, rfl, R2, b2⟩
    have zb1 := b1.size
    have zb2 := b2.size
    have hX2 := rd_blk (X1.below b2) l.length
    rw [HSL.out] at hX2
    have hN := numbers_true _ u sh w2 hX2 R2.rd (by rw [HSL.out]; omega)
    have HX2 : Hid _ := hX2
    have B2 := b1.trans (b2.mono zb1)
    clear HR1 X1 b1 R2 hX2
    go_wp2_with fail
    refine hN.mono ?_
    rintro e w3 ⟨rfl, b3⟩
    have hX3 := Rd.below HX2.out b3
    have hS := sum_calls _ sh w3 hX3 (by rw [HSL.out]; omega) (sumSmall (by rw [HSL.out]; omega) fun i hi => by
      rw [HSL.out] at hi
      have h1 := HEa.out i hi
      have h2 := HBd.out i hi
      omega)
    rw [HSm.out] at hS
    have B3 := B2.trans (b3.mono B2.size)
    clear hN b3 HX2 B2
    go_wp2_with fail
    refine hS.mono ?_
    rintro e w4 ⟨rfl, rfl⟩
    clear hS
    have HV4 : Hid _ := Rd.below HV.out B3
    have HX4 : Hid _ := hX3
    clear hX3 b2
    obtain ⟨sp, hsp⟩ : ∃ sp, w.heap.size = sp := ⟨_, rfl⟩
    have HSP : Hid _ := hsp
    rw [hsp] at HX4
    rw [hsp]
    clear hsp
    go_wp2
    go_loopw [9] (fun i wr => ∃ k : Nat, k ≤ l.length ∧ i = .int .i64 k ∧ Below w4.heap.size w4 wr) (fun i _ => l.length - (intOf i).toNat)
    case atStart => exact ⟨0, Nat.zero_le _, rfl, Below.refl _ _⟩
    case round =>
      obtain ⟨i, hi, rfl, br⟩ := hrel
      by_cases hlt : i < l.length
      · have hd : decide ((i : Int) < l.length) = true := by simp only [decide_eq_true_eq]; omega
        have hii : (i : Int) < l.length := by omega
        obtain ⟨g, off, hgc, hg0⟩ := Rd.get (Rd.below HV4.out br) hlt
        subst hgc
        have hs0 : wr.cell? ⟨sp, i, none⟩ = some (.int .i64 (gAt sh i)) := by
          obtain ⟨g', off', e, hx⟩ := Rd.get (Rd.below HX4.out br) (i := i) (by rw [HSL.out]; exact hlt)
          cases e
          rw [Nat.zero_add] at hx; exact hx
        have hea := HEa.out i hlt
        generalize hgi : gAt l i = gi at *
        generalize hsi : gAt sh i = si at *
        have HGI : Hid _ := hgi
        have HSI : Hid _ := hsi
        clear hgi hsi
        have e1 : decide (si < 0) = false := decide_eq_false (by omega)
        have e2 : decide (gi < si) = false := decide_eq_false (by omega)
        go_wp2
        go_quiet (fail)
        go_wp2
        rename_i nq
        have bq : Below w4.heap.size w4 (wr.drewN nq) := br.trans (drewN_below _ _ _)
        clear br hg0 hs0 e1 e2
        generalize wr.drewN nq = wo at *
        go_loopw [10] (fun j wr => ∃ k : Nat, k ≤ l.length ∧ j = .int .i64 k ∧ Below w4.heap.size w4 wr) (fun j _ => l.length - (intOf j).toNat)
        case atStart => exact ⟨0, Nat.zero_le _, rfl, bq⟩
        case round =>
          obtain ⟨k, hk, rfl, br⟩ := hrel
          by_cases hkt : k < l.length
          · have hdk : decide ((k : Int) < l.length) = true := by simp only [decide_eq_true_eq]; omega
            have hki : (k : Int) < l.length := by omega
            have hg0 : wr.cell? ⟨g, off + i, none⟩ = some (.int .i64 gi) := by
              obtain ⟨g', off', e, hx⟩ := Rd.get (Rd.below HV4.out br) hlt
              cases e
              rw [HGI.out] at hx; exact hx
            have hg1 : wr.cell? ⟨g, off + k, none⟩ = some (.int .i64 (gAt l k)) := by
              obtain ⟨g', off', e, hx⟩ := Rd.get (Rd.below HV4.out br) hkt
              cases e
              exact hx
            have hs0 : wr.cell? ⟨sp, i, none⟩ = some (.int .i64 si) := by
              obtain ⟨g', off', e, hx⟩ := Rd.get (Rd.below HX4.out br) (i := i) (by rw [HSL.out]; exact hlt)
              cases e
              rw [Nat.zero_add, HSI.out] at hx; exact hx
            have hs1 : wr.cell? ⟨sp, k, none⟩ = some (.int .i64 (gAt sh k)) := by
              obtain ⟨g', off', e, hx⟩ := Rd.get (Rd.below HX4.out br) (i := k) (by rw [HSL.out]; exact hkt)
              cases e
              rw [Nat.zero_add] at hx; exact hx
            have hek := HEa.out k hkt
            have hbk := HBd.out k hkt
            have hbi := HBd.out i hlt
            have hmo := HMo.out i k hlt hkt
            have heq := HEq.out i k hlt hkt
            rw [HGI.out, HSI.out] at hmo heq
            rw [HGI.out] at hbi
            generalize gAt l k = gk at *
            generalize gAt sh k = sk at *
            rcases Int.lt_trichotomy gi gk with c1 | c1 | c1
            · have d1 : decide (gk < gi) = false := decide_eq_false (by omega)
              have d2 : (gi == gk) = false := by simp; omega
              clear hmo heq
              go_wp2
              go_quiet (fail)
              go_wp2
              refine ⟨⟨k + 1, by omega, by norm_cast, br.trans (drewN_below _ _ _)⟩, ?_⟩
              simp [intOf]; omega
            · subst c1
              have d1 : decide (gi < gi) = false := decide_eq_false (by omega)
              by_cases hik : i < k
              · have d3 : decide ((i : Int) < k) = true := decide_eq_true (by omega)
                have hh := heq hik rfl
                have d4 : decide (si < sk) = false := decide_eq_false (by omega)
                have d5 : decide (sk + 1 < si) = false := decide_eq_false (by omega)
                clear hmo heq
                go_wp2
                go_quiet (fail)
                go_wp2
                refine ⟨⟨k + 1, by omega, by norm_cast, br.trans (drewN_below _ _ _)⟩, ?_⟩
                simp [intOf]; omega
              · have d3 : decide ((i : Int) < k) = false := decide_eq_false (by omega)
                clear hmo heq
                go_wp2
                go_quiet (fail)
                go_wp2
                refine ⟨⟨k + 1, by omega, by norm_cast, br.trans (drewN_below _ _ _)⟩, ?_⟩
                simp [intOf]; omega
            · have d1 : decide (gk < gi) = true := decide_eq_true c1
              have d2 : (gi == gk) = false := by simp; omega
              have hh := hmo c1
              have d4 : decide (si + 1 < sk) = false := decide_eq_false (by omega)
              clear hmo heq
              go_wp2
              go_quiet (fail)
              go_wp2
              refine ⟨⟨k + 1, by omega, by norm_cast, br.trans (drewN_below _ _ _)⟩, ?_⟩
              simp [intOf]; omega
          · have hdk : decide ((k : Int) < l.length) = false := by simp only [decide_eq_false_iff_not]; omega
            go_wp2
            refine ⟨⟨i + 1, by omega, by norm_cast, br⟩, ?_⟩
            simp [intOf]; omega
      · have hd : decide ((i : Int) < l.length) = false := by simp only [decide_eq_false_iff_not]; omega
        go_wp2_with fail
        refine (HA.out _).mono ?_
        rintro e w6 ⟨rfl, b6⟩
        go_wp2
        go_ret
        have B5 := B3.trans (br.mono B3.size)
        rw [← HSP.out]
        exact ⟨rfl, B5.trans (b6.mono B5.size)⟩
  · have h1 := shares_bad v l n w hv (by omega) h
    have h2 := refShares_bad v l n w hv (by omega) h
    obtain ⟨c, cap, rfl, _⟩ := hv
    go_enter Try.func6, Try.ntmps6
    go_wp2_with fail
    refine h1.mono ?_
    rintro e w1 ⟨rfl, rfl⟩
    go_wp2_with fail
    refine h2.mono ?_
    rintro e w2 ⟨rfl, rfl⟩
    go_wp2_with fail
    refine (HA.out _).mono ?_
    rintro e w3 ⟨rfl, b3⟩
    go_wp2
    go_ret
    exact ⟨rfl, b3⟩
end Go.Proofs.Ytalganihjgkmeaa
