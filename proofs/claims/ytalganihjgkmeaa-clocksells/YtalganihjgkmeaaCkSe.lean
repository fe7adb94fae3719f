/- ClockSells: it answers true. -/
import Derived.Test.YtalganihjgkmeaaCkE
import Derived.Test.YtalganihjgkmeaaCkRi
namespace Go.Proofs.Ytalganihjgkmeaa
open Go.RowKit
set_option linter.unusedSimpArgs false
set_option linter.unusedVariables false
variable {p b : Nat} {a : Au}

/-- An auction of four behind so many calls: it is never void. -/
structure Sm (S : Int) (k : Nat) (a : Au) : Prop where
  st : a.start = 10
  sp : a.step = 3
  su : a.supply = S
  len : a.ds.length = 4
  rd : a.round ≤ 1 + k
  nv : a.state ≠ 2
theorem Sm.act {S : Int} {k : Nat} (h : Sm S k a) (hk : k ≤ 1000) (x : Ac) : Sm S (k + 1) (a.act x) := by
  unfold Au.act
  split
  · have hs := next_same a
    refine ⟨hs.1.trans h.st, hs.2.1.trans h.sp, hs.2.2.1.trans h.su, hs.2.2.2.2.2.trans h.len, ?_, ?_⟩
    · have := hs.2.2.2.2.1; have := h.rd; push_cast; omega
    · unfold Au.next
      split
      · exact h.nv
      · split
        · show (1 : Int) ≠ 2; omega
        · split
          · next h2 =>
            exfalso
            unfold Au.price at h2
            rw [h.st, h.sp] at h2
            have := h.rd
            omega
          · exact h.nv
  · have hs := bid_same a x.who x.n
    refine ⟨hs.1.trans h.st, hs.2.1.trans h.sp, hs.2.2.1.trans h.su, hs.2.2.2.2.2.trans h.len, ?_, ?_⟩
    · rw [hs.2.2.2.1]; have := h.rd; push_cast; omega
    · rw [hs.2.2.2.2.1]; exact h.nv
theorem Sm.runs {S : Int} : ∀ (ls : List Ac) {k : Nat} {a : Au}, Sm S k a → k + ls.length ≤ 1000 → Sm S (k + ls.length) (runs a ls)
  | [], k, a, h, _ => h
  | x :: ls, k, a, h, hk => by
    have e : (x :: ls).length = ls.length + 1 := rfl
    rw [e] at hk ⊢
    have := Sm.runs ls (h.act (by omega) x) (by omega)
    have e2 : k + (ls.length + 1) = k + 1 + ls.length := by omega
    rw [e2]
    exact this
theorem sm_four (s : Int) : Sm (1 + arn s 300) 0 (Au.four s) := ⟨rfl, rfl, rfl, by simp [Au.four, Au.new], Int.le_refl _, by show (0 : Int) ≠ 2; omega⟩
theorem sm_runs (s : Int) (ls : List Ac) : Sm (1 + arn s 300) 100 (runs (Au.four s) (ls.take 100)) := by
  have h := Sm.runs (ls.take 100) (sm_four s) (by simp; omega)
  exact ⟨h.st, h.sp, h.su, h.len, by have := h.rd; have : (ls.take 100).length ≤ 100 := by simp; omega
                                     omega, h.nv⟩
/-- What is sold. -/
structure Sold4 (a : Au) : Prop where
  each : ∀ i, i < 4 → nowOf a.ds i ≤ a.saleAt i ∧ (a.saleAt i ≤ wasOf a.ds i ∨ a.saleAt i ≤ nowOf a.ds i) ∧ (nowOf a.ds i < a.saleAt i → a.saleP = a.price - 3) ∧ a.saleAt i ≤ 2097152
  all : 1 < a.round → sumTo a.saleAt 4 = a.supply
  most : sumTo a.saleAt 4 ≤ a.supply
  pr : a.saleP = a.price ∨ (a.saleP ≠ a.price ∧ a.saleP = a.price - 3 ∧ 1 < a.round ∧ a.want < a.supply)
theorem sold4 {S : Int} {k : Nat} (H : Inv a) (h : Sm S k a) (h0 : a.state ≠ 0) : Sold4 a := by
  have h1 : a.state = 1 ∧ a.want ≤ a.supply := by
    rcases H.sta with e | e | e
    · exact absurd e h0
    · exact e
    · exact absurd e.1 h.nv
  have hl := h.len
  have hw : a.want = sumTo (nowOf a.ds) 4 := by unfold Au.want; rw [hl]
  by_cases hp : a.plain
  · have e : ∀ i, a.saleAt i = nowOf a.ds i := fun i => by unfold Au.saleAt; rw [if_pos h1.1, if_pos hp]
    have e2 : a.saleP = a.price := by unfold Au.saleP; rw [if_pos h1.1, if_pos hp]
    have es : sumTo a.saleAt 4 = a.want := by rw [hw]; exact sumTo_congr fun i _ => e i
    refine ⟨fun i hi => ?_, fun hr => ?_, ?_, Or.inl e2⟩
    · have := H.dm i (by omega)
      rw [e i]
      exact ⟨Int.le_refl _, Or.inr (Int.le_refl _), fun h => by omega, by omega⟩
    · rw [es]
      rcases hp with h | h <;> omega
    · rw [es]; exact h1.2
  · have hsh := H.sh h1.1 hp
    have e : ∀ i, a.saleAt i = nowOf a.ds i + gAt (shares (a.supply - a.want) a.gaps) i := fun i => by unfold Au.saleAt; rw [if_pos h1.1, if_neg hp]
    have e2 : a.saleP = a.price - 3 := by unfold Au.saleP; rw [if_pos h1.1, if_neg hp, h.sp]
    have es : sumTo a.saleAt 4 = a.supply := by
      have hsum := hsh.sum
      have hl2 : (shares (a.supply - a.want) a.gaps).length = 4 := (shares_len _ _).trans ((gaps_len a).trans hl)
      unfold sumL at hsum
      rw [hl2] at hsum
      rw [sumTo_congr fun i _ => e i, sumTo_add, hsum, ← hw]
      omega
    have hr : 1 < a.round := by
      have := H.rd
      have : a.round ≠ 1 := fun e => hp (Or.inl e)
      omega
    refine ⟨fun i hi => ?_, fun _ => es, by rw [es]; exact Int.le_refl _, Or.inr ⟨by omega, e2, hr, ?_⟩⟩
    · have d := H.dm i (by omega)
      have f := H.fall hr i (by omega)
      have g := hsh.each (i := i) (by rw [gaps_len]; omega)
      rw [gaps_at a (by omega)] at g
      rw [e i]
      exact ⟨by omega, Or.inl (by omega), fun _ => e2, by omega⟩
    · have : a.supply - a.want ≠ 0 := fun e => hp (Or.inr e)
      omega

set_option maxRecDepth 100000 in
set_option maxHeartbeats 2000000 in
theorem sells_calls (s : Int) (v : Value) (ls : List Ac) (w : World) (hl : Acs w v ls) (hz : ls.length * 24 ≤ 140737488351232) :
    Calls Try.prog 5 #[.int .i64 s, v] w fun e w' => e = .returned (.bool true) ∧ Below w.heap.size w w' := by
  have HB : Hid _ := begun_calls s v ls w hl hz
  have HA : Hid _ := awake_calls
  have HK : Hid _ := fun wx => around_calls s 300 wx (by omega) (by omega)
  have hx := arn_ok s 300 (by omega)
  have HS : Hid _ := sm_runs s ls
  generalize runs (Au.four s) (ls.take 100) = A at *
  generalize arn s 300 = x at *
  have hw1 : IntKind.i64.wrap (1 + x) = 1 + x := by rw [IntKind.wrap_i64]; omega
  go_enter Try.func5, Try.ntmps5
  go_wp2_with fail
  refine Calls.mono HB.out ?_
  rintro e w1 ⟨p, b, rfl, L1, b1, hp, hb⟩
  clear HB
  go_wp2_with fail
  refine Calls.mono (HK.out w1) ?_
  rintro e w2 ⟨rfl, rfl⟩
  have hSu := HS.out.su
  by_cases h0 : A.state = 0
  · have HSa : Hid _ := sale_open w2 L1 h0
    go_wp2_with fail
    refine Calls.mono HSa.out ?_
    rintro e w3 ⟨rfl, b3⟩
    have hst := state_calls w3 (L1.below b3)
    rw [h0] at hst
    clear hSu
    go_wp2_with fail
    refine hst.mono ?_
    rintro e w4 ⟨rfl, rfl⟩
    go_wp2_with fail
    refine (HA.out _).mono ?_
    rintro e w5 ⟨rfl, b5⟩
    go_wp2
    go_ret
    have z1 := b1.size
    have z3 := b3.size
    exact ⟨rfl, (b1.trans (b3.mono z1)).trans (b5.mono (by omega))⟩
  · have HSa : Hid _ := sale_over w2 L1 h0
    have HSo : Hid _ := sold4 L1.inv HS.out h0
    have HIn : Hid _ := L1.inv
    have hd0 : (A.state == 0) = false := by simpa using h0
    have HLn : Hid (A.ds.length = 4) := HS.out.len
    rw [HLn.out] at HSa
    go_wp2_with fail
    refine Calls.mono HSa.out ?_
    rintro e w3 ⟨rfl, X3, b3⟩
    have L3 := L1.below b3
    have hst := state_calls w3 L3
    have z1 := b1.size
    have B3 : Below w.heap.size w w3 := b1.trans (b3.mono z1)
    clear HSa b3 L1 b1
    have HX : Hid (∀ i, i < 4 → (iC A.saleL)[i]? = some (.int .i64 (A.saleAt i))) := fun i hi => by
      rw [iC_get (by rw [saleL_len, HLn.out]; exact hi)]
      unfold Au.saleL
      rw [tab_at _ (by rw [HLn.out]; exact hi)]
    have hS2 : 1 + x = A.supply := hSu.symm
    clear hSu
    go_wp2_with fail
    refine hst.mono ?_
    rintro e w4 ⟨rfl, rfl⟩
    have hp0 := HIn.out.price0
    have hrd := HIn.out.rd
    have hrd2 := HIn.out.rnd
    generalize hPP : A.saleP = PP at *
    have HPP : Hid _ := hPP
    clear hPP
    go_wp2
    go_loopw [10, 11] (fun c i wr => ∃ k : Nat, k ≤ 4 ∧ i = .int .i64 k ∧ c = .int .i64 (sumTo A.saleAt k) ∧ Lc wr p b A ∧ Blk wr w2.heap.size (iC A.saleL) 3 ∧ Below w.heap.size w wr) (fun _ i _ => 4 - (intOf i).toNat)
    case atStart => exact ⟨0, by omega, rfl, rfl, L3, X3, B3⟩
    case round =>
      obtain ⟨k, hk, rfl, rfl, Lr, Xr, br⟩ := hrel
      have hsm : 0 ≤ sumTo A.saleAt k ∧ sumTo A.saleAt k ≤ 8388608 := by
        refine ⟨sumTo_nonneg fun i hi => ?_, ?_⟩
        · have h1 := (HSo.out.each i (by omega)).1
          have h2 := (HIn.out.dm i (by rw [HLn.out]; omega)).2.2.1
          omega
        · have := sumTo_le (f := A.saleAt) (m := 2097152) (k := k) fun i hi => (HSo.out.each i (by omega)).2.2.2
          omega
      by_cases hlt : k < 4
      · have hd : decide ((k : Int) < 4) = true := by simp only [decide_eq_true_eq]; omega
        have hwa := wants_ok wr Lr k (by omega) (by rw [HLn.out]; omega)
        rw [Int.toNat_natCast] at hwa
        have g0 := fun (wx : World) (hb : Below wr.heap.size wr wx) => (Xr.below hb).cell (HX.out k hlt)
        have hq := HSo.out.each k hlt
        have hdm := HIn.out.dm k (by rw [HLn.out]; exact hlt)
        have HT : Hid (sumTo A.saleAt (k + 1) = sumTo A.saleAt k + A.saleAt k) := rfl
        have HPr : Hid _ := fun wx (hx : Lc wx p b A) => price_calls wx hx
        have hqp := hq.2.2.1
        rw [HPP.out] at hqp
        generalize nowOf A.ds k = y at *
        generalize wasOf A.ds k = z at *
        generalize A.saleAt k = u at *
        generalize sumTo A.saleAt k = sm at *
        generalize A.price = pr at *
        have f1 : decide (u < y) = false := decide_eq_false (by omega)
        obtain ⟨M, hM⟩ : ∃ M, (if z < y then y else z) = M := ⟨_, rfl⟩
        have f2 : decide (M < u) = false := decide_eq_false (by rw [← hM]; split <;> omega)
        by_cases h3 : y < u
        · have f3 : decide (y < u) = true := decide_eq_true h3
          have hpe := hqp h3
          clear hqp HPP
          subst hpe
          go_wp2_with fail
          refine hwa.mono ?_
          rintro e w8 ⟨rfl, b8⟩
          have c8 := g0 w8 b8
          have L8 := Lr.below b8
          clear g0
          go_wp2_with fail
          refine Calls.mono (HPr.out w8 L8) ?_
          rintro e w9 ⟨rfl, b9⟩
          have B8 := br.trans (b8.mono br.size)
          go_wp2
          refine ⟨⟨k + 1, by omega, by norm_cast, by rw [HT.out], L8.below b9, (Xr.below b8).below b9, B8.trans (b9.mono B8.size)⟩, ?_⟩
          simp [intOf]; omega
        · have f3 : decide (y < u) = false := decide_eq_false h3
          clear hqp
          go_wp2_with fail
          refine hwa.mono ?_
          rintro e w8 ⟨rfl, b8⟩
          have c8 := g0 w8 b8
          have L8 := Lr.below b8
          clear g0
          go_wp2
          refine ⟨⟨k + 1, by omega, by norm_cast, by rw [HT.out], L8, Xr.below b8, br.trans (b8.mono br.size)⟩, ?_⟩
          simp [intOf]; omega
      · have hd : decide ((k : Int) < 4) = false := by simp only [decide_eq_false_iff_not]; omega
        have hk4 : k = 4 := by omega
        subst hk4
        have hal := HSo.out.all
        have hmo := HSo.out.most
        have hpr := HSo.out.pr
        rw [HPP.out] at hpr
        generalize sumTo A.saleAt 4 = sm at *
        have hro := round_calls wr Lr
        have HPr : Hid _ := fun wx (hx : Lc wx p b A) => price_calls wx hx
        have HRo : Hid _ := fun wx (hx : Lc wx p b A) => round_calls wx hx
        have HDe : Hid _ := fun wx (hx : Lc wx p b A) => demand_calls wx hx
        generalize A.price = pr at *
        generalize A.want = wt at *
        generalize hSS : A.supply = SS at *
        have e1 : decide (SS < sm) = false := decide_eq_false (by omega)
        rcases hpr with hpr | ⟨h1, h2, h3, h4⟩
        · clear HPP
          subst hpr
          by_cases h3 : 1 < A.round
          · have e3 : decide (1 < A.round) = true := decide_eq_true h3
            have e4 := hal h3
            clear hal
            subst e4
            go_wp2_with fail
            refine hro.mono ?_
            rintro e w8 ⟨rfl, rfl⟩
            go_wp2_with fail
            refine Calls.mono (HPr.out w8 Lr) ?_
            rintro e w9 ⟨rfl, b9⟩
            go_wp2
            go_ret
            exact ⟨by simp, br.trans (b9.mono br.size)⟩
          · have e3 : decide (1 < A.round) = false := decide_eq_false h3
            clear hal
            go_wp2_with fail
            refine hro.mono ?_
            rintro e w8 ⟨rfl, rfl⟩
            go_wp2_with fail
            refine Calls.mono (HPr.out w8 Lr) ?_
            rintro e w9 ⟨rfl, b9⟩
            go_wp2
            go_ret
            exact ⟨by simp, br.trans (b9.mono br.size)⟩
        · have e3 : decide (1 < A.round) = true := decide_eq_true h3
          have e4 := hal h3
          clear hal
          subst e4
          clear HPP
          subst h2
          have e5 : (pr - 3 == pr) = false := by simpa using h1
          have e7 : decide (wt < sm) = true := decide_eq_true h4
          clear h1
          go_wp2_with fail
          refine hro.mono ?_
          rintro e w8 ⟨rfl, rfl⟩
          go_wp2_with fail
          refine Calls.mono (HPr.out w8 Lr) ?_
          rintro e w9 ⟨rfl, b9⟩
          have L9 := Lr.below b9
          have B9 := br.trans (b9.mono br.size)
          go_wp2_with fail
          refine Calls.mono (HPr.out w9 L9) ?_
          rintro e w10 ⟨rfl, b10⟩
          have L10 := L9.below b10
          have B10 := B9.trans (b10.mono B9.size)
          go_wp2_with fail
          refine Calls.mono (HRo.out w10 L10) ?_
          rintro e w11 ⟨rfl, rfl⟩
          go_wp2_with fail
          refine Calls.mono (HDe.out w11 L10) ?_
          rintro e w12 ⟨rfl, b12⟩
          have B12 := B10.trans (b12.mono B10.size)
          go_wp2_with fail
          refine (HA.out _).mono ?_
          rintro e w13 ⟨rfl, b13⟩
          go_wp2
          go_ret
          exact ⟨rfl, B12.trans (b13.mono B12.size)⟩
end Go.Proofs.Ytalganihjgkmeaa
