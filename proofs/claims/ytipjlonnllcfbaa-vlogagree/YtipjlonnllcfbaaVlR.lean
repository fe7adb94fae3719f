/- Two logs side by side; the walk of the law. -/
import Derived.Test.YtipjlonnllcfbaaVlQ
import Derived.Test.YtipjlonnllcfbaaOpS
namespace Go.Proofs.Ytipjlonnllcfbaa
open Go.Shelf Go.RowKit Go.Lib Go.Sort
open Go.ChangeMaps (setBlock)
set_option linter.unusedSimpArgs false
set_option linter.unusedVariables false

theorem keepLog {w w' : World} {pa pb : Nat} {ma ma' mb : Nat → Option Nat} {La Lb : Lv} (ha : Lg w pa ma La) (hb : Lg w pb mb Lb) (hs : Stp pa ma w ma' w') (hne : pb ≠ pa) (hap : ∀ i j x, i < 17 → j < 17 → ma i = some x → mb j = some x → False) : Lg w' pb mb Lb := by
  obtain ⟨ca, hBa, _⟩ := ha.blk
  obtain ⟨cb, hBb, _⟩ := hb.blk
  refine hb.keep (hs.block pb hb.lt hne (fun j hj e => ?_)) (fun j x hj e => hs.block x (hb.mlt hj e) ?_ (fun i hi e2 => hap i j x hi hj e2 e)) (fun g cs hB => hs.block g hB.lt (ha.sne hB) (fun j hj e => ha.smn hB hj e rfl))
  · have := ha.maps j hj
    rw [e] at this
    exact this.blk hBb rfl
  · have := hb.maps j hj
    rw [e] at this
    exact this.blk hBa
theorem keepApart {w w' : World} {pa pb : Nat} {ma ma' mb : Nat → Option Nat} {Lb : Lv} (hb : Lg w pb mb Lb) (hs : Stp pa ma w ma' w') (hap : ∀ i j x, i < 17 → j < 17 → ma i = some x → mb j = some x → False) : ∀ i j x, i < 17 → j < 17 → ma' i = some x → mb j = some x → False := fun i j x hi hj e1 e2 => by
  rcases hs.new i x hi e1 with ⟨i0, hi0, e⟩ | e
  · exact hap i0 j x hi0 hj e e2
  · have := hb.mlt hj e2; omega
/-- Two logs that share nothing. -/
structure Two (B : Nat) (w0 w : World) (pa : Nat) (ma : Nat → Option Nat) (La : Lv) (pb : Nat) (mb : Nat → Option Nat) (Lb : Lv) : Prop where
  a : Ats B w0 w pa ma La
  b : Ats B w0 w pb mb Lb
  ne : pb ≠ pa
  ap : ∀ i j x, i < 17 → j < 17 → ma i = some x → mb j = some x → False
section
variable {B : Nat} {w0 w w' : World} {pa pb : Nat} {ma mb m' : Nat → Option Nat} {La Lb L' : Lv}
theorem Two.stepA (h : Two B w0 w pa ma La pb mb Lb) (hl : Lg w' pa m' L') (hs : Stp pa ma w m' w') (hi : LInv L') (hf : Fl L') : Two B w0 w' pa m' L' pb mb Lb :=
  ⟨h.a.step hl hs hi hf, ⟨keepLog h.a.lg h.b.lg hs h.ne h.ap, (h.a.step hl hs hi hf).bel, h.b.pb, h.b.mb, h.b.inv, h.b.fl⟩, h.ne, keepApart h.b.lg hs h.ap⟩
theorem Two.stepB (h : Two B w0 w pa ma La pb mb Lb) (hl : Lg w' pb m' L') (hs : Stp pb mb w m' w') (hi : LInv L') (hf : Fl L') : Two B w0 w' pa ma La pb m' L' :=
  ⟨⟨keepLog h.b.lg h.a.lg hs h.ne.symm (fun i j x hi hj e1 e2 => h.ap j i x hj hi e2 e1), (h.b.step hl hs hi hf).bel, h.a.pb, h.a.mb, h.a.inv, h.a.fl⟩, h.b.step hl hs hi hf, h.ne, fun i j x hi hj e1 e2 => keepApart h.a.lg hs (fun i j x hi hj e1 e2 => h.ap j i x hj hi e2 e1) j i x hj hi e2 e1⟩
theorem Two.below (h : Two B w0 w pa ma La pb mb Lb) (hb : Below w.heap.size w w') : Two B w0 w' pa ma La pb mb Lb := ⟨h.a.below hb, h.b.below hb, h.ne, h.ap⟩
end
abbrev Txs (w : World) (v : Value) (l : List ByteArray) : Prop := Elems 1 (fun s : ByteArray => [.string s]) (fun s => s.size ≤ 140737488351232) w v l
set_option maxHeartbeats 16000000 in
set_option maxRecDepth 100000 in
theorem agree1 (f : Int) (hf : arn f 4 = 0) (m t : ByteArray) (v : Value) (l : List ByteArray) (w : World) (hl : Txs w v l) (zl : l.length * 16 ≤ 140737488351232) (z1 : m.size ≤ 140737488351232) (z2 : t.size ≤ 140737488351232) :
    Calls Try.prog 3 #[.int .i64 f, .string m, .string t, v] w fun e w' => e = .returned (.bool true) ∧ Below w.heap.size w w' := by
  obtain ⟨va, vcap, rfl, hc⟩ := hl.any
  have HC : Hid _ := hc
  have hzm : m.size ≤ 281474976710656 := by omega
  have hzt : t.size ≤ 281474976710656 := by omega
  have HAr := around_calls f 4 w (by decide) (by decide)
  rw [hf] at HAr
  have HN := new_calls 4 (Or.inl rfl)
  clear hl hc
  have enter : True := trivial
  go_enter Try.func3, Try.ntmps3
  go_wp2_with fail
  refine HAr.mono ?_
  rintro e wa ⟨rfl, hwa⟩
  obtain rfl := hwa.symm
  go_wp2_with fail
  refine (HN _).mono ?_
  rintro e w1 ⟨rfl, l1, b1, q1⟩
  have A1 : Ats w.heap.size w w1 w.heap.size (fun _ => none) (Lv.new 4) := ⟨l1, b1, Nat.le_refl _, fun _ _ _ h => (by cases h), new_inv (Or.inl rfl), fun k => Nat.zero_le 13⟩
  go_wp2_with fail
  refine (HN _).mono ?_
  rintro e w2 ⟨rfl, l2, b2, q2⟩
  have A2 := A1.below b2
  have T2 : Two w.heap.size w w2 w.heap.size (fun _ => none) (Lv.new 4) w1.heap.size (fun _ => none) (Lv.new 4) := ⟨A2, ⟨l2, A2.bel, by omega, fun _ _ _ h => (by cases h), new_inv (Or.inl rfl), fun k => Nat.zero_le 13⟩, by omega, fun _ _ _ _ _ h => (by cases h)⟩
  have HT2 : Hid _ := T2
  have HB2 : Hid (Below w.heap.size w w2) := A2.bel
  have hw2 := A2.bel.size
  clear A1 A2 T2 l1 l2 b1 b2 HN
  by_cases gm : m = ⟨#[]⟩
  · subst gm
    clear HT2
    go_wp2_with fail
    refine (awake_calls _).mono ?_
    rintro e w3 ⟨rfl, b3⟩
    go_wp2
    go_ret
    exact ⟨rfl, HB2.out.trans (b3.mono hw2)⟩
  obtain ⟨em1, em2, em3⟩ := bne_text gm
  have em4 : m.toList.isEmpty = false := by simp [toList_ne gm]
  by_cases gt : t = ⟨#[]⟩
  · subst gt
    clear HT2
    go_wp2_with fail
    refine (awake_calls _).mono ?_
    rintro e w3 ⟨rfl, b3⟩
    go_wp2
    go_ret
    exact ⟨rfl, HB2.out.trans (b3.mono hw2)⟩
  obtain ⟨et1, et2, et3⟩ := bne_text gt
  have et4 : t.toList.isEmpty = false := by simp [toList_ne gt]
  have PA := propose_calls HT2.out.a.lg HT2.out.a.inv 0 1 m ⟨#[120]⟩ hzm (by decide)
  have IA := propose_ok HT2.out.a.inv HT2.out.a.fl 0 1 m ⟨#[120]⟩
  have HVA0 : Hid _ := vs_new (n := 4) gm (sayF 1 m l)
  have HVB0 : Hid _ := vs_new (n := 4) gt (sayF 1 t l)
  obtain ⟨ra, Hra⟩ : ∃ r, Hid ((Lv.new 4).propose 0 1 m ⟨#[120]⟩ = r) := ⟨_, rfl⟩
  obtain ⟨rb, Hrb⟩ : ∃ r, Hid ((Lv.new 4).propose 0 1 t ⟨#[120]⟩ = r) := ⟨_, rfl⟩
  rw [Hra.out] at PA IA HVA0
  rw [Hrb.out] at HVB0
  obtain ⟨La0, ca0⟩ := ra
  obtain ⟨Lb0, cb0⟩ := rb
  have HPA : Hid _ := PA
  have HIA : Hid _ := IA
  clear PA IA
  go_wp2_with fail
  refine Calls.mono HPA.out ?_
  rintro e w3 ⟨rfl, mp3, l3, s3⟩
  have T3 := Two.stepA HT2.out l3 s3 HIA.out.1 HIA.out.2.1
  have PB := propose_calls T3.b.lg T3.b.inv 0 1 t ⟨#[120]⟩ hzt (by decide)
  have IB := propose_ok T3.b.inv T3.b.fl 0 1 t ⟨#[120]⟩
  rw [Hrb.out] at PB IB
  have HPB : Hid _ := PB
  have HIB : Hid _ := IB
  have HT3 : Hid _ := T3
  clear PB IB T3 l3 s3 HT2 HPA HIA
  go_wp2_with fail
  refine Calls.mono HPB.out ?_
  rintro e w4 ⟨rfl, mp4, l4, s4⟩
  have HT4 : Hid _ := Two.stepB HT3.out l4 s4 HIB.out.1 HIB.out.2.1
  clear l4 s4 HT3 HPB HIB Hra Hrb HB2
  go_wp2_with fail
  go_loopw [15] (fun iv wr => ∃ (i : Nat) (ma mb : Nat → Option Nat) (La Lb : Lv), i ≤ 4 ∧ iv = .int .i64 i ∧ Hid (Two w.heap.size w wr w.heap.size ma La w1.heap.size mb Lb) ∧ Hid (Vs La 4 m (sayF 1 m l) i) ∧ Hid (Vs Lb 4 t (sayF 1 t l) i)) (fun iv _ => 4 - (intOf iv).toNat)
  case atStart => exact ⟨0, mp3, mp4, La0, Lb0, by decide, rfl, HT4, HVA0, HVB0⟩
  case round =>
    obtain ⟨i, ma, mb, La, Lb, hi, rfl, HT, HVA, HVB⟩ := hrel
    clear HVA0 HVB0 HT4
    by_cases hlt : i < 4
    · have hd : decide ((i : Int) < 4) = true := by simp only [decide_eq_true_eq]; omega
      by_cases hik : i < 1
      · have hd2 : decide (1 ≤ (i : Int)) = false := by simp only [decide_eq_false_iff_not]; omega
        have HXsA : Hid (m.size ≤ 140737488351232) := by first | exact z1 | exact hsz
        have HXsB : Hid (t.size ≤ 140737488351232) := by first | exact z2 | exact hsz
        have CVA : Hid _ := fun wx => act_of 2 (i : Int) 1 m wx
        go_wp2_with fail
        refine (CVA.out _).mono ?_
        rintro e wvA ⟨rfl, bvA⟩
        have TA := Two.below HT.out bvA
        have DA := done2_calls TA.a.lg TA.a.inv 2 (i : Int) 0 1 m ⟨#[109]⟩ (by decide) (HXsA.out) (by decide)
        have JA := vote_ok TA.a.inv TA.a.fl ((i : Int), ⟨#[109]⟩, ⟨#[115]⟩) 3 0 1 m
        have HTvA : Hid _ := TA
        have HDA : Hid _ := DA
        have HJA : Hid _ := JA
        clear TA DA JA bvA CVA
        obtain ⟨rA, HrA⟩ : ∃ r, Hid (La.vote ((i : Int), ⟨#[109]⟩, ⟨#[115]⟩) 3 0 1 m = r) := ⟨_, rfl⟩
        rw [HrA.out] at HDA HJA
        obtain ⟨LA1, cA1⟩ := rA
        go_wp2_with fail
        refine Calls.mono HDA.out ?_
        rintro e wwA ⟨rfl, mpA, lA, sA⟩
        have HTA : Hid _ := Two.stepA HTvA.out lA sA HJA.out.1 HJA.out.2.1
        clear lA sA HTvA HDA HJA
        have CVB : Hid _ := fun wx => act_of 2 (i : Int) 1 t wx
        go_wp2_with fail
        refine (CVB.out _).mono ?_
        rintro e wvB ⟨rfl, bvB⟩
        have TB := Two.below HTA.out bvB
        have DB := done2_calls TB.b.lg TB.b.inv 2 (i : Int) 0 1 t ⟨#[109]⟩ (by decide) (HXsB.out) (by decide)
        have JB := vote_ok TB.b.inv TB.b.fl ((i : Int), ⟨#[109]⟩, ⟨#[115]⟩) 3 0 1 t
        have HTvB : Hid _ := TB
        have HDB : Hid _ := DB
        have HJB : Hid _ := JB
        clear TB DB JB bvB CVB
        obtain ⟨rB, HrB⟩ : ∃ r, Hid (Lb.vote ((i : Int), ⟨#[109]⟩, ⟨#[115]⟩) 3 0 1 t = r) := ⟨_, rfl⟩
        rw [HrB.out] at HDB HJB
        obtain ⟨LB1, cB1⟩ := rB
        go_wp2_with fail
        refine Calls.mono HDB.out ?_
        rintro e wwB ⟨rfl, mpB, lB, sB⟩
        have HTB : Hid _ := Two.stepB HTvB.out lB sB HJB.out.1 HJB.out.2.1
        clear lB sB HTvB HDB HJB
        have HVa : Hid (Vs LA1 4 m (sayF 1 m l) (i + 1)) := by
          have := vs_vote HVA.out (show i < 4 by omega) (x := m) (by unfold sayF; rw [if_pos hik])
          rw [HrA.out] at this; exact this
        have HVb : Hid (Vs LB1 4 t (sayF 1 t l) (i + 1)) := by
          have := vs_vote HVB.out (show i < 4 by omega) (x := t) (by unfold sayF; rw [if_pos hik])
          rw [HrB.out] at this; exact this
        clear HVA HVB HrA HrB HTA HT
        go_wp2
        refine ⟨⟨i + 1, mpA, mpB, LA1, LB1, by omega, by norm_cast, HTB, HVa, HVb⟩, by simp [intOf]; omega⟩
      · have hd2 : decide (1 ≤ (i : Int)) = true := by simp only [decide_eq_true_eq]; omega
        have hw : IntKind.i64.wrap ((i : Int) - 1) = (i : Int) - 1 := by rw [IntKind.wrap_i64]; omega
        by_cases hin : i - 1 < l.length
        · have hd3 : decide ((l.length : Int) ≤ (i : Int) - 1) = false := by simp only [decide_eq_false_iff_not]; omega
          have hn1 : 0 ≤ (i : Int) - 1 := by omega
          have hn2 : (i : Int) - 1 < (l.length : Int) := by omega
          have hn3 : ((i : Int) - 1).toNat = i - 1 := by omega
          obtain ⟨g, off, hga, _, hg, hcel, hsz⟩ := HC.out (i - 1) hin
          subst hga
          have hl0 : l[i - 1]? = some l[i - 1] := by simp [hin]
          obtain ⟨X, HX⟩ : ∃ X, Hid (l[i - 1] = X) := ⟨l[i - 1], rfl⟩
          rw [HX.out] at hcel hsz hl0
          have Hl0 : Hid _ := hl0
          clear hl0
          have cx : wr.cell? ⟨g, off + (i - 1), none⟩ = some (.string X) := by
            have h0 := hcel 0 _ rfl
            have := (HT.out.a.bel.cell (p := ⟨g, off + (i - 1) * 1 + 0, none⟩) hg).trans h0
            rwa [Nat.mul_one, Nat.add_zero] at this
          clear hcel
          go_wp2_with fail
          go_quiet (fail)
          have HTd : Hid _ := Two.below HT.out (show Below wr.heap.size wr (wr.drewN nq) from ⟨rfl, rfl, rfl, Nat.le_refl _, fun _ _ => rfl⟩)
          clear HT cx
          have HT := HTd
          clear HTd
          have HXsA : Hid (X.size ≤ 140737488351232) := by first | exact z1 | exact hsz
          have HXsB : Hid (X.size ≤ 140737488351232) := by first | exact z2 | exact hsz
          have CVA : Hid _ := fun wx => act_of 2 (i : Int) 1 X wx
          go_wp2_with fail
          refine (CVA.out _).mono ?_
          rintro e wvA ⟨rfl, bvA⟩
          have TA := Two.below HT.out bvA
          have DA := done2_calls TA.a.lg TA.a.inv 2 (i : Int) 0 1 X ⟨#[109]⟩ (by decide) (HXsA.out) (by decide)
          have JA := vote_ok TA.a.inv TA.a.fl ((i : Int), ⟨#[109]⟩, ⟨#[115]⟩) 3 0 1 X
          have HTvA : Hid _ := TA
          have HDA : Hid _ := DA
          have HJA : Hid _ := JA
          clear TA DA JA bvA CVA
          obtain ⟨rA, HrA⟩ : ∃ r, Hid (La.vote ((i : Int), ⟨#[109]⟩, ⟨#[115]⟩) 3 0 1 X = r) := ⟨_, rfl⟩
          rw [HrA.out] at HDA HJA
          obtain ⟨LA1, cA1⟩ := rA
          go_wp2_with fail
          refine Calls.mono HDA.out ?_
          rintro e wwA ⟨rfl, mpA, lA, sA⟩
          have HTA : Hid _ := Two.stepA HTvA.out lA sA HJA.out.1 HJA.out.2.1
          clear lA sA HTvA HDA HJA
          have CVB : Hid _ := fun wx => act_of 2 (i : Int) 1 X wx
          go_wp2_with fail
          refine (CVB.out _).mono ?_
          rintro e wvB ⟨rfl, bvB⟩
          have TB := Two.below HTA.out bvB
          have DB := done2_calls TB.b.lg TB.b.inv 2 (i : Int) 0 1 X ⟨#[109]⟩ (by decide) (HXsB.out) (by decide)
          have JB := vote_ok TB.b.inv TB.b.fl ((i : Int), ⟨#[109]⟩, ⟨#[115]⟩) 3 0 1 X
          have HTvB : Hid _ := TB
          have HDB : Hid _ := DB
          have HJB : Hid _ := JB
          clear TB DB JB bvB CVB
          obtain ⟨rB, HrB⟩ : ∃ r, Hid (Lb.vote ((i : Int), ⟨#[109]⟩, ⟨#[115]⟩) 3 0 1 X = r) := ⟨_, rfl⟩
          rw [HrB.out] at HDB HJB
          obtain ⟨LB1, cB1⟩ := rB
          go_wp2_with fail
          refine Calls.mono HDB.out ?_
          rintro e wwB ⟨rfl, mpB, lB, sB⟩
          have HTB : Hid _ := Two.stepB HTvB.out lB sB HJB.out.1 HJB.out.2.1
          clear lB sB HTvB HDB HJB
          have HVa : Hid (Vs LA1 4 m (sayF 1 m l) (i + 1)) := by
            have := vs_vote HVA.out (show i < 4 by omega) (x := X) (by unfold sayF; rw [if_neg hik]; exact Hl0.out)
            rw [HrA.out] at this; exact this
          have HVb : Hid (Vs LB1 4 t (sayF 1 t l) (i + 1)) := by
            have := vs_vote HVB.out (show i < 4 by omega) (x := X) (by unfold sayF; rw [if_neg hik]; exact Hl0.out)
            rw [HrB.out] at this; exact this
          clear HVA HVB HrA HrB HTA HT
          go_wp2
          refine ⟨⟨i + 1, mpA, mpB, LA1, LB1, by omega, by norm_cast, HTB, HVa, HVb⟩, by simp [intOf]; omega⟩
        · have hd3 : decide ((l.length : Int) ≤ (i : Int) - 1) = true := by simp only [decide_eq_true_eq]; omega
          have HVa : Hid _ := vs_skip HVA.out (show sayF 1 m l i = none by unfold sayF; rw [if_neg hik]; simp; omega)
          have HVb : Hid _ := vs_skip HVB.out (show sayF 1 t l i = none by unfold sayF; rw [if_neg hik]; simp; omega)
          clear HVA HVB
          go_wp2
          refine ⟨⟨i + 1, ma, mb, La, Lb, by omega, by norm_cast, HT, HVa, HVb⟩, by simp [intOf]; omega⟩
    · have hd : decide ((i : Int) < 4) = false := by simp only [decide_eq_false_iff_not]; omega
      have hiN : i = 4 := by omega
      subst hiN
      have QA := prepd_calls HT.out.a.lg HT.out.a.inv 1
      have HMa : Hid _ := vs_prep HVA.out
      have HMb : Hid _ := vs_prep HVB.out
      obtain ⟨ba, Hba⟩ : ∃ b, Hid ((La.wi 1 && (La.sl (pla 1)).prep La.n) = b) := ⟨_, rfl⟩
      obtain ⟨bb, Hbb⟩ : ∃ b, Hid ((Lb.wi 1 && (Lb.sl (pla 1)).prep Lb.n) = b) := ⟨_, rfl⟩
      rw [Hba.out] at QA HMa
      rw [Hbb.out] at HMb
      have HQA : Hid _ := QA
      clear QA HVA HVB
      go_wp2_with fail
      refine Calls.mono HQA.out ?_
      rintro e w5 ⟨rfl, b5⟩
      have T5 := Two.below HT.out b5
      have hz5 := T5.a.bel.size
      have QB := prepd_calls T5.b.lg T5.b.inv 1
      rw [Hbb.out] at QB
      have HQB : Hid _ := QB
      have HB5 : Hid (Below w.heap.size w w5) := T5.a.bel
      clear QB T5 b5 HT HQA
      cases ba with
      | false =>
        go_wp2_with fail
        refine (awake_calls _).mono ?_
        rintro e w6 ⟨rfl, b6⟩
        go_wp2
        go_ret
        exact ⟨rfl, HB5.out.trans (b6.mono hz5)⟩
      | true =>
        go_wp2_with fail
        refine Calls.mono HQB.out ?_
        rintro e w6 ⟨rfl, b6⟩
        have HB6 : Hid (Below w.heap.size w w6) := HB5.out.trans (b6.mono hz5)
        have hz6 := HB6.out.size
        clear b6 HQB
        cases bb with
        | false =>
          go_wp2_with fail
          refine (awake_calls _).mono ?_
          rintro e w7 ⟨rfl, b7⟩
          go_wp2
          go_ret
          exact ⟨rfl, HB6.out.trans (b7.mono hz6)⟩
        | true =>
          have hmt : m = t := meet (k := 1) (vs := l) (HMa.out (by first | trivial | rfl)) (HMb.out (by first | trivial | rfl))
          subst hmt
          go_wp2_with fail
          refine (awake_calls _).mono ?_
          rintro e w7 ⟨rfl, b7⟩
          go_wp2
          go_ret
          exact ⟨rfl, HB6.out.trans (b7.mono hz6)⟩
set_option maxHeartbeats 16000000 in
set_option maxRecDepth 100000 in
theorem agree2 (f : Int) (hf : arn f 4 = 1) (m t : ByteArray) (v : Value) (l : List ByteArray) (w : World) (hl : Txs w v l) (zl : l.length * 16 ≤ 140737488351232) (z1 : m.size ≤ 140737488351232) (z2 : t.size ≤ 140737488351232) :
    Calls Try.prog 3 #[.int .i64 f, .string m, .string t, v] w fun e w' => e = .returned (.bool true) ∧ Below w.heap.size w w' := by
  obtain ⟨va, vcap, rfl, hc⟩ := hl.any
  have HC : Hid _ := hc
  have hzm : m.size ≤ 281474976710656 := by omega
  have hzt : t.size ≤ 281474976710656 := by omega
  have HAr := around_calls f 4 w (by decide) (by decide)
  rw [hf] at HAr
  have HN := new_calls 7 (Or.inr (Or.inl rfl))
  clear hl hc
  have enter : True := trivial
  go_enter Try.func3, Try.ntmps3
  go_wp2_with fail
  refine HAr.mono ?_
  rintro e wa ⟨rfl, hwa⟩
  obtain rfl := hwa.symm
  go_wp2_with fail
  refine (HN _).mono ?_
  rintro e w1 ⟨rfl, l1, b1, q1⟩
  have A1 : Ats w.heap.size w w1 w.heap.size (fun _ => none) (Lv.new 7) := ⟨l1, b1, Nat.le_refl _, fun _ _ _ h => (by cases h), new_inv (Or.inr (Or.inl rfl)), fun k => Nat.zero_le 13⟩
  go_wp2_with fail
  refine (HN _).mono ?_
  rintro e w2 ⟨rfl, l2, b2, q2⟩
  have A2 := A1.below b2
  have T2 : Two w.heap.size w w2 w.heap.size (fun _ => none) (Lv.new 7) w1.heap.size (fun _ => none) (Lv.new 7) := ⟨A2, ⟨l2, A2.bel, by omega, fun _ _ _ h => (by cases h), new_inv (Or.inr (Or.inl rfl)), fun k => Nat.zero_le 13⟩, by omega, fun _ _ _ _ _ h => (by cases h)⟩
  have HT2 : Hid _ := T2
  have HB2 : Hid (Below w.heap.size w w2) := A2.bel
  have hw2 := A2.bel.size
  clear A1 A2 T2 l1 l2 b1 b2 HN
  by_cases gm : m = ⟨#[]⟩
  · subst gm
    clear HT2
    go_wp2_with fail
    refine (awake_calls _).mono ?_
    rintro e w3 ⟨rfl, b3⟩
    go_wp2
    go_ret
    exact ⟨rfl, HB2.out.trans (b3.mono hw2)⟩
  obtain ⟨em1, em2, em3⟩ := bne_text gm
  have em4 : m.toList.isEmpty = false := by simp [toList_ne gm]
  by_cases gt : t = ⟨#[]⟩
  · subst gt
    clear HT2
    go_wp2_with fail
    refine (awake_calls _).mono ?_
    rintro e w3 ⟨rfl, b3⟩
    go_wp2
    go_ret
    exact ⟨rfl, HB2.out.trans (b3.mono hw2)⟩
  obtain ⟨et1, et2, et3⟩ := bne_text gt
  have et4 : t.toList.isEmpty = false := by simp [toList_ne gt]
  have PA := propose_calls HT2.out.a.lg HT2.out.a.inv 0 1 m ⟨#[120]⟩ hzm (by decide)
  have IA := propose_ok HT2.out.a.inv HT2.out.a.fl 0 1 m ⟨#[120]⟩
  have HVA0 : Hid _ := vs_new (n := 7) gm (sayF 2 m l)
  have HVB0 : Hid _ := vs_new (n := 7) gt (sayF 2 t l)
  obtain ⟨ra, Hra⟩ : ∃ r, Hid ((Lv.new 7).propose 0 1 m ⟨#[120]⟩ = r) := ⟨_, rfl⟩
  obtain ⟨rb, Hrb⟩ : ∃ r, Hid ((Lv.new 7).propose 0 1 t ⟨#[120]⟩ = r) := ⟨_, rfl⟩
  rw [Hra.out] at PA IA HVA0
  rw [Hrb.out] at HVB0
  obtain ⟨La0, ca0⟩ := ra
  obtain ⟨Lb0, cb0⟩ := rb
  have HPA : Hid _ := PA
  have HIA : Hid _ := IA
  clear PA IA
  go_wp2_with fail
  refine Calls.mono HPA.out ?_
  rintro e w3 ⟨rfl, mp3, l3, s3⟩
  have T3 := Two.stepA HT2.out l3 s3 HIA.out.1 HIA.out.2.1
  have PB := propose_calls T3.b.lg T3.b.inv 0 1 t ⟨#[120]⟩ hzt (by decide)
  have IB := propose_ok T3.b.inv T3.b.fl 0 1 t ⟨#[120]⟩
  rw [Hrb.out] at PB IB
  have HPB : Hid _ := PB
  have HIB : Hid _ := IB
  have HT3 : Hid _ := T3
  clear PB IB T3 l3 s3 HT2 HPA HIA
  go_wp2_with fail
  refine Calls.mono HPB.out ?_
  rintro e w4 ⟨rfl, mp4, l4, s4⟩
  have HT4 : Hid _ := Two.stepB HT3.out l4 s4 HIB.out.1 HIB.out.2.1
  clear l4 s4 HT3 HPB HIB Hra Hrb HB2
  go_wp2_with fail
  go_loopw [15] (fun iv wr => ∃ (i : Nat) (ma mb : Nat → Option Nat) (La Lb : Lv), i ≤ 7 ∧ iv = .int .i64 i ∧ Hid (Two w.heap.size w wr w.heap.size ma La w1.heap.size mb Lb) ∧ Hid (Vs La 7 m (sayF 2 m l) i) ∧ Hid (Vs Lb 7 t (sayF 2 t l) i)) (fun iv _ => 7 - (intOf iv).toNat)
  case atStart => exact ⟨0, mp3, mp4, La0, Lb0, by decide, rfl, HT4, HVA0, HVB0⟩
  case round =>
    obtain ⟨i, ma, mb, La, Lb, hi, rfl, HT, HVA, HVB⟩ := hrel
    clear HVA0 HVB0 HT4
    by_cases hlt : i < 7
    · have hd : decide ((i : Int) < 7) = true := by simp only [decide_eq_true_eq]; omega
      by_cases hik : i < 2
      · have hd2 : decide (2 ≤ (i : Int)) = false := by simp only [decide_eq_false_iff_not]; omega
        have HXsA : Hid (m.size ≤ 140737488351232) := by first | exact z1 | exact hsz
        have HXsB : Hid (t.size ≤ 140737488351232) := by first | exact z2 | exact hsz
        have CVA : Hid _ := fun wx => act_of 2 (i : Int) 1 m wx
        go_wp2_with fail
        refine (CVA.out _).mono ?_
        rintro e wvA ⟨rfl, bvA⟩
        have TA := Two.below HT.out bvA
        have DA := done2_calls TA.a.lg TA.a.inv 2 (i : Int) 0 1 m ⟨#[109]⟩ (by decide) (HXsA.out) (by decide)
        have JA := vote_ok TA.a.inv TA.a.fl ((i : Int), ⟨#[109]⟩, ⟨#[115]⟩) 3 0 1 m
        have HTvA : Hid _ := TA
        have HDA : Hid _ := DA
        have HJA : Hid _ := JA
        clear TA DA JA bvA CVA
        obtain ⟨rA, HrA⟩ : ∃ r, Hid (La.vote ((i : Int), ⟨#[109]⟩, ⟨#[115]⟩) 3 0 1 m = r) := ⟨_, rfl⟩
        rw [HrA.out] at HDA HJA
        obtain ⟨LA1, cA1⟩ := rA
        go_wp2_with fail
        refine Calls.mono HDA.out ?_
        rintro e wwA ⟨rfl, mpA, lA, sA⟩
        have HTA : Hid _ := Two.stepA HTvA.out lA sA HJA.out.1 HJA.out.2.1
        clear lA sA HTvA HDA HJA
        have CVB : Hid _ := fun wx => act_of 2 (i : Int) 1 t wx
        go_wp2_with fail
        refine (CVB.out _).mono ?_
        rintro e wvB ⟨rfl, bvB⟩
        have TB := Two.below HTA.out bvB
        have DB := done2_calls TB.b.lg TB.b.inv 2 (i : Int) 0 1 t ⟨#[109]⟩ (by decide) (HXsB.out) (by decide)
        have JB := vote_ok TB.b.inv TB.b.fl ((i : Int), ⟨#[109]⟩, ⟨#[115]⟩) 3 0 1 t
        have HTvB : Hid _ := TB
        have HDB : Hid _ := DB
        have HJB : Hid _ := JB
        clear TB DB JB bvB CVB
        obtain ⟨rB, HrB⟩ : ∃ r, Hid (Lb.vote ((i : Int), ⟨#[109]⟩, ⟨#[115]⟩) 3 0 1 t = r) := ⟨_, rfl⟩
        rw [HrB.out] at HDB HJB
        obtain ⟨LB1, cB1⟩ := rB
        go_wp2_with fail
        refine Calls.mono HDB.out ?_
        rintro e wwB ⟨rfl, mpB, lB, sB⟩
        have HTB : Hid _ := Two.stepB HTvB.out lB sB HJB.out.1 HJB.out.2.1
        clear lB sB HTvB HDB HJB
        have HVa : Hid (Vs LA1 7 m (sayF 2 m l) (i + 1)) := by
          have := vs_vote HVA.out (show i < 7 by omega) (x := m) (by unfold sayF; rw [if_pos hik])
          rw [HrA.out] at this; exact this
        have HVb : Hid (Vs LB1 7 t (sayF 2 t l) (i + 1)) := by
          have := vs_vote HVB.out (show i < 7 by omega) (x := t) (by unfold sayF; rw [if_pos hik])
          rw [HrB.out] at this; exact this
        clear HVA HVB HrA HrB HTA HT
        go_wp2
        refine ⟨⟨i + 1, mpA, mpB, LA1, LB1, by omega, by norm_cast, HTB, HVa, HVb⟩, by simp [intOf]; omega⟩
      · have hd2 : decide (2 ≤ (i : Int)) = true := by simp only [decide_eq_true_eq]; omega
        have hw : IntKind.i64.wrap ((i : Int) - 2) = (i : Int) - 2 := by rw [IntKind.wrap_i64]; omega
        by_cases hin : i - 2 < l.length
        · have hd3 : decide ((l.length : Int) ≤ (i : Int) - 2) = false := by simp only [decide_eq_false_iff_not]; omega
          have hn1 : 0 ≤ (i : Int) - 2 := by omega
          have hn2 : (i : Int) - 2 < (l.length : Int) := by omega
          have hn3 : ((i : Int) - 2).toNat = i - 2 := by omega
          obtain ⟨g, off, hga, _, hg, hcel, hsz⟩ := HC.out (i - 2) hin
          subst hga
          have hl0 : l[i - 2]? = some l[i - 2] := by simp [hin]
          obtain ⟨X, HX⟩ : ∃ X, Hid (l[i - 2] = X) := ⟨l[i - 2], rfl⟩
          rw [HX.out] at hcel hsz hl0
          have Hl0 : Hid _ := hl0
          clear hl0
          have cx : wr.cell? ⟨g, off + (i - 2), none⟩ = some (.string X) := by
            have h0 := hcel 0 _ rfl
            have := (HT.out.a.bel.cell (p := ⟨g, off + (i - 2) * 1 + 0, none⟩) hg).trans h0
            rwa [Nat.mul_one, Nat.add_zero] at this
          clear hcel
          go_wp2_with fail
          go_quiet (fail)
          have HTd : Hid _ := Two.below HT.out (show Below wr.heap.size wr (wr.drewN nq) from ⟨rfl, rfl, rfl, Nat.le_refl _, fun _ _ => rfl⟩)
          clear HT cx
          have HT := HTd
          clear HTd
          have HXsA : Hid (X.size ≤ 140737488351232) := by first | exact z1 | exact hsz
          have HXsB : Hid (X.size ≤ 140737488351232) := by first | exact z2 | exact hsz
          have CVA : Hid _ := fun wx => act_of 2 (i : Int) 1 X wx
          go_wp2_with fail
          refine (CVA.out _).mono ?_
          rintro e wvA ⟨rfl, bvA⟩
          have TA := Two.below HT.out bvA
          have DA := done2_calls TA.a.lg TA.a.inv 2 (i : Int) 0 1 X ⟨#[109]⟩ (by decide) (HXsA.out) (by decide)
          have JA := vote_ok TA.a.inv TA.a.fl ((i : Int), ⟨#[109]⟩, ⟨#[115]⟩) 3 0 1 X
          have HTvA : Hid _ := TA
          have HDA : Hid _ := DA
          have HJA : Hid _ := JA
          clear TA DA JA bvA CVA
          obtain ⟨rA, HrA⟩ : ∃ r, Hid (La.vote ((i : Int), ⟨#[109]⟩, ⟨#[115]⟩) 3 0 1 X = r) := ⟨_, rfl⟩
          rw [HrA.out] at HDA HJA
          obtain ⟨LA1, cA1⟩ := rA
          go_wp2_with fail
          refine Calls.mono HDA.out ?_
          rintro e wwA ⟨rfl, mpA, lA, sA⟩
          have HTA : Hid _ := Two.stepA HTvA.out lA sA HJA.out.1 HJA.out.2.1
          clear lA sA HTvA HDA HJA
          have CVB : Hid _ := fun wx => act_of 2 (i : Int) 1 X wx
          go_wp2_with fail
          refine (CVB.out _).mono ?_
          rintro e wvB ⟨rfl, bvB⟩
          have TB := Two.below HTA.out bvB
          have DB := done2_calls TB.b.lg TB.b.inv 2 (i : Int) 0 1 X ⟨#[109]⟩ (by decide) (HXsB.out) (by decide)
          have JB := vote_ok TB.b.inv TB.b.fl ((i : Int), ⟨#[109]⟩, ⟨#[115]⟩) 3 0 1 X
          have HTvB : Hid _ := TB
          have HDB : Hid _ := DB
          have HJB : Hid _ := JB
          clear TB DB JB bvB CVB
          obtain ⟨rB, HrB⟩ : ∃ r, Hid (Lb.vote ((i : Int), ⟨#[109]⟩, ⟨#[115]⟩) 3 0 1 X = r) := ⟨_, rfl⟩
          rw [HrB.out] at HDB HJB
          obtain ⟨LB1, cB1⟩ := rB
          go_wp2_with fail
          refine Calls.mono HDB.out ?_
          rintro e wwB ⟨rfl, mpB, lB, sB⟩
          have HTB : Hid _ := Two.stepB HTvB.out lB sB HJB.out.1 HJB.out.2.1
          clear lB sB HTvB HDB HJB
          have HVa : Hid (Vs LA1 7 m (sayF 2 m l) (i + 1)) := by
            have := vs_vote HVA.out (show i < 7 by omega) (x := X) (by unfold sayF; rw [if_neg hik]; exact Hl0.out)
            rw [HrA.out] at this; exact this
          have HVb : Hid (Vs LB1 7 t (sayF 2 t l) (i + 1)) := by
            have := vs_vote HVB.out (show i < 7 by omega) (x := X) (by unfold sayF; rw [if_neg hik]; exact Hl0.out)
            rw [HrB.out] at this; exact this
          clear HVA HVB HrA HrB HTA HT
          go_wp2
          refine ⟨⟨i + 1, mpA, mpB, LA1, LB1, by omega, by norm_cast, HTB, HVa, HVb⟩, by simp [intOf]; omega⟩
        · have hd3 : decide ((l.length : Int) ≤ (i : Int) - 2) = true := by simp only [decide_eq_true_eq]; omega
          have HVa : Hid _ := vs_skip HVA.out (show sayF 2 m l i = none by unfold sayF; rw [if_neg hik]; simp; omega)
          have HVb : Hid _ := vs_skip HVB.out (show sayF 2 t l i = none by unfold sayF; rw [if_neg hik]; simp; omega)
          clear HVA HVB
          go_wp2
          refine ⟨⟨i + 1, ma, mb, La, Lb, by omega, by norm_cast, HT, HVa, HVb⟩, by simp [intOf]; omega⟩
    · have hd : decide ((i : Int) < 7) = false := by simp only [decide_eq_false_iff_not]; omega
      have hiN : i = 7 := by omega
      subst hiN
      have QA := prepd_calls HT.out.a.lg HT.out.a.inv 1
      have HMa : Hid _ := vs_prep HVA.out
      have HMb : Hid _ := vs_prep HVB.out
      obtain ⟨ba, Hba⟩ : ∃ b, Hid ((La.wi 1 && (La.sl (pla 1)).prep La.n) = b) := ⟨_, rfl⟩
      obtain ⟨bb, Hbb⟩ : ∃ b, Hid ((Lb.wi 1 && (Lb.sl (pla 1)).prep Lb.n) = b) := ⟨_, rfl⟩
      rw [Hba.out] at QA HMa
      rw [Hbb.out] at HMb
      have HQA : Hid _ := QA
      clear QA HVA HVB
      go_wp2_with fail
      refine Calls.mono HQA.out ?_
      rintro e w5 ⟨rfl, b5⟩
      have T5 := Two.below HT.out b5
      have hz5 := T5.a.bel.size
      have QB := prepd_calls T5.b.lg T5.b.inv 1
      rw [Hbb.out] at QB
      have HQB : Hid _ := QB
      have HB5 : Hid (Below w.heap.size w w5) := T5.a.bel
      clear QB T5 b5 HT HQA
      cases ba with
      | false =>
        go_wp2_with fail
        refine (awake_calls _).mono ?_
        rintro e w6 ⟨rfl, b6⟩
        go_wp2
        go_ret
        exact ⟨rfl, HB5.out.trans (b6.mono hz5)⟩
      | true =>
        go_wp2_with fail
        refine Calls.mono HQB.out ?_
        rintro e w6 ⟨rfl, b6⟩
        have HB6 : Hid (Below w.heap.size w w6) := HB5.out.trans (b6.mono hz5)
        have hz6 := HB6.out.size
        clear b6 HQB
        cases bb with
        | false =>
          go_wp2_with fail
          refine (awake_calls _).mono ?_
          rintro e w7 ⟨rfl, b7⟩
          go_wp2
          go_ret
          exact ⟨rfl, HB6.out.trans (b7.mono hz6)⟩
        | true =>
          have hmt : m = t := meet (k := 2) (vs := l) (HMa.out (by first | trivial | rfl)) (HMb.out (by first | trivial | rfl))
          subst hmt
          go_wp2_with fail
          refine (awake_calls _).mono ?_
          rintro e w7 ⟨rfl, b7⟩
          go_wp2
          go_ret
          exact ⟨rfl, HB6.out.trans (b7.mono hz6)⟩
set_option maxHeartbeats 16000000 in
set_option maxRecDepth 100000 in
theorem agree3 (f : Int) (hf : arn f 4 = 2) (m t : ByteArray) (v : Value) (l : List ByteArray) (w : World) (hl : Txs w v l) (zl : l.length * 16 ≤ 140737488351232) (z1 : m.size ≤ 140737488351232) (z2 : t.size ≤ 140737488351232) :
    Calls Try.prog 3 #[.int .i64 f, .string m, .string t, v] w fun e w' => e = .returned (.bool true) ∧ Below w.heap.size w w' := by
  obtain ⟨va, vcap, rfl, hc⟩ := hl.any
  have HC : Hid _ := hc
  have hzm : m.size ≤ 281474976710656 := by omega
  have hzt : t.size ≤ 281474976710656 := by omega
  have HAr := around_calls f 4 w (by decide) (by decide)
  rw [hf] at HAr
  have HN := new_calls 10 (Or.inr (Or.inr (Or.inl rfl)))
  clear hl hc
  have enter : True := trivial
  go_enter Try.func3, Try.ntmps3
  go_wp2_with fail
  refine HAr.mono ?_
  rintro e wa ⟨rfl, hwa⟩
  obtain rfl := hwa.symm
  go_wp2_with fail
  refine (HN _).mono ?_
  rintro e w1 ⟨rfl, l1, b1, q1⟩
  have A1 : Ats w.heap.size w w1 w.heap.size (fun _ => none) (Lv.new 10) := ⟨l1, b1, Nat.le_refl _, fun _ _ _ h => (by cases h), new_inv (Or.inr (Or.inr (Or.inl rfl))), fun k => Nat.zero_le 13⟩
  go_wp2_with fail
  refine (HN _).mono ?_
  rintro e w2 ⟨rfl, l2, b2, q2⟩
  have A2 := A1.below b2
  have T2 : Two w.heap.size w w2 w.heap.size (fun _ => none) (Lv.new 10) w1.heap.size (fun _ => none) (Lv.new 10) := ⟨A2, ⟨l2, A2.bel, by omega, fun _ _ _ h => (by cases h), new_inv (Or.inr (Or.inr (Or.inl rfl))), fun k => Nat.zero_le 13⟩, by omega, fun _ _ _ _ _ h => (by cases h)⟩
  have HT2 : Hid _ := T2
  have HB2 : Hid (Below w.heap.size w w2) := A2.bel
  have hw2 := A2.bel.size
  clear A1 A2 T2 l1 l2 b1 b2 HN
  by_cases gm : m = ⟨#[]⟩
  · subst gm
    clear HT2
    go_wp2_with fail
    refine (awake_calls _).mono ?_
    rintro e w3 ⟨rfl, b3⟩
    go_wp2
    go_ret
    exact ⟨rfl, HB2.out.trans (b3.mono hw2)⟩
  obtain ⟨em1, em2, em3⟩ := bne_text gm
  have em4 : m.toList.isEmpty = false := by simp [toList_ne gm]
  by_cases gt : t = ⟨#[]⟩
  · subst gt
    clear HT2
    go_wp2_with fail
    refine (awake_calls _).mono ?_
    rintro e w3 ⟨rfl, b3⟩
    go_wp2
    go_ret
    exact ⟨rfl, HB2.out.trans (b3.mono hw2)⟩
  obtain ⟨et1, et2, et3⟩ := bne_text gt
  have et4 : t.toList.isEmpty = false := by simp [toList_ne gt]
  have PA := propose_calls HT2.out.a.lg HT2.out.a.inv 0 1 m ⟨#[120]⟩ hzm (by decide)
  have IA := propose_ok HT2.out.a.inv HT2.out.a.fl 0 1 m ⟨#[120]⟩
  have HVA0 : Hid _ := vs_new (n := 10) gm (sayF 3 m l)
  have HVB0 : Hid _ := vs_new (n := 10) gt (sayF 3 t l)
  obtain ⟨ra, Hra⟩ : ∃ r, Hid ((Lv.new 10).propose 0 1 m ⟨#[120]⟩ = r) := ⟨_, rfl⟩
  obtain ⟨rb, Hrb⟩ : ∃ r, Hid ((Lv.new 10).propose 0 1 t ⟨#[120]⟩ = r) := ⟨_, rfl⟩
  rw [Hra.out] at PA IA HVA0
  rw [Hrb.out] at HVB0
  obtain ⟨La0, ca0⟩ := ra
  obtain ⟨Lb0, cb0⟩ := rb
  have HPA : Hid _ := PA
  have HIA : Hid _ := IA
  clear PA IA
  go_wp2_with fail
  refine Calls.mono HPA.out ?_
  rintro e w3 ⟨rfl, mp3, l3, s3⟩
  have T3 := Two.stepA HT2.out l3 s3 HIA.out.1 HIA.out.2.1
  have PB := propose_calls T3.b.lg T3.b.inv 0 1 t ⟨#[120]⟩ hzt (by decide)
  have IB := propose_ok T3.b.inv T3.b.fl 0 1 t ⟨#[120]⟩
  rw [Hrb.out] at PB IB
  have HPB : Hid _ := PB
  have HIB : Hid _ := IB
  have HT3 : Hid _ := T3
  clear PB IB T3 l3 s3 HT2 HPA HIA
  go_wp2_with fail
  refine Calls.mono HPB.out ?_
  rintro e w4 ⟨rfl, mp4, l4, s4⟩
  have HT4 : Hid _ := Two.stepB HT3.out l4 s4 HIB.out.1 HIB.out.2.1
  clear l4 s4 HT3 HPB HIB Hra Hrb HB2
  go_wp2_with fail
  go_loopw [15] (fun iv wr => ∃ (i : Nat) (ma mb : Nat → Option Nat) (La Lb : Lv), i ≤ 10 ∧ iv = .int .i64 i ∧ Hid (Two w.heap.size w wr w.heap.size ma La w1.heap.size mb Lb) ∧ Hid (Vs La 10 m (sayF 3 m l) i) ∧ Hid (Vs Lb 10 t (sayF 3 t l) i)) (fun iv _ => 10 - (intOf iv).toNat)
  case atStart => exact ⟨0, mp3, mp4, La0, Lb0, by decide, rfl, HT4, HVA0, HVB0⟩
  case round =>
    obtain ⟨i, ma, mb, La, Lb, hi, rfl, HT, HVA, HVB⟩ := hrel
    clear HVA0 HVB0 HT4
    by_cases hlt : i < 10
    · have hd : decide ((i : Int) < 10) = true := by simp only [decide_eq_true_eq]; omega
      by_cases hik : i < 3
      · have hd2 : decide (3 ≤ (i : Int)) = false := by simp only [decide_eq_false_iff_not]; omega
        have HXsA : Hid (m.size ≤ 140737488351232) := by first | exact z1 | exact hsz
        have HXsB : Hid (t.size ≤ 140737488351232) := by first | exact z2 | exact hsz
        have CVA : Hid _ := fun wx => act_of 2 (i : Int) 1 m wx
        go_wp2_with fail
        refine (CVA.out _).mono ?_
        rintro e wvA ⟨rfl, bvA⟩
        have TA := Two.below HT.out bvA
        have DA := done2_calls TA.a.lg TA.a.inv 2 (i : Int) 0 1 m ⟨#[109]⟩ (by decide) (HXsA.out) (by decide)
        have JA := vote_ok TA.a.inv TA.a.fl ((i : Int), ⟨#[109]⟩, ⟨#[115]⟩) 3 0 1 m
        have HTvA : Hid _ := TA
        have HDA : Hid _ := DA
        have HJA : Hid _ := JA
        clear TA DA JA bvA CVA
        obtain ⟨rA, HrA⟩ : ∃ r, Hid (La.vote ((i : Int), ⟨#[109]⟩, ⟨#[115]⟩) 3 0 1 m = r) := ⟨_, rfl⟩
        rw [HrA.out] at HDA HJA
        obtain ⟨LA1, cA1⟩ := rA
        go_wp2_with fail
        refine Calls.mono HDA.out ?_
        rintro e wwA ⟨rfl, mpA, lA, sA⟩
        have HTA : Hid _ := Two.stepA HTvA.out lA sA HJA.out.1 HJA.out.2.1
        clear lA sA HTvA HDA HJA
        have CVB : Hid _ := fun wx => act_of 2 (i : Int) 1 t wx
        go_wp2_with fail
        refine (CVB.out _).mono ?_
        rintro e wvB ⟨rfl, bvB⟩
        have TB := Two.below HTA.out bvB
        have DB := done2_calls TB.b.lg TB.b.inv 2 (i : Int) 0 1 t ⟨#[109]⟩ (by decide) (HXsB.out) (by decide)
        have JB := vote_ok TB.b.inv TB.b.fl ((i : Int), ⟨#[109]⟩, ⟨#[115]⟩) 3 0 1 t
        have HTvB : Hid _ := TB
        have HDB : Hid _ := DB
        have HJB : Hid _ := JB
        clear TB DB JB bvB CVB
        obtain ⟨rB, HrB⟩ : ∃ r, Hid (Lb.vote ((i : Int), ⟨#[109]⟩, ⟨#[115]⟩) 3 0 1 t = r) := ⟨_, rfl⟩
        rw [HrB.out] at HDB HJB
        obtain ⟨LB1, cB1⟩ := rB
        go_wp2_with fail
        refine Calls.mono HDB.out ?_
        rintro e wwB ⟨rfl, mpB, lB, sB⟩
        have HTB : Hid _ := Two.stepB HTvB.out lB sB HJB.out.1 HJB.out.2.1
        clear lB sB HTvB HDB HJB
        have HVa : Hid (Vs LA1 10 m (sayF 3 m l) (i + 1)) := by
          have := vs_vote HVA.out (show i < 10 by omega) (x := m) (by unfold sayF; rw [if_pos hik])
          rw [HrA.out] at this; exact this
        have HVb : Hid (Vs LB1 10 t (sayF 3 t l) (i + 1)) := by
          have := vs_vote HVB.out (show i < 10 by omega) (x := t) (by unfold sayF; rw [if_pos hik])
          rw [HrB.out] at this; exact this
        clear HVA HVB HrA HrB HTA HT
        go_wp2
        refine ⟨⟨i + 1, mpA, mpB, LA1, LB1, by omega, by norm_cast, HTB, HVa, HVb⟩, by simp [intOf]; omega⟩
      · have hd2 : decide (3 ≤ (i : Int)) = true := by simp only [decide_eq_true_eq]; omega
        have hw : IntKind.i64.wrap ((i : Int) - 3) = (i : Int) - 3 := by rw [IntKind.wrap_i64]; omega
        by_cases hin : i - 3 < l.length
        · have hd3 : decide ((l.length : Int) ≤ (i : Int) - 3) = false := by simp only [decide_eq_false_iff_not]; omega
          have hn1 : 0 ≤ (i : Int) - 3 := by omega
          have hn2 : (i : Int) - 3 < (l.length : Int) := by omega
          have hn3 : ((i : Int) - 3).toNat = i - 3 := by omega
          obtain ⟨g, off, hga, _, hg, hcel, hsz⟩ := HC.out (i - 3) hin
          subst hga
          have hl0 : l[i - 3]? = some l[i - 3] := by simp [hin]
          obtain ⟨X, HX⟩ : ∃ X, Hid (l[i - 3] = X) := ⟨l[i - 3], rfl⟩
          rw [HX.out] at hcel hsz hl0
          have Hl0 : Hid _ := hl0
          clear hl0
          have cx : wr.cell? ⟨g, off + (i - 3), none⟩ = some (.string X) := by
            have h0 := hcel 0 _ rfl
            have := (HT.out.a.bel.cell (p := ⟨g, off + (i - 3) * 1 + 0, none⟩) hg).trans h0
            rwa [Nat.mul_one, Nat.add_zero] at this
          clear hcel
          go_wp2_with fail
          go_quiet (fail)
          have HTd : Hid _ := Two.below HT.out (show Below wr.heap.size wr (wr.drewN nq) from ⟨rfl, rfl, rfl, Nat.le_refl _, fun _ _ => rfl⟩)
          clear HT cx
          have HT := HTd
          clear HTd
          have HXsA : Hid (X.size ≤ 140737488351232) := by first | exact z1 | exact hsz
          have HXsB : Hid (X.size ≤ 140737488351232) := by first | exact z2 | exact hsz
          have CVA : Hid _ := fun wx => act_of 2 (i : Int) 1 X wx
          go_wp2_with fail
          refine (CVA.out _).mono ?_
          rintro e wvA ⟨rfl, bvA⟩
          have TA := Two.below HT.out bvA
          have DA := done2_calls TA.a.lg TA.a.inv 2 (i : Int) 0 1 X ⟨#[109]⟩ (by decide) (HXsA.out) (by decide)
          have JA := vote_ok TA.a.inv TA.a.fl ((i : Int), ⟨#[109]⟩, ⟨#[115]⟩) 3 0 1 X
          have HTvA : Hid _ := TA
          have HDA : Hid _ := DA
          have HJA : Hid _ := JA
          clear TA DA JA bvA CVA
          obtain ⟨rA, HrA⟩ : ∃ r, Hid (La.vote ((i : Int), ⟨#[109]⟩, ⟨#[115]⟩) 3 0 1 X = r) := ⟨_, rfl⟩
          rw [HrA.out] at HDA HJA
          obtain ⟨LA1, cA1⟩ := rA
          go_wp2_with fail
          refine Calls.mono HDA.out ?_
          rintro e wwA ⟨rfl, mpA, lA, sA⟩
          have HTA : Hid _ := Two.stepA HTvA.out lA sA HJA.out.1 HJA.out.2.1
          clear lA sA HTvA HDA HJA
          have CVB : Hid _ := fun wx => act_of 2 (i : Int) 1 X wx
          go_wp2_with fail
          refine (CVB.out _).mono ?_
          rintro e wvB ⟨rfl, bvB⟩
          have TB := Two.below HTA.out bvB
          have DB := done2_calls TB.b.lg TB.b.inv 2 (i : Int) 0 1 X ⟨#[109]⟩ (by decide) (HXsB.out) (by decide)
          have JB := vote_ok TB.b.inv TB.b.fl ((i : Int), ⟨#[109]⟩, ⟨#[115]⟩) 3 0 1 X
          have HTvB : Hid _ := TB
          have HDB : Hid _ := DB
          have HJB : Hid _ := JB
          clear TB DB JB bvB CVB
          obtain ⟨rB, HrB⟩ : ∃ r, Hid (Lb.vote ((i : Int), ⟨#[109]⟩, ⟨#[115]⟩) 3 0 1 X = r) := ⟨_, rfl⟩
          rw [HrB.out] at HDB HJB
          obtain ⟨LB1, cB1⟩ := rB
          go_wp2_with fail
          refine Calls.mono HDB.out ?_
          rintro e wwB ⟨rfl, mpB, lB, sB⟩
          have HTB : Hid _ := Two.stepB HTvB.out lB sB HJB.out.1 HJB.out.2.1
          clear lB sB HTvB HDB HJB
          have HVa : Hid (Vs LA1 10 m (sayF 3 m l) (i + 1)) := by
            have := vs_vote HVA.out (show i < 10 by omega) (x := X) (by unfold sayF; rw [if_neg hik]; exact Hl0.out)
            rw [HrA.out] at this; exact this
          have HVb : Hid (Vs LB1 10 t (sayF 3 t l) (i + 1)) := by
            have := vs_vote HVB.out (show i < 10 by omega) (x := X) (by unfold sayF; rw [if_neg hik]; exact Hl0.out)
            rw [HrB.out] at this; exact this
          clear HVA HVB HrA HrB HTA HT
          go_wp2
          refine ⟨⟨i + 1, mpA, mpB, LA1, LB1, by omega, by norm_cast, HTB, HVa, HVb⟩, by simp [intOf]; omega⟩
        · have hd3 : decide ((l.length : Int) ≤ (i : Int) - 3) = true := by simp only [decide_eq_true_eq]; omega
          have HVa : Hid _ := vs_skip HVA.out (show sayF 3 m l i = none by unfold sayF; rw [if_neg hik]; simp; omega)
          have HVb : Hid _ := vs_skip HVB.out (show sayF 3 t l i = none by unfold sayF; rw [if_neg hik]; simp; omega)
          clear HVA HVB
          go_wp2
          refine ⟨⟨i + 1, ma, mb, La, Lb, by omega, by norm_cast, HT, HVa, HVb⟩, by simp [intOf]; omega⟩
    · have hd : decide ((i : Int) < 10) = false := by simp only [decide_eq_false_iff_not]; omega
      have hiN : i = 10 := by omega
      subst hiN
      have QA := prepd_calls HT.out.a.lg HT.out.a.inv 1
      have HMa : Hid _ := vs_prep HVA.out
      have HMb : Hid _ := vs_prep HVB.out
      obtain ⟨ba, Hba⟩ : ∃ b, Hid ((La.wi 1 && (La.sl (pla 1)).prep La.n) = b) := ⟨_, rfl⟩
      obtain ⟨bb, Hbb⟩ : ∃ b, Hid ((Lb.wi 1 && (Lb.sl (pla 1)).prep Lb.n) = b) := ⟨_, rfl⟩
      rw [Hba.out] at QA HMa
      rw [Hbb.out] at HMb
      have HQA : Hid _ := QA
      clear QA HVA HVB
      go_wp2_with fail
      refine Calls.mono HQA.out ?_
      rintro e w5 ⟨rfl, b5⟩
      have T5 := Two.below HT.out b5
      have hz5 := T5.a.bel.size
      have QB := prepd_calls T5.b.lg T5.b.inv 1
      rw [Hbb.out] at QB
      have HQB : Hid _ := QB
      have HB5 : Hid (Below w.heap.size w w5) := T5.a.bel
      clear QB T5 b5 HT HQA
      cases ba with
      | false =>
        go_wp2_with fail
        refine (awake_calls _).mono ?_
        rintro e w6 ⟨rfl, b6⟩
        go_wp2
        go_ret
        exact ⟨rfl, HB5.out.trans (b6.mono hz5)⟩
      | true =>
        go_wp2_with fail
        refine Calls.mono HQB.out ?_
        rintro e w6 ⟨rfl, b6⟩
        have HB6 : Hid (Below w.heap.size w w6) := HB5.out.trans (b6.mono hz5)
        have hz6 := HB6.out.size
        clear b6 HQB
        cases bb with
        | false =>
          go_wp2_with fail
          refine (awake_calls _).mono ?_
          rintro e w7 ⟨rfl, b7⟩
          go_wp2
          go_ret
          exact ⟨rfl, HB6.out.trans (b7.mono hz6)⟩
        | true =>
          have hmt : m = t := meet (k := 3) (vs := l) (HMa.out (by first | trivial | rfl)) (HMb.out (by first | trivial | rfl))
          subst hmt
          go_wp2_with fail
          refine (awake_calls _).mono ?_
          rintro e w7 ⟨rfl, b7⟩
          go_wp2
          go_ret
          exact ⟨rfl, HB6.out.trans (b7.mono hz6)⟩
set_option maxHeartbeats 16000000 in
set_option maxRecDepth 100000 in
theorem agree4 (f : Int) (hf : arn f 4 = 3) (m t : ByteArray) (v : Value) (l : List ByteArray) (w : World) (hl : Txs w v l) (zl : l.length * 16 ≤ 140737488351232) (z1 : m.size ≤ 140737488351232) (z2 : t.size ≤ 140737488351232) :
    Calls Try.prog 3 #[.int .i64 f, .string m, .string t, v] w fun e w' => e = .returned (.bool true) ∧ Below w.heap.size w w' := by
  obtain ⟨va, vcap, rfl, hc⟩ := hl.any
  have HC : Hid _ := hc
  have hzm : m.size ≤ 281474976710656 := by omega
  have hzt : t.size ≤ 281474976710656 := by omega
  have HAr := around_calls f 4 w (by decide) (by decide)
  rw [hf] at HAr
  have HN := new_calls 13 (Or.inr (Or.inr (Or.inr rfl)))
  clear hl hc
  have enter : True := trivial
  go_enter Try.func3, Try.ntmps3
  go_wp2_with fail
  refine HAr.mono ?_
  rintro e wa ⟨rfl, hwa⟩
  obtain rfl := hwa.symm
  go_wp2_with fail
  refine (HN _).mono ?_
  rintro e w1 ⟨rfl, l1, b1, q1⟩
  have A1 : Ats w.heap.size w w1 w.heap.size (fun _ => none) (Lv.new 13) := ⟨l1, b1, Nat.le_refl _, fun _ _ _ h => (by cases h), new_inv (Or.inr (Or.inr (Or.inr rfl))), fun k => Nat.zero_le 13⟩
  go_wp2_with fail
  refine (HN _).mono ?_
  rintro e w2 ⟨rfl, l2, b2, q2⟩
  have A2 := A1.below b2
  have T2 : Two w.heap.size w w2 w.heap.size (fun _ => none) (Lv.new 13) w1.heap.size (fun _ => none) (Lv.new 13) := ⟨A2, ⟨l2, A2.bel, by omega, fun _ _ _ h => (by cases h), new_inv (Or.inr (Or.inr (Or.inr rfl))), fun k => Nat.zero_le 13⟩, by omega, fun _ _ _ _ _ h => (by cases h)⟩
  have HT2 : Hid _ := T2
  have HB2 : Hid (Below w.heap.size w w2) := A2.bel
  have hw2 := A2.bel.size
  clear A1 A2 T2 l1 l2 b1 b2 HN
  by_cases gm : m = ⟨#[]⟩
  · subst gm
    clear HT2
    go_wp2_with fail
    refine (awake_calls _).mono ?_
    rintro e w3 ⟨rfl, b3⟩
    go_wp2
    go_ret
    exact ⟨rfl, HB2.out.trans (b3.mono hw2)⟩
  obtain ⟨em1, em2, em3⟩ := bne_text gm
  have em4 : m.toList.isEmpty = false := by simp [toList_ne gm]
  by_cases gt : t = ⟨#[]⟩
  · subst gt
    clear HT2
    go_wp2_with fail
    refine (awake_calls _).mono ?_
    rintro e w3 ⟨rfl, b3⟩
    go_wp2
    go_ret
    exact ⟨rfl, HB2.out.trans (b3.mono hw2)⟩
  obtain ⟨et1, et2, et3⟩ := bne_text gt
  have et4 : t.toList.isEmpty = false := by simp [toList_ne gt]
  have PA := propose_calls HT2.out.a.lg HT2.out.a.inv 0 1 m ⟨#[120]⟩ hzm (by decide)
  have IA := propose_ok HT2.out.a.inv HT2.out.a.fl 0 1 m ⟨#[120]⟩
  have HVA0 : Hid _ := vs_new (n := 13) gm (sayF 4 m l)
  have HVB0 : Hid _ := vs_new (n := 13) gt (sayF 4 t l)
  obtain ⟨ra, Hra⟩ : ∃ r, Hid ((Lv.new 13).propose 0 1 m ⟨#[120]⟩ = r) := ⟨_, rfl⟩
  obtain ⟨rb, Hrb⟩ : ∃ r, Hid ((Lv.new 13).propose 0 1 t ⟨#[120]⟩ = r) := ⟨_, rfl⟩
  rw [Hra.out] at PA IA HVA0
  rw [Hrb.out] at HVB0
  obtain ⟨La0, ca0⟩ := ra
  obtain ⟨Lb0, cb0⟩ := rb
  have HPA : Hid _ := PA
  have HIA : Hid _ := IA
  clear PA IA
  go_wp2_with fail
  refine Calls.mono HPA.out ?_
  rintro e w3 ⟨rfl, mp3, l3, s3⟩
  have T3 := Two.stepA HT2.out l3 s3 HIA.out.1 HIA.out.2.1
  have PB := propose_calls T3.b.lg T3.b.inv 0 1 t ⟨#[120]⟩ hzt (by decide)
  have IB := propose_ok T3.b.inv T3.b.fl 0 1 t ⟨#[120]⟩
  rw [Hrb.out] at PB IB
  have HPB : Hid _ := PB
  have HIB : Hid _ := IB
  have HT3 : Hid _ := T3
  clear PB IB T3 l3 s3 HT2 HPA HIA
  go_wp2_with fail
  refine Calls.mono HPB.out ?_
  rintro e w4 ⟨rfl, mp4, l4, s4⟩
  have HT4 : Hid _ := Two.stepB HT3.out l4 s4 HIB.out.1 HIB.out.2.1
  clear l4 s4 HT3 HPB HIB Hra Hrb HB2
  go_wp2_with fail
  go_loopw [15] (fun iv wr => ∃ (i : Nat) (ma mb : Nat → Option Nat) (La Lb : Lv), i ≤ 13 ∧ iv = .int .i64 i ∧ Hid (Two w.heap.size w wr w.heap.size ma La w1.heap.size mb Lb) ∧ Hid (Vs La 13 m (sayF 4 m l) i) ∧ Hid (Vs Lb 13 t (sayF 4 t l) i)) (fun iv _ => 13 - (intOf iv).toNat)
  case atStart => exact ⟨0, mp3, mp4, La0, Lb0, by decide, rfl, HT4, HVA0, HVB0⟩
  case round =>
    obtain ⟨i, ma, mb, La, Lb, hi, rfl, HT, HVA, HVB⟩ := hrel
    clear HVA0 HVB0 HT4
    by_cases hlt : i < 13
    · have hd : decide ((i : Int) < 13) = true := by simp only [decide_eq_true_eq]; omega
      by_cases hik : i < 4
      · have hd2 : decide (4 ≤ (i : Int)) = false := by simp only [decide_eq_false_iff_not]; omega
        have HXsA : Hid (m.size ≤ 140737488351232) := by first | exact z1 | exact hsz
        have HXsB : Hid (t.size ≤ 140737488351232) := by first | exact z2 | exact hsz
        have CVA : Hid _ := fun wx => act_of 2 (i : Int) 1 m wx
        go_wp2_with fail
        refine (CVA.out _).mono ?_
        rintro e wvA ⟨rfl, bvA⟩
        have TA := Two.below HT.out bvA
        have DA := done2_calls TA.a.lg TA.a.inv 2 (i : Int) 0 1 m ⟨#[109]⟩ (by decide) (HXsA.out) (by decide)
        have JA := vote_ok TA.a.inv TA.a.fl ((i : Int), ⟨#[109]⟩, ⟨#[115]⟩) 3 0 1 m
        have HTvA : Hid _ := TA
        have HDA : Hid _ := DA
        have HJA : Hid _ := JA
        clear TA DA JA bvA CVA
        obtain ⟨rA, HrA⟩ : ∃ r, Hid (La.vote ((i : Int), ⟨#[109]⟩, ⟨#[115]⟩) 3 0 1 m = r) := ⟨_, rfl⟩
        rw [HrA.out] at HDA HJA
        obtain ⟨LA1, cA1⟩ := rA
        go_wp2_with fail
        refine Calls.mono HDA.out ?_
        rintro e wwA ⟨rfl, mpA, lA, sA⟩
        have HTA : Hid _ := Two.stepA HTvA.out lA sA HJA.out.1 HJA.out.2.1
        clear lA sA HTvA HDA HJA
        have CVB : Hid _ := fun wx => act_of 2 (i : Int) 1 t wx
        go_wp2_with fail
        refine (CVB.out _).mono ?_
        rintro e wvB ⟨rfl, bvB⟩
        have TB := Two.below HTA.out bvB
        have DB := done2_calls TB.b.lg TB.b.inv 2 (i : Int) 0 1 t ⟨#[109]⟩ (by decide) (HXsB.out) (by decide)
        have JB := vote_ok TB.b.inv TB.b.fl ((i : Int), ⟨#[109]⟩, ⟨#[115]⟩) 3 0 1 t
        have HTvB : Hid _ := TB
        have HDB : Hid _ := DB
        have HJB : Hid _ := JB
        clear TB DB JB bvB CVB
        obtain ⟨rB, HrB⟩ : ∃ r, Hid (Lb.vote ((i : Int), ⟨#[109]⟩, ⟨#[115]⟩) 3 0 1 t = r) := ⟨_, rfl⟩
        rw [HrB.out] at HDB HJB
        obtain ⟨LB1, cB1⟩ := rB
        go_wp2_with fail
        refine Calls.mono HDB.out ?_
        rintro e wwB ⟨rfl, mpB, lB, sB⟩
        have HTB : Hid _ := Two.stepB HTvB.out lB sB HJB.out.1 HJB.out.2.1
        clear lB sB HTvB HDB HJB
        have HVa : Hid (Vs LA1 13 m (sayF 4 m l) (i + 1)) := by
          have := vs_vote HVA.out (show i < 13 by omega) (x := m) (by unfold sayF; rw [if_pos hik])
          rw [HrA.out] at this; exact this
        have HVb : Hid (Vs LB1 13 t (sayF 4 t l) (i + 1)) := by
          have := vs_vote HVB.out (show i < 13 by omega) (x := t) (by unfold sayF; rw [if_pos hik])
          rw [HrB.out] at this; exact this
        clear HVA HVB HrA HrB HTA HT
        go_wp2
        refine ⟨⟨i + 1, mpA, mpB, LA1, LB1, by omega, by norm_cast, HTB, HVa, HVb⟩, by simp [intOf]; omega⟩
      · have hd2 : decide (4 ≤ (i : Int)) = true := by simp only [decide_eq_true_eq]; omega
        have hw : IntKind.i64.wrap ((i : Int) - 4) = (i : Int) - 4 := by rw [IntKind.wrap_i64]; omega
        by_cases hin : i - 4 < l.length
        · have hd3 : decide ((l.length : Int) ≤ (i : Int) - 4) = false := by simp only [decide_eq_false_iff_not]; omega
          have hn1 : 0 ≤ (i : Int) - 4 := by omega
          have hn2 : (i : Int) - 4 < (l.length : Int) := by omega
          have hn3 : ((i : Int) - 4).toNat = i - 4 := by omega
          obtain ⟨g, off, hga, _, hg, hcel, hsz⟩ := HC.out (i - 4) hin
          subst hga
          have hl0 : l[i - 4]? = some l[i - 4] := by simp [hin]
          obtain ⟨X, HX⟩ : ∃ X, Hid (l[i - 4] = X) := ⟨l[i - 4], rfl⟩
          rw [HX.out] at hcel hsz hl0
          have Hl0 : Hid _ := hl0
          clear hl0
          have cx : wr.cell? ⟨g, off + (i - 4), none⟩ = some (.string X) := by
            have h0 := hcel 0 _ rfl
            have := (HT.out.a.bel.cell (p := ⟨g, off + (i - 4) * 1 + 0, none⟩) hg).trans h0
            rwa [Nat.mul_one, Nat.add_zero] at this
          clear hcel
          go_wp2_with fail
          go_quiet (fail)
          have HTd : Hid _ := Two.below HT.out (show Below wr.heap.size wr (wr.drewN nq) from ⟨rfl, rfl, rfl, Nat.le_refl _, fun _ _ => rfl⟩)
          clear HT cx
          have HT := HTd
          clear HTd
          have HXsA : Hid (X.size ≤ 140737488351232) := by first | exact z1 | exact hsz
          have HXsB : Hid (X.size ≤ 140737488351232) := by first | exact z2 | exact hsz
          have CVA : Hid _ := fun wx => act_of 2 (i : Int) 1 X wx
          go_wp2_with fail
          refine (CVA.out _).mono ?_
          rintro e wvA ⟨rfl, bvA⟩
          have TA := Two.below HT.out bvA
          have DA := done2_calls TA.a.lg TA.a.inv 2 (i : Int) 0 1 X ⟨#[109]⟩ (by decide) (HXsA.out) (by decide)
          have JA := vote_ok TA.a.inv TA.a.fl ((i : Int), ⟨#[109]⟩, ⟨#[115]⟩) 3 0 1 X
          have HTvA : Hid _ := TA
          have HDA : Hid _ := DA
          have HJA : Hid _ := JA
          clear TA DA JA bvA CVA
          obtain ⟨rA, HrA⟩ : ∃ r, Hid (La.vote ((i : Int), ⟨#[109]⟩, ⟨#[115]⟩) 3 0 1 X = r) := ⟨_, rfl⟩
          rw [HrA.out] at HDA HJA
          obtain ⟨LA1, cA1⟩ := rA
          go_wp2_with fail
          refine Calls.mono HDA.out ?_
          rintro e wwA ⟨rfl, mpA, lA, sA⟩
          have HTA : Hid _ := Two.stepA HTvA.out lA sA HJA.out.1 HJA.out.2.1
          clear lA sA HTvA HDA HJA
          have CVB : Hid _ := fun wx => act_of 2 (i : Int) 1 X wx
          go_wp2_with fail
          refine (CVB.out _).mono ?_
          rintro e wvB ⟨rfl, bvB⟩
          have TB := Two.below HTA.out bvB
          have DB := done2_calls TB.b.lg TB.b.inv 2 (i : Int) 0 1 X ⟨#[109]⟩ (by decide) (HXsB.out) (by decide)
          have JB := vote_ok TB.b.inv TB.b.fl ((i : Int), ⟨#[109]⟩, ⟨#[115]⟩) 3 0 1 X
          have HTvB : Hid _ := TB
          have HDB : Hid _ := DB
          have HJB : Hid _ := JB
          clear TB DB JB bvB CVB
          obtain ⟨rB, HrB⟩ : ∃ r, Hid (Lb.vote ((i : Int), ⟨#[109]⟩, ⟨#[115]⟩) 3 0 1 X = r) := ⟨_, rfl⟩
          rw [HrB.out] at HDB HJB
          obtain ⟨LB1, cB1⟩ := rB
          go_wp2_with fail
          refine Calls.mono HDB.out ?_
          rintro e wwB ⟨rfl, mpB, lB, sB⟩
          have HTB : Hid _ := Two.stepB HTvB.out lB sB HJB.out.1 HJB.out.2.1
          clear lB sB HTvB HDB HJB
          have HVa : Hid (Vs LA1 13 m (sayF 4 m l) (i + 1)) := by
            have := vs_vote HVA.out (show i < 13 by omega) (x := X) (by unfold sayF; rw [if_neg hik]; exact Hl0.out)
            rw [HrA.out] at this; exact this
          have HVb : Hid (Vs LB1 13 t (sayF 4 t l) (i + 1)) := by
            have := vs_vote HVB.out (show i < 13 by omega) (x := X) (by unfold sayF; rw [if_neg hik]; exact Hl0.out)
            rw [HrB.out] at this; exact this
          clear HVA HVB HrA HrB HTA HT
          go_wp2
          refine ⟨⟨i + 1, mpA, mpB, LA1, LB1, by omega, by norm_cast, HTB, HVa, HVb⟩, by simp [intOf]; omega⟩
        · have hd3 : decide ((l.length : Int) ≤ (i : Int) - 4) = true := by simp only [decide_eq_true_eq]; omega
          have HVa : Hid _ := vs_skip HVA.out (show sayF 4 m l i = none by unfold sayF; rw [if_neg hik]; simp; omega)
          have HVb : Hid _ := vs_skip HVB.out (show sayF 4 t l i = none by unfold sayF; rw [if_neg hik]; simp; omega)
          clear HVA HVB
          go_wp2
          refine ⟨⟨i + 1, ma, mb, La, Lb, by omega, by norm_cast, HT, HVa, HVb⟩, by simp [intOf]; omega⟩
    · have hd : decide ((i : Int) < 13) = false := by simp only [decide_eq_false_iff_not]; omega
      have hiN : i = 13 := by omega
      subst hiN
      have QA := prepd_calls HT.out.a.lg HT.out.a.inv 1
      have HMa : Hid _ := vs_prep HVA.out
      have HMb : Hid _ := vs_prep HVB.out
      obtain ⟨ba, Hba⟩ : ∃ b, Hid ((La.wi 1 && (La.sl (pla 1)).prep La.n) = b) := ⟨_, rfl⟩
      obtain ⟨bb, Hbb⟩ : ∃ b, Hid ((Lb.wi 1 && (Lb.sl (pla 1)).prep Lb.n) = b) := ⟨_, rfl⟩
      rw [Hba.out] at QA HMa
      rw [Hbb.out] at HMb
      have HQA : Hid _ := QA
      clear QA HVA HVB
      go_wp2_with fail
      refine Calls.mono HQA.out ?_
      rintro e w5 ⟨rfl, b5⟩
      have T5 := Two.below HT.out b5
      have hz5 := T5.a.bel.size
      have QB := prepd_calls T5.b.lg T5.b.inv 1
      rw [Hbb.out] at QB
      have HQB : Hid _ := QB
      have HB5 : Hid (Below w.heap.size w w5) := T5.a.bel
      clear QB T5 b5 HT HQA
      cases ba with
      | false =>
        go_wp2_with fail
        refine (awake_calls _).mono ?_
        rintro e w6 ⟨rfl, b6⟩
        go_wp2
        go_ret
        exact ⟨rfl, HB5.out.trans (b6.mono hz5)⟩
      | true =>
        go_wp2_with fail
        refine Calls.mono HQB.out ?_
        rintro e w6 ⟨rfl, b6⟩
        have HB6 : Hid (Below w.heap.size w w6) := HB5.out.trans (b6.mono hz5)
        have hz6 := HB6.out.size
        clear b6 HQB
        cases bb with
        | false =>
          go_wp2_with fail
          refine (awake_calls _).mono ?_
          rintro e w7 ⟨rfl, b7⟩
          go_wp2
          go_ret
          exact ⟨rfl, HB6.out.trans (b7.mono hz6)⟩
        | true =>
          have hmt : m = t := meet (k := 4) (vs := l) (HMa.out (by first | trivial | rfl)) (HMb.out (by first | trivial | rfl))
          subst hmt
          go_wp2_with fail
          refine (awake_calls _).mono ?_
          rintro e w7 ⟨rfl, b7⟩
          go_wp2
          go_ret
          exact ⟨rfl, HB6.out.trans (b7.mono hz6)⟩
theorem agree_calls (f : Int) (m t : ByteArray) (v : Value) (l : List ByteArray) (w : World) (hl : Txs w v l) (zl : l.length * 16 ≤ 140737488351232) (z1 : m.size ≤ 140737488351232) (z2 : t.size ≤ 140737488351232) :
    Calls Try.prog 3 #[.int .i64 f, .string m, .string t, v] w fun e w' => e = .returned (.bool true) ∧ Below w.heap.size w w' := by
  obtain ⟨h1, h2⟩ := arn_ok f 4 (by decide)
  obtain h | h | h | h : arn f 4 = 0 ∨ arn f 4 = 1 ∨ arn f 4 = 2 ∨ arn f 4 = 3 := by omega
  · exact agree1 f h m t v l w hl zl z1 z2
  · exact agree2 f h m t v l w hl zl z1 z2
  · exact agree3 f h m t v l w hl zl z1 z2
  · exact agree4 f h m t v l w hl zl z1 z2
end Go.Proofs.Ytipjlonnllcfbaa
