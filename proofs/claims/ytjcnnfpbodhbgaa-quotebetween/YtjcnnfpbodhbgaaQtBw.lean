/- QuoteBetween for every bid and ask: what it answers. -/
import Derived.Test.YtjcnnfpbodhbgaaFlN
import Derived.Test.YtjcnnfpbodhbgaaQtMd
namespace Go.Proofs.Ytjcnnfpbodhbgaa
open Go.RowKit
set_option linter.unusedSimpArgs false
set_option linter.unusedVariables false

theorem half_exact {a : Nat} (h1 : 9007199254740992 ≤ frung a) (h2 : frung a < 9218868437227405312) : halfR a = fword (fneg a) (frung a - 4503599627370496) := by
  have hv : fval (frung a) = fval (frung a - 4503599627370496) * 2 ^ 1 := by
    have := fval_dbl (frung a - 4503599627370496)
    unfold fdbl at this
    rw [if_neg (by omega), show frung a - 4503599627370496 + 4503599627370496 = frung a by omega] at this
    rw [this, Nat.pow_one]
  unfold halfR
  rw [show (4611686018427387904 : Nat) = ftwo 1 from rfl, div_two (by decide) h2 hv]; rfl

/-- The sum of two numbers lies between the bounds of its value. -/
theorem sum_between (s t : Bool) (a b : Nat) (lo hi : Int) (rl rh : Nat) (sl sh : Bool) (hrl : rl < 9218868437227405312) (hrh : rh < 9218868437227405312)
    (h1 : fsgn sl (fval rl) ≤ fsgn s (fval a) + fsgn t (fval b)) (h2 : fsgn s (fval a) + fsgn t (fval b) ≤ fsgn sh (fval rh)) :
    ∃ z, (Ieee.Datum.sum (.number s (fmag a) (-1074 + (fexp a : Nat))) (.number t (fmag b) (-1074 + (fexp b : Nat)))).map Ieee.double.write = some z ∧ fnan z = false ∧ fsgn sl rl ≤ srung z ∧ srung z ≤ fsgn sh rh := by
  simp only [Ieee.Datum.sum, signed_eq, Option.map_some]
  generalize hu : ((-1074 + (fexp a : Nat) : Int) - min (-1074 + (fexp a : Nat) : Int) (-1074 + (fexp b : Nat))).toNat = u
  generalize hv : ((-1074 + (fexp b : Nat) : Int) - min (-1074 + (fexp a : Nat) : Int) (-1074 + (fexp b : Nat))).toNat = v
  obtain ⟨c, hc1, hc2, hc3⟩ : ∃ c : Nat, fexp a = u + c ∧ fexp b = v + c ∧ min (-1074 + (fexp a : Nat) : Int) (-1074 + (fexp b : Nat)) = -1074 + (c : Int) := ⟨min (fexp a) (fexp b), by omega, by omega, by omega⟩
  have ea : fmag a * 2 ^ u * 2 ^ c = fval a := by unfold fval; rw [hc1, Nat.pow_add, Nat.mul_assoc]
  have eb : fmag b * 2 ^ v * 2 ^ c = fval b := by unfold fval; rw [hc2, Nat.pow_add, Nat.mul_assoc]
  rw [← ea, ← eb, fsgn_mul s (fmag a * 2 ^ u), fsgn_mul t (fmag b * 2 ^ v), ← Int.add_mul] at h1 h2
  rw [hc3]
  generalize fsgn s (fmag a * 2 ^ u) + fsgn t (fmag b * 2 ^ v) = D at *
  clear ea eb hu hv hc1 hc2 hc3
  have hk : 0 < 2 ^ c := Nat.two_pow_pos c
  have hvl : ∀ {x y : Nat}, fval x ≤ fval y → x ≤ y := fun {x y} h => by
    rcases Nat.lt_or_ge y x with h3 | h3
    · have := fval_mono h3; omega
    · exact h3
  show ∃ z, some (Ieee.double.nearest (if D = 0 then s && t else decide (D < 0)) D.natAbs (-1074 + (c : Int))) = some z ∧ _
  refine ⟨_, rfl, ?_⟩
  by_cases h0 : D = 0
  · subst h0
    rw [if_pos rfl]
    have e : Ieee.double.nearest (s && t) (Int.natAbs 0) (-1074 + (c : Int)) = fword (s && t) 0 := by
      rw [nearest_val (s && t) _ _ 0 c 0 (by simp [fval_zero]) (by omega)]; rfl
    rw [e]
    have hs : srung (fword (s && t) 0) = 0 := by rw [fword_srung (by decide)]; unfold fsgn; cases (s && t) <;> rfl
    refine ⟨?_, ?_, ?_⟩
    · unfold fnan; rw [fword_rung _ (by decide)]; decide
    · rw [hs]; simp only [Int.zero_mul] at h1
      unfold fsgn at h1 ⊢; cases sl
      · simp at h1 ⊢; rw [fval_eq_zero] at h1; exact h1
      · simp
    · rw [hs]; simp only [Int.zero_mul] at h2
      unfold fsgn at h2 ⊢; cases sh
      · simp
      · simp at h2 ⊢; rw [fval_eq_zero] at h2; exact h2
  · rw [if_neg h0]
    obtain ⟨q, hq, hq1, hq2⟩ := nearest_bounds (decide (D < 0)) D.natAbs (-1074 + (c : Int)) (by omega)
    rw [hq]
    have hw : min q 9218868437227405312 < 9223372036854775808 := by omega
    have hnn : fnan (fword (decide (D < 0)) (min q 9218868437227405312)) = false := by unfold fnan; rw [fword_rung _ hw]; simp; omega
    refine ⟨hnn, ?_, ?_⟩
    · rw [fword_srung hw]
      by_cases hD : D < 0
      · have hs1 : sl = true := by
          cases sl
          · have : D * ((2 ^ c : Nat) : Int) < 0 := Int.mul_neg_of_neg_of_pos hD (by omega)
            unfold fsgn at h1; simp only [Bool.false_eq_true, if_false] at h1; omega
          · rfl
        subst hs1
        have hle : D.natAbs * 2 ^ c ≤ fval rl * 2 ^ 0 := by
          unfold fsgn at h1; simp only [if_true] at h1
          have : ((D.natAbs * 2 ^ c : Nat) : Int) = -(D * ((2 ^ c : Nat) : Int)) := by rw [Int.natCast_mul, show ((D.natAbs : Nat) : Int) = -D by omega, Int.neg_mul]
          rw [Nat.pow_zero, Nat.mul_one]; omega
        have := hq1 rl c 0 (by omega) hle
        rw [show decide (D < 0) = true by simpa using hD]
        unfold fsgn; simp; omega
      · rw [show decide (D < 0) = false by simp; omega]
        cases sl
        · have hle : fval rl * 2 ^ 0 ≤ D.natAbs * 2 ^ c := by
            unfold fsgn at h1; simp only [Bool.false_eq_true, if_false] at h1
            have : ((D.natAbs * 2 ^ c : Nat) : Int) = D * ((2 ^ c : Nat) : Int) := by rw [Int.natCast_mul, show ((D.natAbs : Nat) : Int) = D by omega]
            rw [Nat.pow_zero, Nat.mul_one]; omega
          have := hq2 rl c 0 (by omega) hle
          unfold fsgn; simp; omega
        · unfold fsgn; simp
    · rw [fword_srung hw]
      by_cases hD : D < 0
      · rw [show decide (D < 0) = true by simpa using hD]
        cases sh
        · unfold fsgn; simp
        · have hle : fval rh * 2 ^ 0 ≤ D.natAbs * 2 ^ c := by
            unfold fsgn at h2; simp only [if_true] at h2
            have : ((D.natAbs * 2 ^ c : Nat) : Int) = -(D * ((2 ^ c : Nat) : Int)) := by rw [Int.natCast_mul, show ((D.natAbs : Nat) : Int) = -D by omega, Int.neg_mul]
            rw [Nat.pow_zero, Nat.mul_one]; omega
          have := hq2 rh c 0 (by omega) hle
          unfold fsgn; simp; omega
      · rw [show decide (D < 0) = false by simp; omega]
        have hs1 : sh = false := by
          cases sh
          · rfl
          · have : 0 < D * ((2 ^ c : Nat) : Int) := Int.mul_pos (by omega) (by omega)
            unfold fsgn at h2; simp only [if_true] at h2; omega
        subst hs1
        have hle : D.natAbs * 2 ^ c ≤ fval rh * 2 ^ 0 := by
          unfold fsgn at h2; simp only [Bool.false_eq_true, if_false] at h2
          have : ((D.natAbs * 2 ^ c : Nat) : Int) = D * ((2 ^ c : Nat) : Int) := by rw [Int.natCast_mul, show ((D.natAbs : Nat) : Int) = D by omega]
          rw [Nat.pow_zero, Nat.mul_one]; omega
        have := hq1 rh c 0 (by omega) hle
        unfold fsgn; simp; omega

theorem sval_mono {a b : Nat} (h : srung a ≤ srung b) : fsgn (fneg a) (fval (frung a)) ≤ fsgn (fneg b) (fval (frung b)) := by
  by_cases h1 : fsgn (fneg b) (fval (frung b)) < fsgn (fneg a) (fval (frung a))
  · have := (fsgn_lt (fun a b => fval_lt) fval_zero (fneg b) (fneg a) (frung b) (frung a)).1 h1
    unfold srung at h; omega
  · omega
theorem mid_between {a b lo hi : Nat} (ha1 : 9007199254740992 ≤ frung a) (ha2 : frung a < 9218868437227405312) (hb1 : 9007199254740992 ≤ frung b) (hb2 : frung b < 9218868437227405312)
    (hl : (lo = a ∧ hi = b) ∨ (lo = b ∧ hi = a)) (hle : srung lo ≤ srung hi) : fnan (midR a b) = false ∧ srung lo ≤ srung (midR a b) ∧ srung (midR a b) ≤ srung hi := by
  have na : fnan a = false := by unfold fnan; simp; omega
  have nb : fnan b = false := by unfold fnan; simp; omega
  have la : frung a - 4503599627370496 < 9218868437227405312 := Nat.lt_of_le_of_lt (Nat.sub_le _ _) ha2
  have lb : frung b - 4503599627370496 < 9218868437227405312 := Nat.lt_of_le_of_lt (Nat.sub_le _ _) hb2
  have ea : frung a - 4503599627370496 + 4503599627370496 = frung a := Nat.sub_add_cancel (Nat.le_trans (by decide) ha1)
  have eb : frung b - 4503599627370496 + 4503599627370496 = frung b := Nat.sub_add_cancel (Nat.le_trans (by decide) hb1)
  have ga : ¬ frung a - 4503599627370496 < 4503599627370496 := by clear lb eb; omega
  have gb : ¬ frung b - 4503599627370496 < 4503599627370496 := by clear la ea ga; omega
  have hv1 := fval_dbl (frung a - 4503599627370496)
  have hv2 := fval_dbl (frung b - 4503599627370496)
  unfold fdbl at hv1 hv2
  rw [if_neg ga, ea] at hv1
  rw [if_neg gb, eb] at hv2
  have hm := sval_mono hle
  have hlf : frung lo < 9218868437227405312 := by
    rcases hl with ⟨rfl, rfl⟩ | ⟨rfl, rfl⟩
    · exact ha2
    · exact hb2
  have hhf : frung hi < 9218868437227405312 := by
    rcases hl with ⟨rfl, rfl⟩ | ⟨rfl, rfl⟩
    · exact hb2
    · exact ha2
  have hwa : frung a - 4503599627370496 < 9223372036854775808 := Nat.lt_trans la (by decide)
  have hwb : frung b - 4503599627370496 < 9223372036854775808 := Nat.lt_trans lb (by decide)
  have bnd : fsgn (fneg lo) (fval (frung lo)) ≤ fsgn (fneg a) (fval (frung a - 4503599627370496)) + fsgn (fneg b) (fval (frung b - 4503599627370496)) ∧ fsgn (fneg a) (fval (frung a - 4503599627370496)) + fsgn (fneg b) (fval (frung b - 4503599627370496)) ≤ fsgn (fneg hi) (fval (frung hi)) := by
    have e1 : fsgn (fneg a) (fval (frung a)) = 2 * fsgn (fneg a) (fval (frung a - 4503599627370496)) := by rw [hv1]; generalize fval (frung a - 4503599627370496) = z; unfold fsgn; cases fneg a <;> simp <;> clear la lb ea eb ga gb hwa hwb hv1 hv2 <;> omega
    have e2 : fsgn (fneg b) (fval (frung b)) = 2 * fsgn (fneg b) (fval (frung b - 4503599627370496)) := by rw [hv2]; generalize fval (frung b - 4503599627370496) = z; unfold fsgn; cases fneg b <;> simp <;> clear la lb ea eb ga gb hwa hwb hv1 hv2 <;> omega
    generalize fsgn (fneg a) (fval (frung a - 4503599627370496)) = A at *
    generalize fsgn (fneg b) (fval (frung b - 4503599627370496)) = B at *
    rcases hl with ⟨hl1, hl2⟩ | ⟨hl1, hl2⟩ <;> (rw [hl1, hl2] at hm ⊢; rw [e1, e2] at hm ⊢; clear la lb ea eb ga gb hwa hwb hv1 hv2; omega)
  obtain ⟨z, hz, hz1, hz2, hz3⟩ := sum_between (fneg a) (fneg b) (frung a - 4503599627370496) (frung b - 4503599627370496) 0 0 (frung lo) (frung hi) (fneg lo) (fneg hi) hlf hhf bnd.1 bnd.2
  have hR : midR a b = z := by
    unfold midR
    rw [na, nb]
    simp only [Bool.false_eq_true, if_false]
    rw [half_exact ha1 ha2, half_exact hb1 hb2]
    have hadd : Ieee.double.add (fword (fneg a) (frung a - 4503599627370496)) (fword (fneg b) (frung b - 4503599627370496)) = some z := by
      unfold Ieee.Format.add
      rw [read_fin (by rw [fword_rung _ hwa]; exact la), read_fin (by rw [fword_rung _ hwb]; exact lb), fword_rung _ hwa, fword_rung _ hwb, fword_neg _ hwa, fword_neg _ hwb]
      exact hz
    rw [hadd]
    show toldR z = z
    unfold toldR; rw [hz1]; rfl
  rw [hR]
  exact ⟨hz1, hz2, hz3⟩

theorem small_not {x : Nat} (hn : fnan x = false) (h : (flt x 118622047889322841 && flt 9341994084744098649 x) = false) : 9007199254740992 ≤ frung x := by
  have n1 : fnan 118622047889322841 = false := by decide
  have n2 : fnan 9341994084744098649 = false := by decide
  have s1 : srung 118622047889322841 = 118622047889322841 := by decide
  have s2 : srung 9341994084744098649 = -118622047889322841 := by decide
  unfold flt at h
  rw [hn, n1, n2, s1, s2] at h
  simp at h
  unfold srung fsgn at h
  cases hs : fneg x <;> simp [hs] at h <;> omega
end Go.Proofs.Ytjcnnfpbodhbgaa
