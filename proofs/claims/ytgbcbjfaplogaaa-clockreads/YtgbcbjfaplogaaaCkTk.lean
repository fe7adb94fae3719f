/- The document's Taken: plain data. -/
import Derived.Test.YtgbcbjfaplogaaaCkOf
namespace Go.Proofs.Ytgbcbjfaplogaaa
open Go.RowKit
set_option linter.unusedSimpArgs false
set_option linter.unusedVariables false

/-- What the document asks, in its order. -/
def T1 (ms : List Int) : Prop := 8 ≤ ms.length ∧ gAt ms 5 ≤ 16 ∧ (ms.length : Int) = 6 + 2 * gAt ms 5
def T2 (ms : List Int) : Prop := 1 ≤ gAt ms 0 ∧ gAt ms 0 ≤ 1048576 ∧ gAt ms 1 ≤ 1099511627776 ∧ 1 ≤ gAt ms 2 ∧ gAt ms 2 ≤ 1099511627776 ∧ 1 ≤ gAt ms 3 ∧ gAt ms 4 ≤ 2
def T3 (ms : List Int) : Prop := gAt ms 3 - 1 ≤ (1099511627776 - gAt ms 1).tdiv (gAt ms 2)
def T4 (ms : List Int) (j : Nat) : Prop := wasOf (auOf ms).ds j ≤ 1048576 ∧ nowOf (auOf ms).ds j ≤ 1048576 ∧ ¬ (gAt ms 3 = 1 ∧ wasOf (auOf ms).ds j ≠ 0) ∧ ¬ (1 < gAt ms 3 ∧ wasOf (auOf ms).ds j < nowOf (auOf ms).ds j)
def T5 (ms : List Int) : Prop := ¬ (1 < gAt ms 3 ∧ (auOf ms).ahead ≤ gAt ms 0) ∧ ¬ (gAt ms 4 = 1 ∧ gAt ms 0 < (auOf ms).want)
def T6 (ms : List Int) : Prop := gAt ms 4 ≠ 2 ∨ (gAt ms 0 < (auOf ms).want ∧ 1099511627776 - gAt ms 2 < (auOf ms).price)
theorem auOf_ds (ms : List Int) : (auOf ms).ds.length = (gAt ms 5).toNat := dsOf_len _ _
theorem taken_iff {ms : List Int} (hb : ∀ i, 0 ≤ gAt ms i) : Good ms ↔ T1 ms ∧ T2 ms ∧ T3 ms ∧ (∀ j, j < (auOf ms).ds.length → T4 ms j) ∧ T5 ms ∧ T6 ms := by
  have hl := auOf_ds ms
  have b5 := hb 5
  have hnn : ∀ i, i < (auOf ms).ds.length → 0 ≤ wasOf (auOf ms).ds i ∧ 0 ≤ nowOf (auOf ms).ds i := fun i hi => by
    have e : dAt (auOf ms).ds i = ⟨gAt ms (6 + 2 * i), gAt ms (6 + 2 * i + 1)⟩ := dsOf_at ms (by rw [hl] at hi; exact hi)
    unfold wasOf nowOf
    rw [e]
    exact ⟨hb _, hb _⟩
  have s0 : (auOf ms).supply = gAt ms 0 := rfl
  have s1 : (auOf ms).start = gAt ms 1 := rfl
  have s2 : (auOf ms).step = gAt ms 2 := rfl
  have s3 : (auOf ms).round = gAt ms 3 := rfl
  have s4 : (auOf ms).state = gAt ms 4 := rfl
  constructor
  · rintro ⟨h6, hle, H⟩
    have f := fits_of H
    have hi := (inv_of f hnn).1 H
    obtain ⟨f1, f2, f3, f4⟩ := f
    rw [hl] at f4
    obtain ⟨⟨r1, r2⟩, ⟨d1, d2, d3⟩, hs⟩ := hi
    rw [s3] at r1 r2 d1 d2 d3
    rw [s1, s2] at r2
    have hst := hs
    unfold SMay at hs
    rw [s4, s0, s2] at hs
    rw [s0] at f1 d3
    rw [s1] at f2
    rw [s2] at f3
    refine ⟨⟨by omega, by omega, hle⟩, ⟨f1.1, f1.2, f2.2, f3.1, f3.2, r1, by omega⟩, ?_, fun j hj => ⟨(d1 j hj).1, (d1 j hj).2.1, ?_, ?_⟩, ⟨?_, ?_⟩, ?_⟩
    · show gAt ms 3 - 1 ≤ _; omega
    · rintro ⟨e1, e2⟩
      have := d2 e1
      have h1 := one_le (g := wasOf (auOf ms).ds) (m := (auOf ms).ds.length) (fun i hi => (hnn i hi).1) hj
      have h2 : sumTo (wasOf (auOf ms).ds) (auOf ms).ds.length = 0 := this
      have := (hnn j hj).1
      omega
    · rintro ⟨e1, e2⟩
      have := (d1 j hj).2.2 e1
      omega
    · rintro ⟨e1, e2⟩
      have := d3 (by omega)
      omega
    · rintro ⟨e1, e2⟩
      omega
    · unfold T6
      rcases hs with q | q | q
      · left; omega
      · left; omega
      · right; exact ⟨q.2.1, by omega⟩
  · rintro ⟨⟨t1, t2, t3⟩, ⟨u1, u2, u3, u4, u5, u6, u7⟩, hr, hd, ⟨h5, h5'⟩, h6⟩
    unfold T3 at hr
    have f : Au.fits (auOf ms).supply (auOf ms).start (auOf ms).step (auOf ms).ds.length := by
      rw [hl, s0, s1, s2]
      exact ⟨⟨u1, u2⟩, ⟨hb 1, u3⟩, ⟨u4, u5⟩, ⟨by omega, by omega⟩⟩
    refine ⟨by omega, t3, (inv_of f hnn).2 ⟨⟨by rw [s3]; exact u6, by rw [s3, s1, s2]; omega⟩, ⟨fun i hi => ?_, fun e => ?_, fun e => ?_⟩, ?_⟩⟩
    · have := hd i hi
      unfold T4 at this
      exact ⟨this.1, this.2.1, fun e => Int.not_lt.1 fun e2 => this.2.2.2 ⟨by rw [s3] at e; exact e, e2⟩⟩
    · unfold Au.ahead
      rw [sumTo_congr (g := fun _ => 0) fun i hi => ?_, sumTo_zero]
      have := (hd i hi).2.2.1
      exact Classical.byContradiction fun q => this ⟨by rw [s3] at e; exact e, q⟩
    · rw [s3] at e
      rw [s0]
      exact Int.not_le.1 fun q => h5 ⟨by omega, q⟩
    · unfold SMay
      rw [s4, s0, s2]
      have b4 := hb 4
      rcases (by omega : gAt ms 4 = 0 ∨ gAt ms 4 = 1 ∨ gAt ms 4 = 2) with e | e | e
      · exact Or.inl e
      · exact Or.inr (Or.inl ⟨e, Int.not_lt.1 fun q => h5' ⟨e, q⟩⟩)
      · rcases h6 with q | q
        · exact absurd e q
        · exact Or.inr (Or.inr ⟨e, q.1, by omega⟩)
end Go.Proofs.Ytgbcbjfaplogaaa
