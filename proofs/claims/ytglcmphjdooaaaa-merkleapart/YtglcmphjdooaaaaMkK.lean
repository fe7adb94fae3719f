/- MerkleApart's walk: two lists of records have one root just if they are the same. -/
import Derived.Test.YtglcmphjdooaaaaMkJ
namespace Go.Proofs.Ytglcmphjdooaaaa
open Go.RowKit
set_option linter.unusedSimpArgs false
set_option linter.unusedVariables false

set_option maxHeartbeats 4000000 in
set_option maxRecDepth 100000 in
theorem merkleApart_calls (v u : Value) (l m : List Rc) (w : World) (hl : RcsC w v l) (hm : RcsC w u m) :
    Calls Try.prog 8 #[v, u] w fun e w' => e = .returned (.bool true) ∧ Below w.heap.size w w' := by
  have HN : Hid _ := newBook_calls w
  have HL : Hid _ := hl
  have HM : Hid _ := hm
  clear hl hm
  go_enter Try.func8, Try.ntmps8
  go_wp2_with fail
  refine Calls.mono HN.out ?_
  rintro e w1 ⟨p, b, x, y, rfl, hB, b1, g1, g2, g3, g4⟩
  go_wp2_with fail
  refine (few_calls v l w1 (RcsC.below HL.out b1)).mono ?_
  rintro e w2 ⟨v1, rfl, hl1, rfl⟩
  go_wp2_with fail
  refine (few_calls u m w2 (RcsC.below HM.out b1)).mono ?_
  rintro e w3 ⟨u1, rfl, hm1, rfl⟩
  have zl : (l.take 200).length ≤ 200 := by rw [List.length_take]; omega
  have zm : (m.take 200).length ≤ 200 := by rw [List.length_take]; omega
  generalize l.take 200 = l1 at *
  generalize m.take 200 = m1 at *
  have HR : Hid _ := root_calls v1 l1 w3 hl1.1 (by omega) hB (by simp) (by simp)
  have HL1 : Hid _ := hl1.1
  have HM1 : Hid _ := hm1.1
  clear hl1 hm1 HL HM HN
  have HI : Hid _ := fun (k : Value) (r : List Rc) (wx : World) (h : Rcs wx k r) (h2 : r.length ≤ 200) => rise_ref k r wx h (by omega)
  have HA : Hid _ := awake_calls
  go_wp2_with fail
  refine Calls.mono HR.out ?_
  rintro e w4 P4
  by_cases r1 : riseR l1 = 0
  · obtain ⟨r, T4, rfl, R4, G4⟩ := P4.good r1
    have l4 := G4.len
    simp only [List.length_nil, Nat.zero_add] at l4
    have b4 : Below w.heap.size w w4 := G4.off.below g3 g4 b1 b1.size
    have HL4 : Hid _ := Rcs.off2 HL1.out hB G4.off
    have hM4 := Rcs.off2 HM1.out hB G4.off
    have HR2 : Hid _ := root_calls u1 m1 w4 hM4 (by omega) G4.book (by simp) (by omega)
    have HM4 : Hid _ := hM4
    have HR4 : Hid _ := R4
    have HB4 : Hid _ := G4.book
    clear P4 G4 R4 HL1 HM1 HR hM4
    go_wp2_with fail
    refine Calls.mono HR2.out ?_
    rintro e w5 P5
    by_cases r2 : riseR m1 = 0
    · obtain ⟨s, T5, rfl, R5, G5⟩ := P5.good r2
      have l5 := G5.len
      have b5 : Below w.heap.size w w5 := G5.off.below g3 g4 b4 b4.size
      have hsame : (r.toList == s.toList) = sameRc l1 m1 := by
        rw [strEq]
        have k1 := RootOf.ext G5.ext HR4.out
        obtain ⟨c1, c2⟩ := riseR_ok r1
        obtain ⟨c3, c4⟩ := riseR_ok r2
        by_cases hrs : r = s
        · subst hrs
          have e := RootOf.inj (by omega) k1 R5 c1 c3 c2 c4
          rw [e, sameRc_self]
          exact decide_eq_true rfl
        · rw [decide_eq_false hrs]
          cases hq : sameRc l1 m1
          · rfl
          · have e := sameRc_eq hq
            subst e
            exact absurd (k1.same R5) hrs
      have HS : Hid _ := sameRecords_ref v1 u1 l1 m1 w5 (Rcs.off2 HL4.out HB4.out G5.off) (Rcs.off2 HM4.out HB4.out G5.off) (by omega) (by omega)
      rw [← hsame] at HS
      clear hsame P5 G5 R5 HL4 HM4 HR4 HB4 HR2
      obtain ⟨Q, hQ⟩ : ∃ Q, (r.toList == s.toList) = Q := ⟨_, rfl⟩
      rw [hQ] at HS
      go_wp2_with fail
      refine Calls.mono HS.out ?_
      rintro e w6 ⟨rfl, b6⟩
      go_wp2_with fail
      refine (HA.out _).mono ?_
      rintro e w7 ⟨rfl, b7⟩
      go_wp2
      go_ret
      exact ⟨rfl, chain (chain b5 b6) b7⟩
    · obtain ⟨rfl, b5⟩ := P5.bad r2
      have c1 := HI.out v1 l1 w5 (Rcs.below HL4.out b5) zl
      have c2 := fun wx (hb : Below w5.heap.size w5 wx) => HI.out u1 m1 wx ((Rcs.below HM4.out b5).below hb) zm
      obtain ⟨E, hE⟩ : ∃ E, riseR m1 = E := ⟨_, rfl⟩
      have hE0 : E ≠ 0 := by rw [← hE]; exact r2
      have d0 : decide (E = 0) = false := decide_eq_false hE0
      have d0' : (E == 0) = false := d0
      rw [r1] at c1
      simp only [hE] at c2 ⊢
      have C1 : Hid _ := c1
      have C2 : Hid _ := c2
      clear c1 c2 HI P5 HL4 HM4 HR4 HB4 HR2 r2
      go_wp2_with fail
      refine Calls.mono C1.out ?_
      rintro e w6 ⟨rfl, b6⟩
      go_wp2_with fail
      refine (C2.out _ b6).mono ?_
      rintro e w7 ⟨rfl, b7⟩
      go_wp2_with fail
      refine (HA.out _).mono ?_
      rintro e w8 ⟨rfl, b8⟩
      go_wp2
      go_ret
      exact ⟨rfl, chain (chain (chain (chain b4 b5) b6) b7) b8⟩
  · obtain ⟨rfl, b4⟩ := P4.bad r1
    have HR2 : Hid _ := root_calls u1 m1 w4 (Rcs.below HM1.out b4) (by omega) (hB.below b4) (by simp) (by simp)
    have hL4 := Rcs.below HL1.out b4
    have hB4 := hB.below b4
    have bb4 := chain b1 b4
    obtain ⟨E, hE⟩ : ∃ E, riseR l1 = E := ⟨_, rfl⟩
    have hE0 : E ≠ 0 := by rw [← hE]; exact r1
    have d0 : decide (E = 0) = false := decide_eq_false hE0
    have d0' : (E == 0) = false := d0
    simp only [hE]
    have HE : Hid _ := hE
    have HL4 : Hid _ := hL4
    clear P4 HL1 HM1 HR r1 hE hL4
    go_wp2_with fail
    refine Calls.mono HR2.out ?_
    rintro e w5 P5
    obtain ⟨s, E5, rfl, hL5, b5⟩ : ∃ s E5, e = .returned (.tuple #[.string s, .int .i64 E5]) ∧ Rcs w5 v1 l1 ∧ Below w.heap.size w w5 := by
      by_cases r2 : riseR m1 = 0
      · obtain ⟨s, T5, rfl, R5, G5⟩ := P5.good r2
        exact ⟨s, 0, rfl, Rcs.off2 HL4.out hB4 G5.off, G5.off.below g3 g4 bb4 bb4.size⟩
      · obtain ⟨rfl, b5⟩ := P5.bad r2
        exact ⟨_, _, rfl, Rcs.below HL4.out b5, chain bb4 b5⟩
    have c1 := HI.out v1 l1 w5 hL5 zl
    rw [HE.out] at c1
    have C1 : Hid _ := c1
    clear c1 P5 HR2 HL4 HI hL5
    go_wp2_with fail
    refine Calls.mono C1.out ?_
    rintro e w6 ⟨rfl, b6⟩
    go_wp2_with fail
    refine (HA.out _).mono ?_
    rintro e w8 ⟨rfl, b8⟩
    go_wp2
    go_ret
    exact ⟨rfl, chain (chain b5 b6) b8⟩
end Go.Proofs.Ytglcmphjdooaaaa
