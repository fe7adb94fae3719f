/- MerkleRoots' walk: the root of any records, or why they have none, is the document's. -/
import Derived.Test.YtglcmphjdooaaaaMkS
namespace Go.Proofs.Ytglcmphjdooaaaa
open Go.RowKit
set_option linter.unusedSimpArgs false
set_option linter.unusedVariables false

set_option maxHeartbeats 4000000 in
set_option maxRecDepth 100000 in
theorem merkleRoots_calls (v : Value) (l : List Rc) (w : World) (hl : RcsC w v l) :
    Calls Try.prog 3 #[v] w fun e w' => e = .returned (.bool true) ∧ Below w.heap.size w w' := by
  have hlm := hl.len
  have HN : Hid _ := newBook_calls w
  have HI : Hid _ := fun (wx : World) (h : Rcs wx v l) => rise_ref v l wx h hlm
  have HA : Hid _ := awake_calls
  have HL : Hid _ := hl.1
  obtain ⟨a, cap, rfl⟩ := hl.1.len
  clear hl
  go_enter Try.func3, Try.ntmps3
  go_wp2_with fail
  refine Calls.mono HN.out ?_
  rintro e w1 ⟨p, b, x, y, rfl, hB, b1, g1, g2, g3, g4⟩
  have hL1 := Rcs.below HL.out b1
  go_wp2_with fail
  refine (HI.out _ hL1).mono ?_
  rintro e w2 ⟨rfl, b2⟩
  have hL2 := hL1.below b2
  have hB2 := hB.below b2
  have bb := chain b1 b2
  have HR : Hid _ := root_calls (.slice a l.length cap) l w2 hL2 hlm hB2 (by simp) (by simp)
  have HL2 : Hid _ := hL2
  clear HI HN HL hL1 hL2 hB b1
  by_cases r1 : riseR l = 0
  · obtain ⟨hl4, hzz⟩ := riseR_ok r1
    rw [r1]
    by_cases hlt : 200 < l.length
    · have d1 : decide ((200 : Int) < (l.length : Int)) = true := decide_eq_true (by omega)
      clear HR HL2
      go_wp2_with fail
      refine (HA.out _).mono ?_
      rintro e w9 ⟨rfl, b9⟩
      go_wp2
      go_ret
      exact ⟨rfl, chain bb b9⟩
    · have d1 : decide ((200 : Int) < (l.length : Int)) = false := decide_eq_false (by omega)
      have HZ : Hid _ := hzz
      clear hzz
      go_wp2_with fail
      refine Calls.mono HR.out ?_
      rintro e w4 P4
      obtain ⟨r, T4, rfl, R4, G4⟩ := P4.good r1
      have l4 := G4.len
      simp only [List.length_nil, Nat.zero_add] at l4
      have b4 : Below w.heap.size w w4 := G4.off.below (by omega) (by omega) bb bb.size
      have HO : Hid _ := root_law (.slice a l.length cap) l w4 hl4 (Rcs.off2 HL2.out hB2 G4.off) HZ.out G4.book (by omega)
      have HR4 : Hid _ := R4
      clear P4 R4 G4 HL2 HR
      go_wp2_with fail
      refine Calls.mono HO.out ?_
      rintro e w5 ⟨s, T5, rfl, R5, G5⟩
      obtain rfl := RootOf.same (RootOf.ext G5.ext HR4.out) R5
      have b5 : Below w.heap.size w w5 := G5.off.below (by omega) (by omega) b4 b4.size
      clear HO HR4 R5 G5
      go_wp2_with fail
      refine (HA.out _).mono ?_
      rintro e w9 ⟨rfl, b9⟩
      go_wp2
      go_ret
      exact ⟨rfl, chain b5 b9⟩
  · obtain ⟨E, hE⟩ : ∃ E, riseR l = E := ⟨_, rfl⟩
    have hE0 : E ≠ 0 := by rw [← hE]; exact r1
    have d0 : decide (E = 0) = false := decide_eq_false hE0
    have d0' : (E == 0) = false := d0
    rw [hE]
    have HE : Hid _ := hE
    have HBD : Hid _ := r1
    clear r1 hE HL2
    go_wp2_with fail
    refine Calls.mono HR.out ?_
    rintro e w4 P4
    obtain ⟨he, b4⟩ := P4.bad HBD.out
    rw [HE.out] at he
    subst he
    clear P4 HR HBD HE
    go_wp2_with fail
    refine (HA.out _).mono ?_
    rintro e w9 ⟨rfl, b9⟩
    go_wp2
    go_ret
    exact ⟨rfl, chain (chain bb b4) b9⟩
end Go.Proofs.Ytglcmphjdooaaaa
