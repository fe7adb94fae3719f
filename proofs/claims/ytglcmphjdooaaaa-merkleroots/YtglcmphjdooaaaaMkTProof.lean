/- MerkleRoots returns true for every slice of records, and it reads afterwards as before; no condition. -/
import Derived.Test.YtglcmphjdooaaaaMkS
import Derived.Test.YtglcmphjdooaaaaMkO
import Derived.OpenShut
namespace Go.Proofs.Ytglcmphjdooaaaa
open Go.RowKit
set_option linter.unusedSimpArgs false
set_option linter.unusedVariables false

set_option maxHeartbeats 4000000 in
set_option maxRecDepth 100000 in
theorem merkleRoots_calls (v : Value) (l : List Rc) (w : World) (hl : RcsC w v l) :
    Calls Try.prog 3 #[v] w fun e w' => e = .returned (.bool true) ∧ Below w.heap.size w w' := by
  have hlm := hl.len
  have HN : Hid _ := newBook_calls w
  have HI : Hid _ := fun (wx : World) (h : Rcs wx v l) => rise_ref v l wx h hlm
  have HA : Hid _ := awake_calls
  have HL : Hid _ := hl.1
  obtain ⟨a, cap, rfl⟩ := hl.1.len
  clear hl
  go_enter Try.func3, Try.ntmps3
  go_wp2_with fail
  refine Calls.mono HN.out ?_
  rintro e w1 ⟨p, b, x, y, rfl, hB, b1, g1, g2, g3, g4⟩
  have hL1 := Rcs.below HL.out b1
  go_wp2_with fail
  refine (HI.out _ hL1).mono ?_
  rintro e w2 ⟨rfl, b2⟩
  have hL2 := hL1.below b2
  have hB2 := hB.below b2
  have bb := chain b1 b2
  have HR : Hid _ := root_calls (.slice a l.length cap) l w2 hL2 hlm hB2 (by simp) (by simp)
  have HL2 : Hid _ := hL2
  clear HI HN HL hL1 hL2 hB b1
  by_cases r1 : riseR l = 0
  · obtain ⟨hl4, hzz⟩ := riseR_ok r1
    rw [r1]
    by_cases hlt : 200 < l.length
    · have d1 : decide ((200 : Int) < (l.length : Int)) = true := decide_eq_true (by omega)
      clear HR HL2
      go_wp2_with fail
      refine (HA.out _).mono ?_
      rintro e w9 ⟨rfl, b9⟩
      go_wp2
      go_ret
      exact ⟨rfl, chain bb b9⟩
    · have d1 : decide ((200 : Int) < (l.length : Int)) = false := decide_eq_false (by omega)
      have HZ : Hid _ := hzz
      clear hzz
      go_wp2_with fail
      refine Calls.mono HR.out ?_
      rintro e w4 P4
      obtain ⟨r, T4, rfl, R4, G4⟩ := P4.good r1
      have l4 := G4.len
      simp only [List.length_nil, Nat.zero_add] at l4
      have b4 : Below w.heap.size w w4 := G4.off.below (by omega) (by omega) bb bb.size
      have HO : Hid _ := root_law (.slice a l.length cap) l w4 hl4 (Rcs.off2 HL2.out hB2 G4.off) HZ.out G4.book (by omega)
      have HR4 : Hid _ := R4
      clear P4 R4 G4 HL2 HR
      go_wp2_with fail
      refine Calls.mono HO.out ?_
      rintro e w5 ⟨s, T5, rfl, R5, G5⟩
      obtain rfl := RootOf.same (RootOf.ext G5.ext HR4.out) R5
      have b5 : Below w.heap.size w w5 := G5.off.below (by omega) (by omega) b4 b4.size
      clear HO HR4 R5 G5
      go_wp2_with fail
      refine (HA.out _).mono ?_
      rintro e w9 ⟨rfl, b9⟩
      go_wp2
      go_ret
      exact ⟨rfl, chain b5 b9⟩
  · obtain ⟨E, hE⟩ : ∃ E, riseR l = E := ⟨_, rfl⟩
    have hE0 : E ≠ 0 := by rw [← hE]; exact r1
    have d0 : decide (E = 0) = false := decide_eq_false hE0
    have d0' : (E == 0) = false := d0
    rw [hE]
    have HE : Hid _ := hE
    have HBD : Hid _ := r1
    clear r1 hE HL2
    go_wp2_with fail
    refine Calls.mono HR.out ?_
    rintro e w4 P4
    obtain ⟨he, b4⟩ := P4.bad HBD.out
    rw [HE.out] at he
    subst he
    clear P4 HR HBD HE
    go_wp2_with fail
    refine (HA.out _).mono ?_
    rintro e w9 ⟨rfl, b9⟩
    go_wp2
    go_ret
    exact ⟨rfl, chain (chain bb b4) b9⟩
end Go.Proofs.Ytglcmphjdooaaaa

namespace Go.Proofs.Ytglcmphjdooaaaa
open Go.ChangeShapes Go.WideShapes Go.ChangeAt Go.RowKit
open Go.ChangeMaps (open_string shut_string)
set_option linter.unusedVariables false

set_option maxRecDepth 100000 in
theorem merkleRoots_lifted (os : Os) (started : os.Started) (H : Type) (enc : TypeId × Value → H) :
    ReturnsInHanded {} Try.checked os 3 .any (Rows.merkleRootsSpec.pre6 enc Try.prog Try.f3 Rows.merkleRootsRow.domain false) (Rows.merkleRootsSpec.post enc Try.prog Try.f3 false true false false) := by
  refine returnsInHanded_of_change_sized (C := Try.checked) own_knob started (by kernel_rfl) Try.func3
    (ChangeSpec.witness6 (enc := enc) (C := Try.checked) false ⟨#[], #[.slice none 0 0], []⟩ 8 (by kernel_rfl) (by kernel_rfl) (by kernel_rfl) (by kernel_rfl)) ?_
  intro W base args ds gs before hval0 hW hcnd hsz0 _
  have hval : ∀ (j : Nat) t v, Try.f3.params[j]? = some t → args[j]? = some v → Value.okWide Try.prog W .any base t v := hval0
  have hW' := hW
  obtain ⟨p, q, hA0, hV, rfl, hfz, hnd⟩ := hW
  have hA : DataW.TrodAll enc Try.prog W 0 (fun _ => true) true Try.f3.params.toList args.toList ds p := hA0
  rw [Try.params3] at hA hval
  obtain ⟨v0, vs0, d0, ds0, p0, q0, hargs, rfl, rfl, h0, r0⟩ := trodAll_cons hA
  obtain ⟨rfl, rfl, rfl⟩ := trodAll_nil r0
  obtain rfl : args = #[v0] := by cases args; simp_all
  obtain ⟨rfl, rfl⟩ := trodVars_none hV
  clear hA0
  try simp only [List.append_nil] at hW'
  try simp only [List.nil_append] at hW'
  have hsz1 : (DataW.weightsEach Try.prog [22] [d0]).all (· ≤ reachBytes) = true := hsz0
  have hszb0 : (DataW.weights Try.prog 22 d0).all (· ≤ reachBytes) = true := List.all_eq_true.2 fun m hm => List.all_eq_true.1 hsz1 m (DataW.weights_mem_each (j := 0) (t := 22) (d := d0) rfl rfl m hm)
  have hlt0 : ∀ x ∈ p0, x.block < W.heap.size := fun x hx => by simpa using hW'.lt x (by simp [hx])
  have hcell0 : v0.cells = #[v0] := by
    obtain ⟨p', n', c', rfl⟩ := okWide_slice Try.underlying22 (hval 0 22 v0 rfl rfl)
    rfl
  obtain ⟨l0, hl0, zl0⟩ := open_rcs hcell0 h0 hszb0 hlt0
  refine (merkleRoots_calls v0 l0 W hl0).mono fun e W' ⟨he, hg⟩ => ?_
  subst he
  have harg := trodAll_cons_mk (Below.trod prog_laid (by kernel_rfl) (of_decide_eq_true (by kernel_rfl)) h0 hg hlt0) (trodAll_mk0 (enc := enc) (P := Try.prog) (w := W') (base := 0) (spare := fun b => decide (b < W.heap.size)) (held := true))
  try simp only [List.append_nil] at harg
  try simp only [List.nil_append] at harg
  exact ⟨_, rfl, _, _, _, [], p0, [], hW', trodAll_cons_mk (shut_bool Try.underlying4 _) trodAll_mk0,
    harg, rfl,
    hg.frame _, fun h => by cases h⟩

theorem merkleRoots_holds : Rows.MerkleRootsSaid :=
  OpenClaim.holds_of_wide 3 Try.f3 rfl rfl rfl rfl rfl rfl rfl ⟨rfl, rfl, rfl, rfl, rfl⟩ rfl rfl rfl rfl rfl (by kernel_rfl) Try.func3 (by kernel_rfl)
    (of_decide_eq_true (by kernel_rfl)) (by unfold Func.isWrapper; first | (rw [if_pos (by decide +kernel)]; kernel_rfl) | (rw [if_neg (by decide +kernel)]; exact ⟨rfl, rfl⟩))
    (fun os started H enc _ => merkleRoots_lifted os started H enc)
#print axioms merkleRoots_holds
end Go.Proofs.Ytglcmphjdooaaaa
