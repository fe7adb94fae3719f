/- MerkleSound returns true for every slice of records, every key and every proof, and they read afterwards as before; no condition. -/
import Derived.Test.YtglcmphjdooaaaaMkL
import Derived.Test.YtglcmphjdooaaaaMkQ
import Derived.OpenShut
namespace Go.Proofs.Ytglcmphjdooaaaa
open Go.RowKit
set_option linter.unusedSimpArgs false
set_option linter.unusedVariables false

set_option maxHeartbeats 4000000 in
set_option maxRecDepth 100000 in
theorem merkleSound_calls (v : Value) (l : List Rc) (key : ByteArray) (q : Pf) (lv : Value) (w : World) (hl : RcsC w v l) (hq : PtsC w lv q.paths) :
    Calls Try.prog 6 #[v, .string key, q.val lv] w fun e w' => e = .returned (.bool true) ∧ Below w.heap.size w w' := by
  obtain ⟨W0, hW0, X0, B0⟩ : ∃ W0, w.alloc (.cells #[.int .i64 q.cnt, lv] 35) = W0 ∧ Blk W0 w.heap.size #[.int .i64 q.cnt, lv] 35 ∧ Below w.heap.size w W0 :=
    ⟨_, rfl, blk_new _ _ _ _ rfl, by go_grown⟩
  have e0 : W0.cell? ⟨w.heap.size, 0, none⟩ = some (.int .i64 q.cnt) := X0.cell rfl
  have e1 : W0.cell? ⟨w.heap.size, 1, none⟩ = some lv := X0.cell rfl
  have HN : Hid _ := newBook_calls W0
  have HL : Hid _ := hl.below B0
  have HQ : Hid _ := hq.below B0
  obtain ⟨la, lc, rfl⟩ := hq.1.len
  unfold Pf.val
  clear hl hq X0
  go_enter Try.func6, Try.ntmps6
  go_wp2_with fail
  refine Calls.mono HN.out ?_
  rintro e w1 ⟨p, b, x, y, rfl, hB, b1, g1, g2, g3, g4⟩
  have z0 := B0.size
  have f0 := keepCell b1 e0
  have f1 := keepCell b1 e1
  go_wp2_with fail
  refine (few_calls v l w1 (RcsC.below HL.out b1)).mono ?_
  rintro e w2 ⟨v1, rfl, hl1, rfl⟩
  have zl : (l.take 200).length ≤ 200 := by rw [List.length_take]; omega
  generalize l.take 200 = l1 at *
  have HR : Hid _ := root_calls v1 l1 w2 hl1.1 (by omega) hB (by simp) (by simp)
  have HL1 : Hid _ := hl1.1
  have HQ1 : Hid _ := PtsC.below HQ.out b1
  have bb1 := chain B0 b1
  clear hl1 HL HN HQ e0 e1 hW0
  have HI : Hid _ := fun (wx : World) (h : Rcs wx v1 l1) => rise_ref v1 l1 wx h (by omega)
  have HF : Hid _ := refFits_calls key
  have HA : Hid _ := awake_calls
  go_wp2_with fail
  refine Calls.mono HR.out ?_
  rintro e w4 P4
  by_cases r1 : riseR l1 = 0
  · obtain ⟨r, T4, rfl, R4, G4⟩ := P4.good r1
    have l4 := G4.len
    simp only [List.length_nil, Nat.zero_add] at l4
    have b4 : Below w.heap.size w w4 := G4.off.below (by omega) (by omega) bb1 bb1.size
    have h0 := keepCell2 hB G4.off f0
    have h1 := keepCell2 hB G4.off f1
    have HV : Hid _ := verify_calls q _ r key w4 (PtsC.off2 HQ1.out hB G4.off) G4.book (by simp) (by omega)
    have HL4 : Hid _ := Rcs.off2 HL1.out hB G4.off
    have HR4 : Hid _ := R4
    have HB4 : Hid _ := G4.book
    clear P4 G4 R4 HL1 HR HQ1 f0 f1 HI
    unfold Pf.val at HV
    go_wp2_with fail
    refine Calls.mono HV.out ?_
    rintro e w5 P5
    cases hk : isK key
    · obtain ⟨rfl, b5⟩ := P5.field hk
      have c2 := HF.out
      rw [hk] at c2
      have C2 : Hid _ := c2
      clear c2 HF P5 HV HL4 HR4 HB4 h0 h1
      go_wp2_with fail
      refine (C2.out _).mono ?_
      rintro e w8 ⟨rfl, rfl⟩
      go_wp2_with fail
      refine (HA.out _).mono ?_
      rintro e w9 ⟨rfl, b9⟩
      go_wp2
      go_ret
      exact ⟨rfl, chain (chain b4 b5) b9⟩
    · obtain ⟨b5, hx⟩ : Below w.heap.size w w5 ∧ (e = .returned (.tuple #[.string ⟨#[]⟩, .bool false, .int .i64 40]) ∨ ∃ V B, e = .returned (.tuple #[.string V, .bool B, .int .i64 0]) ∧ Truth l1 key V B ∧ Rcs w5 v1 l1) := by
        cases hfs : (pfFits q && showsB q key)
        · obtain ⟨rfl, b5⟩ := P5.bad hk hfs
          exact ⟨chain b4 b5, Or.inl rfl⟩
        · rw [Bool.and_eq_true] at hfs
          obtain ⟨T5, G5, hx⟩ := P5.good hk hfs.1 hfs.2
          have l5 := G5.len
          refine ⟨G5.off.below (by omega) (by omega) b4 b4.size, ?_⟩
          rcases hx with ⟨_, he⟩ | ⟨hld, he⟩
          · exact Or.inl he
          · exact Or.inr ⟨_, _, he, sound (by omega) (RootOf.ext G5.ext HR4.out) r1 hfs.1 hfs.2 hld, Rcs.off2 HL4.out HB4.out G5.off⟩
      have HRi : Hid _ := rising_of r1
      clear P5 HV HL4 HR4 HB4 h0 h1 HF
      rcases hx with rfl | ⟨V, B, rfl, ht, hL5⟩
      · go_wp2_with fail
        refine (HA.out _).mono ?_
        rintro e w9 ⟨rfl, b9⟩
        go_wp2
        go_ret
        exact ⟨rfl, chain b5 b9⟩
      · have HTT : Hid _ := truth_calls v1 l1 key V B w5 hL5 (by omega) HRi.out ht
        clear hL5 ht
        go_wp2_with fail
        refine Calls.mono HTT.out ?_
        rintro e w8 ⟨rfl, rfl⟩
        go_wp2_with fail
        refine (HA.out _).mono ?_
        rintro e w9 ⟨rfl, b9⟩
        go_wp2
        go_ret
        exact ⟨rfl, chain b5 b9⟩
  · obtain ⟨rfl, b4⟩ := P4.bad r1
    have bb4 := chain bb1 b4
    have C1 : Hid _ := HI.out w4 (Rcs.below HL1.out b4)
    obtain ⟨E, hE⟩ : ∃ E, riseR l1 = E := ⟨_, rfl⟩
    have hE0 : E ≠ 0 := by rw [← hE]; exact r1
    have d0 : decide (E = 0) = false := decide_eq_false hE0
    have d0' : (E == 0) = false := d0
    rw [hE] at C1
    simp only [hE]
    clear P4 HL1 HR r1 hE HI HF HQ1
    go_wp2_with fail
    refine Calls.mono C1.out ?_
    rintro e w7 ⟨rfl, b7⟩
    go_wp2_with fail
    refine (HA.out _).mono ?_
    rintro e w9 ⟨rfl, b9⟩
    go_wp2
    go_ret
    exact ⟨rfl, chain (chain bb4 b7) b9⟩
end Go.Proofs.Ytglcmphjdooaaaa

namespace Go.Proofs.Ytglcmphjdooaaaa
open Go.ChangeShapes Go.WideShapes Go.ChangeAt Go.RowKit
open Go.ChangeMaps (open_string shut_string)
set_option linter.unusedVariables false

set_option maxRecDepth 100000 in
theorem merkleSound_lifted (os : Os) (started : os.Started) (H : Type) (enc : TypeId × Value → H) :
    ReturnsInHanded {} Try.checked os 6 .any (Rows.merkleSoundSpec.pre6 enc Try.prog Try.f6 Rows.merkleSoundRow.domain false) (Rows.merkleSoundSpec.post enc Try.prog Try.f6 false true false false) := by
  refine returnsInHanded_of_change_sized (C := Try.checked) own_knob started (by kernel_rfl) Try.func6
    (ChangeSpec.witness6 (enc := enc) (C := Try.checked) false ⟨#[], #[.slice none 0 0, .string .empty, .agg #[.int .i64 0, .slice none 0 0]], []⟩ 8 (by kernel_rfl) (by kernel_rfl) (by kernel_rfl) (by kernel_rfl)) ?_
  intro W base args ds gs before hval0 hW hcnd hsz0 _
  have hval : ∀ (j : Nat) t v, Try.f6.params[j]? = some t → args[j]? = some v → Value.okWide Try.prog W .any base t v := hval0
  have hW' := hW
  obtain ⟨p, q, hA0, hV, rfl, hfz, hnd⟩ := hW
  have hA : DataW.TrodAll enc Try.prog W 0 (fun _ => true) true Try.f6.params.toList args.toList ds p := hA0
  rw [Try.params6] at hA hval
  obtain ⟨v0, vs0, d0, ds0, p0, q0, hargs, rfl, rfl, h0, r0⟩ := trodAll_cons hA
  obtain ⟨v1, vs1, d1, ds1, p1, q1, rfl, rfl, rfl, h1, r1⟩ := trodAll_cons r0
  obtain ⟨v2, vs2, d2, ds2, p2, q2, rfl, rfl, rfl, h2, r2⟩ := trodAll_cons r1
  obtain ⟨rfl, rfl, rfl⟩ := trodAll_nil r2
  obtain rfl : args = #[v0, v1, v2] := by cases args; simp_all
  obtain ⟨rfl, rfl⟩ := trodVars_none hV
  obtain ⟨s1, rfl, rfl, rfl, mx1⟩ := open_string Try.underlying9 (hval 1 9 v1 rfl rfl) h1
  clear hA0
  try simp only [List.append_nil] at hW'
  try simp only [List.nil_append] at hW'
  have hsz1 : (DataW.weightsEach Try.prog [22, 9, 35] [d0, .lit (.string s1.data.toList), d2]).all (· ≤ reachBytes) = true := hsz0
  have hszb0 : (DataW.weights Try.prog 22 d0).all (· ≤ reachBytes) = true := List.all_eq_true.2 fun m hm => List.all_eq_true.1 hsz1 m (DataW.weights_mem_each (j := 0) (t := 22) (d := d0) rfl rfl m hm)
  have hlt0 : ∀ x ∈ p0, x.block < W.heap.size := fun x hx => by simpa using hW'.lt x (by simp [hx])
  have hcell0 : v0.cells = #[v0] := by
    obtain ⟨p', n', c', rfl⟩ := okWide_slice Try.underlying22 (hval 0 22 v0 rfl rfl)
    rfl
  obtain ⟨l0, hl0, zl0⟩ := open_rcs hcell0 h0 hszb0 hlt0
  have z1 : s1.size ≤ 140737488351232 := by
    have h := sized_string hsz1 (j := 1) rfl rfl
    rw [Array.length_toList] at h
    exact h
  have hszb2 : (DataW.weights Try.prog 35 d2).all (· ≤ reachBytes) = true := List.all_eq_true.2 fun m hm => List.all_eq_true.1 hsz1 m (DataW.weights_mem_each (j := 2) (t := 35) (d := d2) rfl rfl m hm)
  have hlt2 : ∀ x ∈ p2, x.block < W.heap.size := fun x hx => by simpa using hW'.lt x (by simp [hx])
  obtain ⟨q2, lv2, rfl, hl2⟩ := open_proof (hval 2 35 v2 rfl rfl) h2
  refine (merkleSound_calls v0 l0 s1 q2 lv2 W hl0 hl2).mono fun e W' ⟨he, hg⟩ => ?_
  subst he
  have harg := trodAll_cons_mk (Below.trod prog_laid (by kernel_rfl) (of_decide_eq_true (by kernel_rfl)) h0 hg hlt0) (trodAll_cons_mk (shut_string Try.underlying9 mx1) (trodAll_cons_mk (Below.trod prog_laid (by kernel_rfl) (of_decide_eq_true (by kernel_rfl)) h2 hg hlt2) (trodAll_mk0 (enc := enc) (P := Try.prog) (w := W') (base := 0) (spare := fun b => decide (b < W.heap.size)) (held := true))))
  try simp only [List.append_nil] at harg
  try simp only [List.nil_append] at harg
  exact ⟨_, rfl, _, _, _, [], p0 ++ p2, [], hW', trodAll_cons_mk (shut_bool Try.underlying4 _) trodAll_mk0,
    harg, rfl,
    hg.frame _, fun h => by cases h⟩

theorem merkleSound_holds : Rows.MerkleSoundSaid :=
  OpenClaim.holds_of_wide 6 Try.f6 rfl rfl rfl rfl rfl rfl rfl ⟨rfl, rfl, rfl, rfl, rfl⟩ rfl rfl rfl rfl rfl (by kernel_rfl) Try.func6 (by kernel_rfl)
    (of_decide_eq_true (by kernel_rfl)) (by unfold Func.isWrapper; first | (rw [if_pos (by decide +kernel)]; kernel_rfl) | (rw [if_neg (by decide +kernel)]; exact ⟨rfl, rfl⟩))
    (fun os started H enc _ => merkleSound_lifted os started H enc)
#print axioms merkleSound_holds
end Go.Proofs.Ytglcmphjdooaaaa
