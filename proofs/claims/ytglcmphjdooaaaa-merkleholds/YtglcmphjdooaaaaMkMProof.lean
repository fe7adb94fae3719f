/- MerkleHolds returns true for every slice of records and every key, and they read afterwards as before; no condition. -/
import Derived.Test.YtglcmphjdooaaaaMkL
import Derived.Test.YtglcmphjdooaaaaMkO
import Derived.OpenShut
namespace Go.Proofs.Ytglcmphjdooaaaa
open Go.RowKit
set_option linter.unusedSimpArgs false
set_option linter.unusedVariables false

set_option maxHeartbeats 4000000 in
set_option maxRecDepth 100000 in
theorem merkleHolds_calls (v : Value) (l : List Rc) (key : ByteArray) (w : World) (hl : RcsC w v l) :
    Calls Try.prog 5 #[v, .string key] w fun e w' => e = .returned (.bool true) ∧ Below w.heap.size w w' := by
  have HN : Hid _ := newBook_calls w
  have HL : Hid _ := hl
  clear hl
  go_enter Try.func5, Try.ntmps5
  go_wp2_with fail
  refine Calls.mono HN.out ?_
  rintro e w1 ⟨p, b, x, y, rfl, hB, b1, g1, g2, g3, g4⟩
  go_wp2_with fail
  refine (few_calls v l w1 (RcsC.below HL.out b1)).mono ?_
  rintro e w2 ⟨v1, rfl, hl1, rfl⟩
  have zl : (l.take 200).length ≤ 200 := by rw [List.length_take]; omega
  generalize l.take 200 = l1 at *
  have HR : Hid _ := root_calls v1 l1 w2 hl1.1 (by omega) hB (by simp) (by simp)
  have HL1 : Hid _ := hl1.1
  clear hl1 HL HN
  have HI : Hid _ := fun (wx : World) (h : Rcs wx v1 l1) => rise_ref v1 l1 wx h (by omega)
  have HF : Hid _ := refFits_calls key
  have HA : Hid _ := awake_calls
  go_wp2_with fail
  refine Calls.mono HR.out ?_
  rintro e w4 P4
  by_cases r1 : riseR l1 = 0
  · obtain ⟨r, T4, rfl, R4, G4⟩ := P4.good r1
    have l4 := G4.len
    simp only [List.length_nil, Nat.zero_add] at l4
    have b4 : Below w.heap.size w w4 := G4.off.below g3 g4 b1 b1.size
    have hL4 := Rcs.off2 HL1.out hB G4.off
    have HP : Hid _ := proveRecs_calls v1 l1 key w4 hL4 (by omega) G4.book (by simp) (by omega)
    have HL4 : Hid _ := hL4
    have HR4 : Hid _ := R4
    have HB4 : Hid _ := G4.book
    clear P4 G4 R4 HL1 HR hL4
    go_wp2_with fail
    refine Calls.mono HP.out ?_
    rintro e w5 P5
    cases hk : isK key
    · obtain ⟨he, b5⟩ := P5.field r1 hk
      obtain ⟨n0, q0, m0, cp0, rfl⟩ : ∃ (n0 : Int) (q0 : Option Addr) (m0 cp0 : Nat), e = .returned (.tuple #[.agg #[.int .i64 n0, .slice q0 m0 cp0], .int .i64 14]) := ⟨0, none, 0, 0, he⟩
      have c1 := HI.out
      have c2 := HF.out
      rw [r1] at c1
      rw [hk] at c2
      have C1 : Hid _ := fun wx (hb : Below w5.heap.size w5 wx) => c1 wx ((Rcs.below HL4.out b5).below hb)
      have C2 : Hid _ := c2
      clear c1 c2 HI HF P5 HP HL4 HR4 HB4
      obtain ⟨W6, hW6, B6⟩ : ∃ W6, w5.alloc (.cells #[.int .i64 n0, .slice q0 m0 cp0] 35) = W6 ∧ Below w5.heap.size w5 W6 := ⟨_, rfl, by go_grown⟩
      go_wp2_with fail
      refine (C1.out _ B6).mono ?_
      rintro e w7 ⟨rfl, b7⟩
      go_wp2_with fail
      refine (C2.out _).mono ?_
      rintro e w8 ⟨rfl, rfl⟩
      go_wp2_with fail
      refine (HA.out _).mono ?_
      rintro e w9 ⟨rfl, b9⟩
      go_wp2
      go_ret
      exact ⟨rfl, chain (chain (chain (chain b4 b5) B6) b7) b9⟩
    · obtain ⟨rr, L, ls, T5, pv, cv, hlv, hsp, hpo, rfl, ho, hss, G5⟩ := P5.good r1 hk
      have l5 := G5.len
      have b5 : Below w.heap.size w w5 := G5.off.below g3 g4 b4 b4.size
      obtain ⟨hn4, hzz⟩ := riseR_ok r1
      have hfit := hpo.fits hlv hn4 hzz
      have hshow := hpo.shows hsp
      have hR5 := RootOf.ext G5.ext HR4.out
      have hled := hpo.led hlv hR5
      have htr : Truth l1 key (valB ⟨l1.length, L.map Prod.fst⟩ key) (thereB ⟨l1.length, L.map Prod.fst⟩ key) := sound (by omega) hR5 r1 hfit hshow hled
      have hoks : ∀ q ∈ L, ptOk q.1 = true := fun q hq => by
        obtain ⟨i, hi⟩ := hpo.each q.1 (List.mem_map.2 ⟨q, hq, rfl⟩)
        exact (hi.ok hlv hn4 hzz).1
      have hpc := ptsC_own ho hss hoks
      obtain ⟨W6, hW6, X6, B6⟩ : ∃ W6, w5.alloc (.cells #[.int .i64 l1.length, .slice pv L.length cv] 35) = W6 ∧ Blk W6 w5.heap.size #[.int .i64 l1.length, .slice pv L.length cv] 35 ∧ Below w5.heap.size w5 W6 :=
        ⟨_, rfl, blk_new _ _ _ _ rfl, by go_grown⟩
      have e0 : W6.cell? ⟨w5.heap.size, 0, none⟩ = some (.int .i64 l1.length) := X6.cell rfl
      have e1 : W6.cell? ⟨w5.heap.size, 1, none⟩ = some (.slice pv L.length cv) := X6.cell rfl
      have hB6 := G5.book.below B6
      have HV : Hid _ := verify_calls ⟨l1.length, L.map Prod.fst⟩ (.slice pv L.length cv) r key W6 (hpc.below B6) hB6 (by simp) (by omega)
      have HL6 : Hid _ := (Rcs.off2 HL4.out HB4.out G5.off).below B6
      have HRi : Hid _ := rising_of r1
      have HF1 : Hid _ := hfit
      have HS1 : Hid _ := hshow
      have HLD : Hid _ := hled
      have HTR : Hid _ := htr
      clear hfit hshow hled htr hpc ho hss hoks hpo hsp hlv P5 HP HR4 HB4 HL4 hR5 X6 G5 hzz HI HF
      go_wp2_with fail
      refine Calls.mono HV.out ?_
      rintro e w7 P7
      obtain ⟨T7, G7, hx⟩ := P7.good hk HF1.out HS1.out
      have hx2 : e = .returned (.tuple #[.string (valB ⟨l1.length, L.map Prod.fst⟩ key), .bool (thereB ⟨l1.length, L.map Prod.fst⟩ key), .int .i64 0]) := by
        rcases hx with ⟨hn, _⟩ | ⟨_, he⟩
        · exact (LedAll.not (LedAll.ext (show LedAll T5 ⟨l1.length, L.map Prod.fst⟩ r from HLD.out) G7.ext) hn).elim
        · exact he
      subst hx2
      have b7 : Below w.heap.size w w7 := G7.off.below g3 g4 (chain b5 B6) (chain b5 B6).size
      have HTT : Hid _ := truth_calls v1 l1 key _ _ w7 (Rcs.off2 HL6.out hB6 G7.off) (by omega) HRi.out HTR.out
      clear P7 hx G7 HV HF1 HS1 HLD HTR HL6 hB6 e0 e1 hW6
      generalize valB ⟨l1.length, L.map Prod.fst⟩ key = V at *
      generalize thereB ⟨l1.length, L.map Prod.fst⟩ key = B at *
      go_wp2_with fail
      refine Calls.mono HTT.out ?_
      rintro e w8 ⟨rfl, rfl⟩
      go_wp2_with fail
      refine (HA.out _).mono ?_
      rintro e w9 ⟨rfl, b9⟩
      go_wp2
      go_ret
      exact ⟨rfl, chain b7 b9⟩
  · obtain ⟨rfl, b4⟩ := P4.bad r1
    have hL4 := Rcs.below HL1.out b4
    have hB4 := hB.below b4
    have bb4 := chain b1 b4
    have HP : Hid _ := proveRecs_calls v1 l1 key w4 hL4 (by omega) hB4 (by simp) (by simp)
    obtain ⟨E, hE⟩ : ∃ E, riseR l1 = E := ⟨_, rfl⟩
    have hE0 : E ≠ 0 := by rw [← hE]; exact r1
    have d0 : decide (E = 0) = false := decide_eq_false hE0
    have d0' : (E == 0) = false := d0
    have HE : Hid _ := hE
    have HL4 : Hid _ := hL4
    have HBAD : Hid _ := r1
    simp only [hE]
    clear P4 HL1 HR r1 hE hL4
    go_wp2_with fail
    refine Calls.mono HP.out ?_
    rintro e w5 P5
    obtain ⟨he, b5⟩ := P5.bad HBAD.out
    rw [HE.out] at he
    obtain ⟨n0, q0, m0, cp0, rfl⟩ : ∃ (n0 : Int) (q0 : Option Addr) (m0 cp0 : Nat), e = .returned (.tuple #[.agg #[.int .i64 n0, .slice q0 m0 cp0], .int .i64 E]) := ⟨0, none, 0, 0, he⟩
    have c1 := HI.out
    rw [HE.out] at c1
    have C1 : Hid _ := fun wx (hb : Below w5.heap.size w5 wx) => c1 wx ((Rcs.below HL4.out b5).below hb)
    clear c1 P5 HP HL4 HI HBAD
    obtain ⟨W6, hW6, B6⟩ : ∃ W6, w5.alloc (.cells #[.int .i64 n0, .slice q0 m0 cp0] 35) = W6 ∧ Below w5.heap.size w5 W6 := ⟨_, rfl, by go_grown⟩
    go_wp2_with fail
    refine (C1.out _ B6).mono ?_
    rintro e w7 ⟨rfl, b7⟩
    go_wp2_with fail
    refine (HA.out _).mono ?_
    rintro e w9 ⟨rfl, b9⟩
    go_wp2
    go_ret
    exact ⟨rfl, chain (chain (chain (chain bb4 b5) B6) b7) b9⟩
end Go.Proofs.Ytglcmphjdooaaaa

namespace Go.Proofs.Ytglcmphjdooaaaa
open Go.ChangeShapes Go.WideShapes Go.ChangeAt Go.RowKit
open Go.ChangeMaps (open_string shut_string)
set_option linter.unusedVariables false

set_option maxRecDepth 100000 in
theorem merkleHolds_lifted (os : Os) (started : os.Started) (H : Type) (enc : TypeId × Value → H) :
    ReturnsInHanded {} Try.checked os 5 .any (Rows.merkleHoldsSpec.pre6 enc Try.prog Try.f5 Rows.merkleHoldsRow.domain false) (Rows.merkleHoldsSpec.post enc Try.prog Try.f5 false true false false) := by
  refine returnsInHanded_of_change_sized (C := Try.checked) own_knob started (by kernel_rfl) Try.func5
    (ChangeSpec.witness6 (enc := enc) (C := Try.checked) false ⟨#[], #[.slice none 0 0, .string .empty], []⟩ 8 (by kernel_rfl) (by kernel_rfl) (by kernel_rfl) (by kernel_rfl)) ?_
  intro W base args ds gs before hval0 hW hcnd hsz0 _
  have hval : ∀ (j : Nat) t v, Try.f5.params[j]? = some t → args[j]? = some v → Value.okWide Try.prog W .any base t v := hval0
  have hW' := hW
  obtain ⟨p, q, hA0, hV, rfl, hfz, hnd⟩ := hW
  have hA : DataW.TrodAll enc Try.prog W 0 (fun _ => true) true Try.f5.params.toList args.toList ds p := hA0
  rw [Try.params5] at hA hval
  obtain ⟨v0, vs0, d0, ds0, p0, q0, hargs, rfl, rfl, h0, r0⟩ := trodAll_cons hA
  obtain ⟨v1, vs1, d1, ds1, p1, q1, rfl, rfl, rfl, h1, r1⟩ := trodAll_cons r0
  obtain ⟨rfl, rfl, rfl⟩ := trodAll_nil r1
  obtain rfl : args = #[v0, v1] := by cases args; simp_all
  obtain ⟨rfl, rfl⟩ := trodVars_none hV
  obtain ⟨s1, rfl, rfl, rfl, mx1⟩ := open_string Try.underlying9 (hval 1 9 v1 rfl rfl) h1
  clear hA0
  try simp only [List.append_nil] at hW'
  try simp only [List.nil_append] at hW'
  have hsz1 : (DataW.weightsEach Try.prog [22, 9] [d0, .lit (.string s1.data.toList)]).all (· ≤ reachBytes) = true := hsz0
  have hszb0 : (DataW.weights Try.prog 22 d0).all (· ≤ reachBytes) = true := List.all_eq_true.2 fun m hm => List.all_eq_true.1 hsz1 m (DataW.weights_mem_each (j := 0) (t := 22) (d := d0) rfl rfl m hm)
  have hlt0 : ∀ x ∈ p0, x.block < W.heap.size := fun x hx => by simpa using hW'.lt x (by simp [hx])
  have hcell0 : v0.cells = #[v0] := by
    obtain ⟨p', n', c', rfl⟩ := okWide_slice Try.underlying22 (hval 0 22 v0 rfl rfl)
    rfl
  obtain ⟨l0, hl0, zl0⟩ := open_rcs hcell0 h0 hszb0 hlt0
  have z1 : s1.size ≤ 140737488351232 := by
    have h := sized_string hsz1 (j := 1) rfl rfl
    rw [Array.length_toList] at h
    exact h
  refine (merkleHolds_calls v0 l0 s1 W hl0).mono fun e W' ⟨he, hg⟩ => ?_
  subst he
  have harg := trodAll_cons_mk (Below.trod prog_laid (by kernel_rfl) (of_decide_eq_true (by kernel_rfl)) h0 hg hlt0) (trodAll_cons_mk (shut_string Try.underlying9 mx1) (trodAll_mk0 (enc := enc) (P := Try.prog) (w := W') (base := 0) (spare := fun b => decide (b < W.heap.size)) (held := true)))
  try simp only [List.append_nil] at harg
  try simp only [List.nil_append] at harg
  exact ⟨_, rfl, _, _, _, [], p0, [], hW', trodAll_cons_mk (shut_bool Try.underlying4 _) trodAll_mk0,
    harg, rfl,
    hg.frame _, fun h => by cases h⟩

theorem merkleHolds_holds : Rows.MerkleHoldsSaid :=
  OpenClaim.holds_of_wide 5 Try.f5 rfl rfl rfl rfl rfl rfl rfl ⟨rfl, rfl, rfl, rfl, rfl⟩ rfl rfl rfl rfl rfl (by kernel_rfl) Try.func5 (by kernel_rfl)
    (of_decide_eq_true (by kernel_rfl)) (by unfold Func.isWrapper; first | (rw [if_pos (by decide +kernel)]; kernel_rfl) | (rw [if_neg (by decide +kernel)]; exact ⟨rfl, rfl⟩))
    (fun os started H enc _ => merkleHolds_lifted os started H enc)
#print axioms merkleHolds_holds
end Go.Proofs.Ytglcmphjdooaaaa
