/- MerkleNobody returns true for all records, keys and proofs, and they read afterwards as before; no condition. -/
import Derived.Test.YtlnlagmobgkblaaGreatMkNb
import Derived.OpenShut
namespace Go.Proofs.YtlnlagmobgkblaaGreat
open Go.RowKit
set_option linter.unusedSimpArgs false
set_option linter.unusedVariables false

theorem cellsInt0 : Tryz.prog.cellsOf 3 = 1 := by kernel_rfl
theorem cellsProof0 : Tryz.prog.cellsOf 25 = 2 := by kernel_rfl
section
open Go.ChangeShapes Go.WideShapes Go.ChangeAt
variable {H : Type} {enc : TypeId × Value → H} {w : World} {base : Nat} {spare : Nat → Bool} {held : Bool}
set_option maxRecDepth 100000 in
theorem open_pf0 {r : Reach} {b0 : Nat} {v : Value} {d : DataW H} {p : List MemPlace} (hv : Value.okWide Tryz.prog w r b0 25 v) (h : DataW.Trod enc Tryz.prog w base spare held 25 v d p) :
    ∃ (n : Int) (lv : Value), v = .agg #[.int .i64 n, lv] := by
  obtain ⟨cs, rfl, hsz⟩ := okWide_struct Tryz.underlying25 hv
  obtain ⟨fuel, hf⟩ := h
  obtain ⟨y0, y1, n, hx, hl, h0, h1⟩ := trod_struct2 Tryz.underlying25 hf
  rw [cellsProof0] at hsz
  obtain ⟨k0, k1, hcs⟩ : ∃ a b, cs.toList = [a, b] := by
    match hcs : cs.toList, (show cs.toList.length = 2 by simpa using hsz) with
    | [a, b], _ => exact ⟨a, b, rfl⟩
  have hcs' : cs = #[k0, k1] := by rw [← hcs]
  subst hcs'
  simp only [Value.cells, cellsInt0, List.drop_zero, List.take_succ_cons, List.take_zero] at h0
  obtain ⟨i0, e0, _, _⟩ := DataW.trod_int Tryz.underlying3 h0
  have q0 : k0 = .int .i64 i0 := by simpa using e0
  exact ⟨i0, k1, by rw [q0]⟩
end
set_option maxHeartbeats 8000000 in
set_option maxRecDepth 100000 in
theorem merkleNobody_calls (v : Value) (key : ByteArray) (n : Int) (lv : Value) (w : World) :
    Calls Tryz.prog 3 #[v, .string key, .agg #[.int .i64 n, lv]] w fun e w' => e = .returned (.bool true) ∧ Below w.heap.size w w' := by
  obtain ⟨W1, hW1, X1, B1, Z1⟩ : ∃ W1, w.alloc (.cells #[.int .i64 n, lv] 25) = W1 ∧ Blk W1 w.heap.size #[.int .i64 n, lv] 25 ∧ Below w.heap.size w W1 ∧ W1.heap.size = w.heap.size + 1 :=
    ⟨_, rfl, blk_new _ _ _ _ rfl, by go_grown, by simp⟩
  obtain ⟨W2, hW2, X2, T2, B2, Z2⟩ : ∃ W2, W1.alloc (.cells #[.pointer none, .slice none 0 0, .slice none 0 0] 30) = W2 ∧ Blk W2 w.heap.size #[.int .i64 n, lv] 25 ∧ Blk W2 (w.heap.size + 1) #[.pointer none, .slice none 0 0, .slice none 0 0] 30 ∧ Below w.heap.size w W2 ∧ W2.heap.size = w.heap.size + 2 :=
    ⟨_, rfl, X1.alloc _, blk_new _ _ _ _ (by rw [Z1]), B1.alloc (by omega) _, by simp [Z1]⟩
  have HA : Hid _ := awake_calls
  have HT : Hid (∀ wx, Below W2.heap.size W2 wx → NoTree wx (.pointer (some ⟨w.heap.size + 1, 0, none⟩))) := fun wx hb => Or.inr ⟨_, rfl, T2.below hb⟩
  have HN : Hid (∀ wx, NoTree wx (.pointer none)) := fun wx => Or.inl rfl
  have HX : Hid _ := X2
  have hrt := rootNil_calls v W2
  clear X1 T2
  go_enter Tryz.func3, Tryz.ntmps3
  go_wp2_with fail
  refine hrt.mono ?_
  rintro e w3 ⟨rfl, b3⟩
  clear hrt
  have B3 := chain B2 b3
  go_wp2_with fail
  refine (proveNil_calls v key w3).mono ?_
  rintro e w4 ⟨he, b4⟩
  obtain ⟨n0, q0, m0, cp0, rfl⟩ : ∃ (n0 : Int) (q0 : Option Addr) (m0 cp0 : Nat), e = .returned (.tuple #[.agg #[.int .i64 n0, .slice q0 m0 cp0], .int .i64 1]) := ⟨0, none, 0, 0, he⟩
  clear he
  obtain ⟨W5, hW5, B5⟩ : ∃ W5, w4.alloc (.cells #[.int .i64 n0, .slice q0 m0 cp0] 25) = W5 ∧ Below w4.heap.size w4 W5 := ⟨_, rfl, by go_grown⟩
  have c25 : Below W2.heap.size W2 W5 := chain (chain b3 b4) B5
  have X5 := Blk.below HX.out c25
  have e0 : W5.cell? ⟨w.heap.size, 0, none⟩ = some (.int .i64 n) := X5.cell rfl
  have e1 : W5.cell? ⟨w.heap.size, 1, none⟩ = some lv := X5.cell rfl
  clear X2
  go_wp2_with fail
  refine (verifyNil_calls n lv ⟨#[]⟩ key W5).mono ?_
  rintro e w6 ⟨rfl, b6⟩
  have c26 := chain c25 b6
  have hg := noGet_calls (.pointer none) key w6 (HN.out _)
  go_wp2_with fail
  refine hg.mono ?_
  rintro e w6 ⟨rfl, rfl⟩
  clear hg
  have hp := noProve_calls (.pointer (some ⟨w.heap.size + 1, 0, none⟩)) key w6 (HT.out _ c26)
  go_wp2_with fail
  refine hp.mono ?_
  rintro e w7 ⟨he, b7⟩
  clear hp
  obtain ⟨n7, q7, m7, cp7, rfl⟩ : ∃ (n0 : Int) (q0 : Option Addr) (m0 cp0 : Nat), e = .returned (.tuple #[.agg #[.int .i64 n0, .slice q0 m0 cp0], .int .i64 1]) := ⟨0, none, 0, 0, he⟩
  clear he
  obtain ⟨W8, hW8, B8⟩ : ∃ W8, w7.alloc (.cells #[.int .i64 n7, .slice q7 m7 cp7] 25) = W8 ∧ Below w7.heap.size w7 W8 := ⟨_, rfl, by go_grown⟩
  have c28 := chain (chain c26 b7) B8
  go_wp2_with fail
  refine (noNew_calls W8).mono ?_
  rintro e w9 ⟨rfl, b9⟩
  have c29 := chain c28 b9
  have h1 := noPut_calls (.pointer none) key ⟨#[]⟩ w9 (HN.out _)
  have h2 := noPut_calls (.pointer (some ⟨w.heap.size + 1, 0, none⟩)) key ⟨#[]⟩ w9 (HT.out _ c29)
  have h3 := noDrop_calls (.pointer none) key w9 (HN.out _)
  have h4 := noDrop_calls (.pointer (some ⟨w.heap.size + 1, 0, none⟩)) key w9 (HT.out _ c29)
  have h5 := noRoot_calls (.pointer none) w9 (HN.out _)
  have h6 := noRoot_calls (.pointer (some ⟨w.heap.size + 1, 0, none⟩)) w9 (HT.out _ c29)
  have h7 := noRecords_calls (.pointer none) w9 (HN.out _)
  have h8 := noRecords_calls (.pointer (some ⟨w.heap.size + 1, 0, none⟩)) w9 (HT.out _ c29)
  have H1 : Hid _ := h1
  have H2 : Hid _ := h2
  have H3 : Hid _ := h3
  have H4 : Hid _ := h4
  have H5 : Hid _ := h5
  have H6 : Hid _ := h6
  have H7 : Hid _ := h7
  have H8 : Hid _ := h8
  clear h1 h2 h3 h4 h5 h6 h7 h8
  go_wp2_with fail
  refine Calls.mono H1.out ?_
  rintro e w9 ⟨rfl, rfl⟩
  go_wp2_with fail
  refine Calls.mono H2.out ?_
  rintro e w9 ⟨rfl, rfl⟩
  go_wp2_with fail
  refine Calls.mono H3.out ?_
  rintro e w9 ⟨rfl, rfl⟩
  go_wp2_with fail
  refine Calls.mono H4.out ?_
  rintro e w9 ⟨rfl, rfl⟩
  go_wp2_with fail
  refine Calls.mono H5.out ?_
  rintro e w9 ⟨rfl, rfl⟩
  go_wp2_with fail
  refine Calls.mono H6.out ?_
  rintro e w9 ⟨rfl, rfl⟩
  go_wp2_with fail
  refine Calls.mono H7.out ?_
  rintro e w9 ⟨rfl, rfl⟩
  go_wp2_with fail
  refine Calls.mono H8.out ?_
  rintro e w9 ⟨rfl, rfl⟩
  go_wp2_with fail
  refine (HA.out _).mono ?_
  rintro e w10 ⟨rfl, b10⟩
  go_wp2
  go_ret
  exact ⟨rfl, chain (chain B2 c29) b10⟩
end Go.Proofs.YtlnlagmobgkblaaGreat

namespace Go.Proofs.YtlnlagmobgkblaaGreat
open Go.ChangeShapes Go.WideShapes Go.ChangeAt Go.RowKit
open Go.ChangeMaps (open_string shut_string)
set_option linter.unusedVariables false

set_option maxRecDepth 100000 in
theorem merkleNobody_lifted (os : Os) (started : os.Started) (H : Type) (enc : TypeId × Value → H) :
    ReturnsInHanded {} Tryz.checked os 3 .any (Rows.merkleNobodySpec.pre6 enc Tryz.prog Tryz.f3 Rows.merkleNobodyRow.domain false) (Rows.merkleNobodySpec.post enc Tryz.prog Tryz.f3 false true false false) := by
  refine returnsInHanded_of_change_sized (C := Tryz.checked) own_knob started (by kernel_rfl) Tryz.func3
    (ChangeSpec.witness6 (enc := enc) (C := Tryz.checked) false ⟨#[], #[.slice none 0 0, .string .empty, .agg #[.int .i64 0, .slice none 0 0]], []⟩ 8 (by kernel_rfl) (by kernel_rfl) (by kernel_rfl) (by kernel_rfl)) ?_
  intro W base args ds gs before hval0 hW hcnd hsz0 _
  have hval : ∀ (j : Nat) t v, Tryz.f3.params[j]? = some t → args[j]? = some v → Value.okWide Tryz.prog W .any base t v := hval0
  have hW' := hW
  obtain ⟨p, q, hA0, hV, rfl, hfz, hnd⟩ := hW
  have hA : DataW.TrodAll enc Tryz.prog W 0 (fun _ => true) true Tryz.f3.params.toList args.toList ds p := hA0
  rw [Tryz.params3] at hA hval
  obtain ⟨v0, vs0, d0, ds0, p0, q0, hargs, rfl, rfl, h0, r0⟩ := trodAll_cons hA
  obtain ⟨v1, vs1, d1, ds1, p1, q1, rfl, rfl, rfl, h1, r1⟩ := trodAll_cons r0
  obtain ⟨v2, vs2, d2, ds2, p2, q2, rfl, rfl, rfl, h2, r2⟩ := trodAll_cons r1
  obtain ⟨rfl, rfl, rfl⟩ := trodAll_nil r2
  obtain rfl : args = #[v0, v1, v2] := by cases args; simp_all
  obtain ⟨rfl, rfl⟩ := trodVars_none hV
  obtain ⟨s1, rfl, rfl, rfl, mx1⟩ := open_string Tryz.underlying9 (hval 1 9 v1 rfl rfl) h1
  clear hA0
  try simp only [List.append_nil] at hW'
  try simp only [List.nil_append] at hW'
  have hsz1 : (DataW.weightsEach Tryz.prog [22, 9, 25] [d0, .lit (.string s1.data.toList), d2]).all (· ≤ reachBytes) = true := hsz0
  have hszb0 : (DataW.weights Tryz.prog 22 d0).all (· ≤ reachBytes) = true := List.all_eq_true.2 fun m hm => List.all_eq_true.1 hsz1 m (DataW.weights_mem_each (j := 0) (t := 22) (d := d0) rfl rfl m hm)
  have hlt0 : ∀ x ∈ p0, x.block < W.heap.size := fun x hx => by simpa using hW'.lt x (by simp [hx])
  have z1 : s1.size ≤ 140737488351232 := by
    have h := sized_string hsz1 (j := 1) rfl rfl
    rw [Array.length_toList] at h
    exact h
  have hszb2 : (DataW.weights Tryz.prog 25 d2).all (· ≤ reachBytes) = true := List.all_eq_true.2 fun m hm => List.all_eq_true.1 hsz1 m (DataW.weights_mem_each (j := 2) (t := 25) (d := d2) rfl rfl m hm)
  have hlt2 : ∀ x ∈ p2, x.block < W.heap.size := fun x hx => by simpa using hW'.lt x (by simp [hx])
  obtain ⟨n2, lv2, rfl⟩ := open_pf0 (hval 2 25 v2 rfl rfl) h2
  refine (merkleNobody_calls v0 s1 n2 lv2 W).mono fun e W' ⟨he, hg⟩ => ?_
  subst he
  have harg := trodAll_cons_mk (Below.trod prog_laid (by kernel_rfl) (of_decide_eq_true (by kernel_rfl)) h0 hg hlt0) (trodAll_cons_mk (shut_string Tryz.underlying9 mx1) (trodAll_cons_mk (Below.trod prog_laid (by kernel_rfl) (of_decide_eq_true (by kernel_rfl)) h2 hg hlt2) (trodAll_mk0 (enc := enc) (P := Tryz.prog) (w := W') (base := 0) (spare := fun b => decide (b < W.heap.size)) (held := true))))
  try simp only [List.append_nil] at harg
  try simp only [List.nil_append] at harg
  exact ⟨_, rfl, _, _, _, [], p0 ++ p2, [], hW', trodAll_cons_mk (shut_bool Tryz.underlying4 _) trodAll_mk0,
    harg, rfl,
    hg.frame _, fun h => by cases h⟩

theorem merkleNobody_holds : Rows.MerkleNobodySaid :=
  OpenClaim.holds_of_wide 3 Tryz.f3 rfl rfl rfl rfl rfl rfl rfl ⟨rfl, rfl, rfl, rfl, rfl⟩ rfl rfl rfl rfl rfl (by kernel_rfl) Tryz.func3 (by kernel_rfl)
    (of_decide_eq_true (by kernel_rfl)) (by unfold Func.isWrapper; first | (rw [if_pos (by decide +kernel)]; kernel_rfl) | (rw [if_neg (by decide +kernel)]; exact ⟨rfl, rfl⟩))
    (fun os started H enc _ => merkleNobody_lifted os started H enc)
#print axioms merkleNobody_holds
end Go.Proofs.YtlnlagmobgkblaaGreat
