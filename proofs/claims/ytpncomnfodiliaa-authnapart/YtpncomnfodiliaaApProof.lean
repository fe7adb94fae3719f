/- AuthnApart returns true for every slice of texts, and the slice reads afterwards as before; no condition. -/
import Derived.Test.YtpncomnfodiliaaAp
namespace Go.Proofs.Ytpncomnfodiliaa
open Go.ChangeShapes Go.WideShapes Go.ChangeAt Go.RowKit
set_option linter.unusedVariables false

section
variable {H : Type} {enc : TypeId × Value → H} {w : World} {base : Nat} {spare : Nat → Bool} {held : Bool}
theorem open_txs {v : Value} {d : DataW H} {p : List MemPlace} (hv : v.cells = #[v]) (h : DataW.Trod enc Try.prog w base spare held 26 v d p) (hsz : (d.weights Try.prog 26).all (· ≤ reachBytes) = true) (hlt : ∀ x ∈ p, x.block < w.heap.size) :
    ∃ l : List ByteArray, Txs w v l ∧ l.length * 16 ≤ 140737488351232 := by
  haveI : Nonempty ByteArray := ⟨.empty⟩
  refine open_elems (fun s : ByteArray => [.string s]) (fun s => s.size ≤ 140737488351232) Try.underlying26 cells_Str (fun _ => rfl) (by decide) bytes_Str ?_ hv h hsz hlt
  intro fuel cs x hx hw
  obtain ⟨s, e, hd, _⟩ := DataW.trod_string Try.underlying9 hx
  refine ⟨s, e, ?_⟩
  rw [hd] at hw
  have := List.all_eq_true.1 hw s.data.toList.length (by simp [DataW.weights])
  have h2 := of_decide_eq_true this
  rw [← Lib.size_eq] at h2
  exact Nat.le_trans h2 (by unfold reachBytes; decide)
end

set_option maxRecDepth 100000 in
theorem authnApart_lifted (os : Os) (started : os.Started) (H : Type) (enc : TypeId × Value → H) :
    ReturnsInHanded {} Try.checked os 4 .any (Rows.authnApartSpec.pre6 enc Try.prog Try.f4 Rows.authnApartRow.domain false) (Rows.authnApartSpec.post enc Try.prog Try.f4 false true false false) := by
  refine returnsInHanded_of_change_sized (C := Try.checked) own_knob started (by kernel_rfl) Try.func4
    (ChangeSpec.witness6 (enc := enc) (C := Try.checked) false ⟨#[], #[.slice none 0 0], []⟩ 8 (by kernel_rfl) (by kernel_rfl) (by kernel_rfl) (by kernel_rfl)) ?_
  intro W base args ds gs before hval0 hW hcnd hsz0 _
  have hval : ∀ (j : Nat) t v, Try.f4.params[j]? = some t → args[j]? = some v → Value.okWide Try.prog W .any base t v := hval0
  have hW' := hW
  obtain ⟨p, q, hA0, hV, rfl, hfz, hnd⟩ := hW
  have hA : DataW.TrodAll enc Try.prog W 0 (fun _ => true) true Try.f4.params.toList args.toList ds p := hA0
  rw [Try.params4] at hA hval
  obtain ⟨v0, vs0, d0, ds0, p0, q0, hargs, rfl, rfl, h0, r0⟩ := trodAll_cons hA
  obtain ⟨rfl, rfl, rfl⟩ := trodAll_nil r0
  obtain rfl : args = #[v0] := by cases args; simp_all
  obtain ⟨rfl, rfl⟩ := trodVars_none hV
  clear hA0
  have hsz1 : (DataW.weightsEach Try.prog [26] [d0]).all (· ≤ reachBytes) = true := hsz0
  have hszb : (DataW.weights Try.prog 26 d0).all (· ≤ reachBytes) = true := by
    simp only [DataW.weightsEach, List.all_append, Bool.and_eq_true] at hsz1
    exact hsz1.1
  have hlt : ∀ x ∈ p0, x.block < W.heap.size := fun x hx => by simpa using hW'.lt x (by simp [hx])
  have hcell : v0.cells = #[v0] := by
    obtain ⟨p', n', c', rfl⟩ := okWide_slice Try.underlying26 (hval 0 26 v0 rfl rfl)
    rfl
  obtain ⟨l, hl, z1⟩ := open_txs hcell h0 hszb hlt
  simp only [List.append_nil] at hW'
  refine (apart_calls v0 l W hl).mono fun e W' ⟨he, hg⟩ => ?_
  subst he
  have harg := trodAll_cons_mk (Below.trod prog_laid (by kernel_rfl) (of_decide_eq_true (by kernel_rfl)) h0 hg hlt) (trodAll_mk0 (enc := enc) (P := Try.prog) (w := W') (base := 0) (spare := fun b => decide (b < W.heap.size)) (held := true))
  simp only [List.append_nil] at harg
  exact ⟨_, rfl, _, _, _, [], p0, [], hW', trodAll_cons_mk (shut_bool Try.underlying4 _) trodAll_mk0,
    harg, rfl,
    hg.frame _, fun h => by cases h⟩

theorem authnApart_holds : Rows.AuthnApartSaid :=
  OpenClaim.holds_of_wide 4 Try.f4 rfl rfl rfl rfl rfl rfl rfl ⟨rfl, rfl, rfl, rfl, rfl⟩ rfl rfl rfl rfl rfl (by kernel_rfl) Try.func4 (by kernel_rfl)
    (of_decide_eq_true (by kernel_rfl)) (by unfold Func.isWrapper; first | (rw [if_pos (by decide +kernel)]; kernel_rfl) | (rw [if_neg (by decide +kernel)]; exact ⟨rfl, rfl⟩))
    (fun os started H enc _ => authnApart_lifted os started H enc)
#print axioms authnApart_holds
end Go.Proofs.Ytpncomnfodiliaa
