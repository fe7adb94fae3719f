/- Request and Tick. -/
import Derived.Test.YtifbebomhhfaeaaGreatClP
namespace Go.Proofs.YtifbebomhhfaeaaGreat
open Go.RowKit
set_option linter.unusedSimpArgs false
set_option linter.unusedVariables false

variable {p b x y : Nat} {T : List ByteArray} {S : List (Int × ByteArray)} {q tm tc : Nat} {av : Value} {C : Cs} {w0 : World}

def Cs.ask (C : Cs) (s : ByteArray) : Cs := { C with stamp := C.stamp + 1, asked := s, ticks := 0 }
/-- The client behind a store of one of its numbers or texts. -/
theorem put_named {w : World} {C' : Cs} (h : St w0 w p b x y T S q tm tc av C) (o : Nat) (v : Value) (hc : (clC C p tm av).setIfInBounds o v = clC C' p tm av) (ht : C'.told = C.told) (ha : C'.ans = C.ans) :
    ∃ W, w.setCell ⟨q, o, none⟩ v = W ∧ St w0 W p b x y T S q tm tc av C' ∧ ∀ w1, Kpt w1 w → Kpt w1 W := ⟨_, rfl, h.put o v hc ht ha, fun w1 hk => Kpt.put h hk o v⟩

set_option maxHeartbeats 2000000 in
set_option maxRecDepth 100000 in
theorem request_ok (op : ByteArray) (w : World) (h : St w0 w p b x y T S q tm tc av C) (hS : S.length < 1000000) (f : Nat) (hf : C.cf = f) (hf1 : f ≤ 4) (hi : 0 ≤ C.id ∧ C.id ≤ 15) (hs : 0 ≤ C.stamp ∧ C.stamp < 1099511627776) (ho : op.size ≤ 256) (hw : C.waits = false) :
    Calls Tryz.prog 7 #[.pointer (some ⟨q, 0, none⟩), .string op] w fun e w' => ∃ v, e = .returned (.tuple #[v, .int .i64 0]) ∧ SentTo w' v (3 * f + 1) ⟨(sgB (sgM S (100 + C.id) (smB 1 C.id (C.stamp + 1) op))).toArray⟩ ∧ St w0 w' p b x y T (note S (100 + C.id, byS (smB 1 C.id (C.stamp + 1) op))) q tm tc av (C.ask ⟨(sgB (sgM S (100 + C.id) (smB 1 C.id (C.stamp + 1) op))).toArray⟩) ∧ Kpt w w' := by
  have HMa : Hid _ := madeC_calls w h
  have HWa : Hid _ := waits_calls w h
  rw [hw] at HWa
  have c6 : w.cell? ⟨q, 6, none⟩ = some (.int .i64 C.stamp) := h.blk.cell rfl
  have hsz : decide (256 < (op.size : Int)) = false := decide_eq_false (by omega)
  have hst : decide (C.stamp = 1099511627776) = false := decide_eq_false (by omega)
  have hst2 : (C.stamp == 1099511627776) = false := hst
  have e1 : IntKind.i64.wrap (C.stamp + 1) = C.stamp + 1 := wrapC (by omega) (by omega)
  obtain ⟨sM, hM⟩ : ∃ sM, (⟨(sgB (sgM S (100 + C.id) (smB 1 C.id (C.stamp + 1) op))).toArray⟩ : ByteArray) = sM := ⟨_, rfl⟩
  obtain ⟨S', hS'⟩ : ∃ S', note S (100 + C.id, byS (smB 1 C.id (C.stamp + 1) op)) = S' := ⟨_, rfl⟩
  have HSi : Hid (∀ wx, St w0 wx p b x y T S q tm tc av C → Calls Tryz.prog 23 #[.pointer (some ⟨q, 0, none⟩), .agg #[.int .i64 1, .int .i64 0, .int .i64 0, .int .i64 C.id, .int .i64 (C.stamp + 1), .string ⟨#[]⟩, .string op, .slice none 0 0]] wx fun e w' => e = .returned (.tuple #[.string sM, .int .i64 0]) ∧ St w0 w' p b x y T S' q tm tc av C ∧ Kpt wx w') := fun wx hx => by
    have := signedC_calls (smB 1 C.id (C.stamp + 1) op) wx hx hS rfl (show (⟨#[]⟩ : ByteArray).size ≤ maxLen by decide) (by unfold smB maxLen; show op.size ≤ _; omega) (request_right _ _ _ hi (by omega) ho) (by omega)
    rw [hM, hS'] at this
    exact this
  rw [hM, hS']
  have HD : Hid (St w0 w.drew p b x y T S q tm tc av C) := h.keep (by go_grown)
  have HKd : Hid (Kpt w w.drew) := Kpt.of_below (by go_grown)
  clear hM hS' hw hst
  go_enter Tryz.func7, Tryz.ntmps7
  go_wp2_with fail
  refine Calls.mono HMa.out ?_
  rintro e w2 ⟨rfl, rfl⟩
  go_wp2_with fail
  refine Calls.mono HWa.out ?_
  rintro e w2 ⟨rfl, rfl⟩
  go_wp2
  -- HEAD OF request
  refine wp_region_held_drew (S := (fun wx => wx.cell? ⟨q, 4, none⟩ = some (.int .i64 C.id) ∧ wx.cell? ⟨q, 6, none⟩ = some (.int .i64 C.stamp))) (by kernel_rfl) ⟨h.blk.cell rfl, h.blk.cell rfl⟩ (fun hS => ?_)
  refine wpAnyH_take (i := 0) (v := (.pointer (some ⟨q, 0, none⟩))) rfl (by kernel_rfl) (by kernel_rfl) (by kernel_rfl) (fun _ _ _ h => h) (Or.inl ⟨by kernel_rfl, fun w hS => by obtain ⟨s0, s1⟩ := hS; go_simp⟩) hS ?_
  refine wpAnyH_take (i := 1) (v := (.pointer (some ⟨q, 0, none⟩))) rfl (by kernel_rfl) (by kernel_rfl) (by kernel_rfl) (fun _ _ _ h => h) (Or.inl ⟨by kernel_rfl, fun w hS => by obtain ⟨s0, s1⟩ := hS; go_simp⟩) hS ?_
  refine wpAnyH_take (i := 2) (v := (.pointer (some ⟨q, 0, none⟩))) rfl (by kernel_rfl) (by kernel_rfl) (by kernel_rfl) (fun _ _ _ h => h) (Or.inl ⟨by kernel_rfl, fun w hS => by obtain ⟨s0, s1⟩ := hS; go_simp⟩) hS ?_
  refine wpAnyH_take (i := 3) (v := (.pointer (some ⟨q, 4, none⟩))) rfl (by kernel_rfl) (by kernel_rfl) (by kernel_rfl) (fun _ _ _ h => h) (Or.inl ⟨by kernel_rfl, fun w hS => by obtain ⟨s0, s1⟩ := hS; go_simp⟩) hS ?_
  refine wpAnyH_take (i := 4) (v := (.int .i64 C.id)) rfl (by kernel_rfl) (by kernel_rfl) (by kernel_rfl) (fun _ _ _ h => h) (Or.inl ⟨by kernel_rfl, fun w hS => by obtain ⟨s0, s1⟩ := hS; go_simp⟩) hS ?_
  refine wpAnyH_take (i := 5) (v := (.pointer (some ⟨q, 0, none⟩))) rfl (by kernel_rfl) (by kernel_rfl) (by kernel_rfl) (fun _ _ _ h => h) (Or.inl ⟨by kernel_rfl, fun w hS => by obtain ⟨s0, s1⟩ := hS; go_simp⟩) hS ?_
  refine wpAnyH_take (i := 6) (v := (.pointer (some ⟨q, 0, none⟩))) rfl (by kernel_rfl) (by kernel_rfl) (by kernel_rfl) (fun _ _ _ h => h) (Or.inl ⟨by kernel_rfl, fun w hS => by obtain ⟨s0, s1⟩ := hS; go_simp⟩) hS ?_
  refine wpAnyH_take (i := 7) (v := (.pointer (some ⟨q, 6, none⟩))) rfl (by kernel_rfl) (by kernel_rfl) (by kernel_rfl) (fun _ _ _ h => h) (Or.inl ⟨by kernel_rfl, fun w hS => by obtain ⟨s0, s1⟩ := hS; go_simp⟩) hS ?_
  refine wpAnyH_take (i := 8) (v := (.int .i64 C.stamp)) rfl (by kernel_rfl) (by kernel_rfl) (by kernel_rfl) (fun _ _ _ h => h) (Or.inl ⟨by kernel_rfl, fun w hS => by obtain ⟨s0, s1⟩ := hS; go_simp⟩) hS ?_
  refine wpAnyH_take (i := 9) (v := (.int .i64 (C.stamp + 1))) rfl (by kernel_rfl) (by kernel_rfl) (by kernel_rfl) (fun _ _ _ h => h) (Or.inl ⟨by kernel_rfl, fun w hS => by obtain ⟨s0, s1⟩ := hS; go_simp⟩) hS ?_
  refine wpAnyH_take (i := 10) (v := (.string op)) rfl (by kernel_rfl) (by kernel_rfl) (by kernel_rfl) (fun _ _ _ h => h) (Or.inl ⟨by kernel_rfl, fun w hS => by obtain ⟨s0, s1⟩ := hS; go_simp⟩) hS ?_
  refine wpAnyH_take (i := 11) (v := (.agg #[.int .i64 1, .int .i64 0, .int .i64 0, .int .i64 C.id, .int .i64 (C.stamp + 1), .string ⟨#[]⟩, .string op, .slice none 0 0])) rfl (by kernel_rfl) (by kernel_rfl) (by kernel_rfl) (fun _ _ _ h => h) (Or.inl ⟨by kernel_rfl, fun w hS => by obtain ⟨s0, s1⟩ := hS; go_simp⟩) hS ?_
  refine wpAnyH_ready (rs := [12]) (by kernel_rfl) (by simp) ?_
  refine AllReadyH.cons rfl (fun K hK => ?_) AllReadyH.nil
  go_simp
  refine Calls.mono (HSi.out _ HD.out) ?_
  rintro e w5 ⟨rfl, H5, k5⟩
  refine hK.out _ _ ⟨H5.blk.cell rfl, H5.blk.cell rfl⟩ (fun hS => ?_)
  clear hK
  refine wpAnyH_take (i := 13) (v := (.tuple #[.string sM, .int .i64 0])) rfl (by kernel_rfl) (by kernel_rfl) (by kernel_rfl) (fun _ _ _ h => h) (Or.inl ⟨by kernel_rfl, fun w hS => by obtain ⟨s0, s1⟩ := hS; go_simp⟩) hS ?_
  refine wpAnyH_take (i := 14) (v := (.string sM)) rfl (by kernel_rfl) (by kernel_rfl) (by kernel_rfl) (fun _ _ _ h => h) (Or.inl ⟨by kernel_rfl, fun w hS => by obtain ⟨s0, s1⟩ := hS; go_simp⟩) hS ?_
  refine wpAnyH_take (i := 15) (v := (.int .i64 0)) rfl (by kernel_rfl) (by kernel_rfl) (by kernel_rfl) (fun _ _ _ h => h) (Or.inl ⟨by kernel_rfl, fun w hS => by obtain ⟨s0, s1⟩ := hS; go_simp⟩) hS ?_
  refine wpAnyH_take (i := 16) (v := (.string sM)) rfl (by kernel_rfl) (by kernel_rfl) (by kernel_rfl) (fun _ _ _ h => h) (Or.inl ⟨by kernel_rfl, fun w hS => by obtain ⟨s0, s1⟩ := hS; go_simp⟩) hS ?_
  refine wpAnyH_take (i := 17) (v := (.int .i64 0)) rfl (by kernel_rfl) (by kernel_rfl) (by kernel_rfl) (fun _ _ _ h => h) (Or.inl ⟨by kernel_rfl, fun w hS => by obtain ⟨s0, s1⟩ := hS; go_simp⟩) hS ?_
  refine wpAnyH_done (by kernel_rfl) ?_ _
  clear hS
  -- END OF request
  have d6 : w5.cell? ⟨q, 6, none⟩ = some (.int .i64 C.stamp) := H5.blk.cell rfl
  have f6 : w5.frozen? ⟨q, 6, none⟩ = false := H5.blk.frozen
  obtain ⟨Wa, hWa, Ha, ka⟩ := put_named (C' := { C with stamp := C.stamp + 1 }) H5 6 (.int .i64 (C.stamp + 1)) rfl rfl rfl
  have d7 : Wa.cell? ⟨q, 7, none⟩ = some (.string C.asked) := Ha.blk.cell rfl
  have f7 : Wa.frozen? ⟨q, 7, none⟩ = false := Ha.blk.frozen
  obtain ⟨Wb, hWb, Hb, kb⟩ := put_named (C' := { C with stamp := C.stamp + 1, asked := sM }) Ha 7 (.string sM) rfl rfl rfl
  have d8 : Wb.cell? ⟨q, 8, none⟩ = some (.int .i64 C.ticks) := Hb.blk.cell rfl
  have f8 : Wb.frozen? ⟨q, 8, none⟩ = false := Hb.blk.frozen
  obtain ⟨W6, hW6, H6, kc⟩ := put_named (C' := C.ask sM) Hb 8 (.int .i64 0) rfl rfl rfl
  have HTo : Hid _ := toAll_calls sM W6 H6 f hf hf1
  have HK6 : Hid (Kpt w2 W6) := kc _ (kb _ (ka _ (HKd.out.trans k5)))
  clear ka kb kc hf Ha Hb
  go_simp
  go_wp2_with fail
  refine Calls.mono HTo.out ?_
  rintro e w7 ⟨v, rfl, T7, b7⟩
  go_wp2
  go_ret2
  exact ⟨v, rfl, T7, H6.keep b7, HK6.out.trans (Kpt.of_below b7)⟩
end Go.Proofs.YtifbebomhhfaeaaGreat
