/- What a client signs, and to whom it goes. -/
import Derived.Test.YtocphdikppeijaaGreatLy43
import Derived.Test.YtocphdikppeijaaGreatLy34
import Derived.Deep.RegionHeldLaw
import Derived.Deep.RegionHeld3
import Derived.Deep.DeepCutAuto
import Derived.Deep.CutBlock
import Derived.Test.YtocphdikppeijaaGreatLy39
namespace Go.Proofs.YtocphdikppeijaaGreat
open Go.RowKit
set_option linter.unusedSimpArgs false
set_option linter.unusedVariables false

variable {p b x y : Nat} {T : List ByteArray} {S : List (Int × ByteArray)} {q tm tc : Nat} {av : Value} {C : Cs} {w0 : World}

theorem madeC_calls (w : World) (h : St w0 w p b x y T S q tm tc av C) : Calls Tryz.prog 50 #[.pointer (some ⟨q, 0, none⟩)] w fun e w' => e = .returned (.bool true) ∧ w' = w := by
  have c5 : w.cell? ⟨q, 5, none⟩ = some (.pointer (some ⟨p, 0, none⟩)) := h.blk.cell rfl
  go_enter Tryz.func50, Tryz.ntmps50
  go_wp2
  go_ret
  exact ⟨rfl, rfl⟩
def Cs.waits (C : Cs) : Bool := decide (¬ C.asked = ⟨#[]⟩)
theorem asked_eq (s : ByteArray) : (s.toList == []) = decide (s = ⟨#[]⟩) := by have := strEq s ⟨#[]⟩; simpa using this
set_option maxRecDepth 100000 in
theorem waits_calls (w : World) (h : St w0 w p b x y T S q tm tc av C) : Calls Tryz.prog 22 #[.pointer (some ⟨q, 0, none⟩)] w fun e w' => e = .returned (.bool C.waits) ∧ w' = w := by
  have c7 : w.cell? ⟨q, 7, none⟩ = some (.string C.asked) := h.blk.cell rfl
  have HM : Hid _ := madeC_calls w h
  have e1 := asked_eq C.asked
  by_cases ha : C.asked = ⟨#[]⟩
  · have hw : C.waits = false := by unfold Cs.waits; simp [ha]
    rw [decide_eq_true ha] at e1
    rw [hw]
    go_enter Tryz.func22, Tryz.ntmps22
    go_wp2_with fail
    refine Calls.mono HM.out ?_
    rintro e w2 ⟨rfl, rfl⟩
    go_wp2
    go_ret
    exact ⟨rfl, rfl⟩
  · have hw : C.waits = true := by unfold Cs.waits; simp [ha]
    rw [decide_eq_false ha] at e1
    rw [hw]
    go_enter Tryz.func22, Tryz.ntmps22
    go_wp2_with fail
    refine Calls.mono HM.out ?_
    rintro e w2 ⟨rfl, rfl⟩
    go_wp2
    go_ret
    exact ⟨rfl, rfl⟩
theorem size_calls (cf cc cg cp : Int) (w : World) (h0 : 0 ≤ cf) (h1 : cf ≤ 1000) : Calls Tryz.prog 30 #[.agg #[.int .i64 cf, .int .i64 cc, .int .i64 cg, .int .i64 cp]] w fun e w' => e = .returned (.int .i64 (3 * cf + 1)) ∧ Below w.heap.size w w' := by
  obtain ⟨W1, hW1, X1, B1⟩ : ∃ W1, w.alloc (.cells #[.int .i64 cf, .int .i64 cc, .int .i64 cg, .int .i64 cp] 28) = W1 ∧ Blk W1 w.heap.size #[.int .i64 cf, .int .i64 cc, .int .i64 cg, .int .i64 cp] 28 ∧ Below w.heap.size w W1 :=
    ⟨_, rfl, blk_new _ _ _ _ rfl, by go_grown⟩
  have e0 : W1.cell? ⟨w.heap.size, 0, none⟩ = some (.int .i64 cf) := X1.cell rfl
  have e1 : IntKind.i64.wrap (3 * cf) = 3 * cf := wrapC (by omega) (by omega)
  have e2 : IntKind.i64.wrap (3 * cf + 1) = 3 * cf + 1 := wrapC (by omega) (by omega)
  go_enter Tryz.func30, Tryz.ntmps30
  go_wp2
  go_ret
  exact ⟨rfl, B1⟩

theorem Kpt.row {v : Value} {w wx W : World} {k : Nat} {cs' : Array Value} (h : Kpt v w wx) (hW : wx.setRow k cs' = W) (hk : w.heap.size ≤ k) : Kpt v w W := by
  subst hW
  refine ⟨by simpa using h.size, fun j cs t h1 h2 X => ?_⟩
  have hj := X.lt
  exact (setRow_other wx k j cs' (by omega)).trans (h.blk j cs t h1 h2 X)
theorem St.setOff {w W : World} {k : Nat} {cs cs' : Array Value} {t : TypeId} (h : St w0 w p b x y T S q tm tc av C) (hW : w.setRow k cs' = W) (X : Blk w k cs t) (h1 : t ≠ 67) (h2 : t ≠ 118) (h3 : t ≠ 122) (h4 : t ≠ 82) (hk : w0.heap.size ≤ k) : St w0 W p b x y T S q tm tc av C := by
  have np : p ≠ k := fun e => by have h5 := h.book.blk; unfold Blk at h5 X; rw [e, X] at h5; exact h1 (by simpa using (Obj.cells.inj (Option.some.inj h5)).2.1)
  have nb : b ≠ k := fun e => by have h5 := h.book.nums.blk; unfold Blk at h5 X; rw [e, X] at h5; exact h2 (by simpa using (Obj.cells.inj (Option.some.inj h5)).2.1)
  have nq : q ≠ k := fun e => by have h5 := h.blk; unfold Blk at h5 X; rw [e, X] at h5; exact h3 (by simpa using (Obj.cells.inj (Option.some.inj h5)).2.1)
  have nx : x ≠ k := fun e => by have h5 := h.book.nums.mx; unfold Blk at X; rw [e, X] at h5; cases h5
  have ny : y ≠ k := fun e => by have h5 := h.book.nums.my; unfold Blk at X; rw [e, X] at h5; cases h5
  have nt : tm ≠ k := h.map.blk X
  have hg : ∀ j, j ≠ k → W.heap[j]? = w.heap[j]? := fun j hj => by rw [← hW]; exact setRow_other w k j cs' hj
  refine ⟨below_row h.below hW hk, h.book.row hW np nb nx ny, (hg q nq).trans h.blk, h.map.keep (hg tm nt), ?_, h.low, h.nx, h.ny⟩
  refine ⟨h.row.1, ?_⟩
  rcases h.row.2 with hn | ⟨g, cap, cur, rfl, hb, hgg, rest⟩
  · exact Or.inl hn
  · refine Or.inr ⟨g, cap, cur, rfl, hb, ?_, rest⟩
    rw [hg g (fun e => by unfold Blk at X; rw [e, X] at hgg; exact h4 (by simpa using (Obj.cells.inj (Option.some.inj hgg)).2.1))]
    exact hgg
theorem infoSg3 : (Tryz.prog.info? 49).map (·.size) = some 3 := by kernel_rfl
set_option maxHeartbeats 2000000 in
set_option maxRecDepth 100000 in
theorem signedC_calls (d : Bd) (w : World) (h : St w0 w p b x y T S q tm tc av C) (hS : S.length < 1000000) (hd : d.list = []) (h1 : d.digest.size ≤ maxLen) (h2 : d.text.size ≤ maxLen) (he : byE d = 0) (hi : 0 ≤ C.id ∧ C.id ≤ 100) :
    Calls Tryz.prog 51 #[.pointer (some ⟨q, 0, none⟩), d.val (.slice none 0 0)] w fun e w' => e = .returned (.tuple #[.string ⟨(sgB (sgM S (100 + C.id) d)).toArray⟩, .int .i64 0]) ∧ St w0 w' p b x y T (note S (100 + C.id, byS d)) q tm tc av C ∧ Kpt av w w' := by
  have hq := h.blk.lt
  obtain ⟨W1, hW1, XB, B1, Z1⟩ : ∃ W1, w.alloc (.cells #[.int .i64 d.kind, .int .i64 d.view, .int .i64 d.seq, .int .i64 d.client, .int .i64 d.stamp, .string d.digest, .string d.text, .slice none 0 0] 54) = W1 ∧ Blk W1 w.heap.size (d.cells (.slice none 0 0)) 54 ∧ Below w.heap.size w W1 ∧ W1.heap.size = w.heap.size + 1 :=
    ⟨_, rfl, blk_new _ _ _ _ rfl, by go_grown, by simp⟩
  have H1 := h.keep B1
  have XQ := H1.blk
  have e1 : IntKind.i64.wrap (100 + C.id) = 100 + C.id := wrapC (by omega) (by omega)
  have hwho : isSg (100 + C.id) = true := by unfold isSg; simp only [decide_eq_true_eq]; omega
  obtain ⟨M, hM⟩ : ∃ M, sgM S (100 + C.id) d = M := ⟨_, rfl⟩
  obtain ⟨S', hS'⟩ : ∃ S', note S (100 + C.id, byS d) = S' := ⟨_, rfl⟩
  have hR : sealR S (100 + C.id) d = (M, 0) := by unfold sealR; rw [if_pos he, hwho, ← hM]; rfl
  have hRS : sealS S (100 + C.id) d = S' := by unfold sealS signS; rw [if_pos he, hwho, ← hS']; rfl
  have hok : sgOk M = true := by
    have h1 := byS_size d
    have h2 := sgnB_size (num (note S (100 + C.id, byS d)) (100 + C.id, byS d))
    rw [← hM]
    unfold sgOk sgM
    simp only [Bool.and_eq_true, decide_eq_true_eq]
    omega
  have HSe : Hid (∀ wx, Book wx p b x y T S → Calls Tryz.prog 16 #[.pointer (some ⟨p, 0, none⟩), .int .i64 (100 + C.id), .agg #[.int .i64 d.kind, .int .i64 d.view, .int .i64 d.seq, .int .i64 d.client, .int .i64 d.stamp, .string d.digest, .string d.text, .slice none 0 0]] wx fun e w' => e = .returned (.tuple #[.agg #[.int .i64 M.frm, .string M.body, .string M.sig], .int .i64 0]) ∧ Book w' p b x y T S' ∧ Off2 x y wx w') := fun wx hx => by
    have := seal_calls (100 + C.id) d none 0 0 wx hx hS h1 h2 (by rw [hd]; decide) (Or.inl ⟨⟨none, 0, rfl⟩, hd⟩)
    rw [hR, hRS] at this
    exact this
  have HPu : Hid (∀ wx, Calls Tryz.prog 88 #[.agg #[.int .i64 M.frm, .string M.body, .string M.sig]] wx fun e w' => e = .returned (.tuple #[.string ⟨(sgB M).toArray⟩, .int .i64 0]) ∧ Below wx.heap.size wx w') := fun wx => by
    have hb : M.body.size ≤ maxLen ∧ M.sig.size ≤ maxLen := by
      unfold sgOk at hok
      simp only [Bool.and_eq_true, decide_eq_true_eq] at hok
      unfold maxLen; omega
    have := putSigned_calls M wx hb.1 hb.2
    rw [if_pos hok] at this
    exact this
  have HGs : Hid ((Tryz.prog.info? 49).map (·.size) = some (#[.int .i64 M.frm, .string M.body, .string M.sig] : Array Value).size) := infoSg3
  have hlt := H1.book.lts
  have hxl : x < w.heap.size := h.book.lts.2.2.1
  have hyl : y < w.heap.size := h.book.lts.2.2.2
  rw [hM, hS']
  have HZ1 : Hid (W1.heap.size = w.heap.size + 1) := Z1
  clear hR hRS hok hM hS' he hwho Z1
  unfold Bd.val
  go_enter Tryz.func51, Tryz.ntmps51
  go_wp2
  -- HEAD OF signed
  have HSC : Hid (∀ wx, Blk wx q (clC C p tm av) 122 → Blk wx w.heap.size (d.cells (.slice none 0 0)) 54 → (fun wx => wx.cell? ⟨q, 5, none⟩ = some (.pointer (some ⟨p, 0, none⟩)) ∧ wx.cell? ⟨q, 4, none⟩ = some (.int .i64 C.id) ∧ wx.cell? ⟨w.heap.size, 0, none⟩ = some (.int .i64 d.kind) ∧ wx.cell? ⟨w.heap.size, 1, none⟩ = some (.int .i64 d.view) ∧ wx.cell? ⟨w.heap.size, 2, none⟩ = some (.int .i64 d.seq) ∧ wx.cell? ⟨w.heap.size, 3, none⟩ = some (.int .i64 d.client) ∧ wx.cell? ⟨w.heap.size, 4, none⟩ = some (.int .i64 d.stamp) ∧ wx.cell? ⟨w.heap.size, 5, none⟩ = some (.string d.digest) ∧ wx.cell? ⟨w.heap.size, 6, none⟩ = some (.string d.text) ∧ wx.cell? ⟨w.heap.size, 7, none⟩ = some (.slice none 0 0)) wx) := fun wx X Y => ⟨X.cell rfl, X.cell rfl, Y.cell rfl, Y.cell rfl, Y.cell rfl, Y.cell rfl, Y.cell rfl, Y.cell rfl, Y.cell rfl, Y.cell rfl⟩
  refine wp_region_held_drew (S := (fun wx => wx.cell? ⟨q, 5, none⟩ = some (.pointer (some ⟨p, 0, none⟩)) ∧ wx.cell? ⟨q, 4, none⟩ = some (.int .i64 C.id) ∧ wx.cell? ⟨w.heap.size, 0, none⟩ = some (.int .i64 d.kind) ∧ wx.cell? ⟨w.heap.size, 1, none⟩ = some (.int .i64 d.view) ∧ wx.cell? ⟨w.heap.size, 2, none⟩ = some (.int .i64 d.seq) ∧ wx.cell? ⟨w.heap.size, 3, none⟩ = some (.int .i64 d.client) ∧ wx.cell? ⟨w.heap.size, 4, none⟩ = some (.int .i64 d.stamp) ∧ wx.cell? ⟨w.heap.size, 5, none⟩ = some (.string d.digest) ∧ wx.cell? ⟨w.heap.size, 6, none⟩ = some (.string d.text) ∧ wx.cell? ⟨w.heap.size, 7, none⟩ = some (.slice none 0 0))) (by kernel_rfl) (HSC.out _ XQ.drew XB.drew) (fun hS => ?_)
  refine wpAnyH_take (i := 0) (v := (.pointer (some ⟨q, 0, none⟩))) rfl (by kernel_rfl) (by kernel_rfl) (by kernel_rfl) (fun _ _ _ h => h) (Or.inl ⟨by kernel_rfl, fun w hS => by obtain ⟨s0, s1, s2, s3, s4, s5, s6, s7, s8, s9⟩ := hS; go_simp⟩) hS ?_
  refine wpAnyH_take (i := 1) (v := (.pointer (some ⟨q, 0, none⟩))) rfl (by kernel_rfl) (by kernel_rfl) (by kernel_rfl) (fun _ _ _ h => h) (Or.inl ⟨by kernel_rfl, fun w hS => by obtain ⟨s0, s1, s2, s3, s4, s5, s6, s7, s8, s9⟩ := hS; go_simp⟩) hS ?_
  refine wpAnyH_take (i := 2) (v := (.pointer (some ⟨q, 5, none⟩))) rfl (by kernel_rfl) (by kernel_rfl) (by kernel_rfl) (fun _ _ _ h => h) (Or.inl ⟨by kernel_rfl, fun w hS => by obtain ⟨s0, s1, s2, s3, s4, s5, s6, s7, s8, s9⟩ := hS; go_simp⟩) hS ?_
  refine wpAnyH_take (i := 3) (v := (.pointer (some ⟨p, 0, none⟩))) rfl (by kernel_rfl) (by kernel_rfl) (by kernel_rfl) (fun _ _ _ h => h) (Or.inl ⟨by kernel_rfl, fun w hS => by obtain ⟨s0, s1, s2, s3, s4, s5, s6, s7, s8, s9⟩ := hS; go_simp⟩) hS ?_
  refine wpAnyH_take (i := 4) (v := (.pointer (some ⟨q, 0, none⟩))) rfl (by kernel_rfl) (by kernel_rfl) (by kernel_rfl) (fun _ _ _ h => h) (Or.inl ⟨by kernel_rfl, fun w hS => by obtain ⟨s0, s1, s2, s3, s4, s5, s6, s7, s8, s9⟩ := hS; go_simp⟩) hS ?_
  refine wpAnyH_take (i := 5) (v := (.pointer (some ⟨q, 0, none⟩))) rfl (by kernel_rfl) (by kernel_rfl) (by kernel_rfl) (fun _ _ _ h => h) (Or.inl ⟨by kernel_rfl, fun w hS => by obtain ⟨s0, s1, s2, s3, s4, s5, s6, s7, s8, s9⟩ := hS; go_simp⟩) hS ?_
  refine wpAnyH_take (i := 6) (v := (.pointer (some ⟨q, 4, none⟩))) rfl (by kernel_rfl) (by kernel_rfl) (by kernel_rfl) (fun _ _ _ h => h) (Or.inl ⟨by kernel_rfl, fun w hS => by obtain ⟨s0, s1, s2, s3, s4, s5, s6, s7, s8, s9⟩ := hS; go_simp⟩) hS ?_
  refine wpAnyH_take (i := 7) (v := (.int .i64 C.id)) rfl (by kernel_rfl) (by kernel_rfl) (by kernel_rfl) (fun _ _ _ h => h) (Or.inl ⟨by kernel_rfl, fun w hS => by obtain ⟨s0, s1, s2, s3, s4, s5, s6, s7, s8, s9⟩ := hS; go_simp⟩) hS ?_
  refine wpAnyH_take (i := 8) (v := (.int .i64 (100 + C.id))) rfl (by kernel_rfl) (by kernel_rfl) (by kernel_rfl) (fun _ _ _ h => h) (Or.inl ⟨by kernel_rfl, fun w hS => by obtain ⟨s0, s1, s2, s3, s4, s5, s6, s7, s8, s9⟩ := hS; go_simp⟩) hS ?_
  refine wpAnyH_take (i := 9) (v := (.agg #[.int .i64 d.kind, .int .i64 d.view, .int .i64 d.seq, .int .i64 d.client, .int .i64 d.stamp, .string d.digest, .string d.text, .slice none 0 0])) rfl (by kernel_rfl) (by kernel_rfl) (by kernel_rfl) (fun _ _ _ h => h) (Or.inl ⟨by kernel_rfl, fun w hS => by obtain ⟨s0, s1, s2, s3, s4, s5, s6, s7, s8, s9⟩ := hS; go_simp⟩) hS ?_
  refine wpAnyH_ready (rs := [10, 14]) (by kernel_rfl) (by simp) ?_
  refine AllReadyH.cons rfl (fun K hK => ?_) (AllReadyH.cons rfl (fun K hK => ?_) AllReadyH.nil)
  · go_simp
    refine Calls.mono (HSe.out _ (H1.book.below (by go_grown))) ?_
    rintro e w5 ⟨rfl, K5, o5⟩
    have od : Off2 x y W1 w5 := (Off2.of_below (by go_grown)).trans o5
    have H5 := H1.off2 K5 od
    have HXB : Hid (Blk w5 w.heap.size (d.cells (.slice none 0 0)) 54) := XB.off2 od (by omega) (by omega)
    have z5 := od.size
    refine hK.out _ _ (HSC.out _ H5.blk HXB.out) (fun hS => ?_)
    clear hK
    refine wpAnyH_take (i := 11) (v := (.tuple #[.agg #[.int .i64 M.frm, .string M.body, .string M.sig], .int .i64 0])) rfl (by kernel_rfl) (by kernel_rfl) (by kernel_rfl) (fun _ _ _ h => h) (Or.inl ⟨by kernel_rfl, fun w hS => by obtain ⟨s0, s1, s2, s3, s4, s5, s6, s7, s8, s9⟩ := hS; go_simp⟩) hS ?_
    refine wpAnyH_take (i := 12) (v := (.agg #[.int .i64 M.frm, .string M.body, .string M.sig])) rfl (by kernel_rfl) (by kernel_rfl) (by kernel_rfl) (fun _ _ _ h => h) (Or.inl ⟨by kernel_rfl, fun w hS => by obtain ⟨s0, s1, s2, s3, s4, s5, s6, s7, s8, s9⟩ := hS; go_simp⟩) hS ?_
    refine wpAnyH_take (i := 13) (v := (.int .i64 0)) rfl (by kernel_rfl) (by kernel_rfl) (by kernel_rfl) (fun _ _ _ h => h) (Or.inl ⟨by kernel_rfl, fun w hS => by obtain ⟨s0, s1, s2, s3, s4, s5, s6, s7, s8, s9⟩ := hS; go_simp⟩) hS ?_
    refine wpAnyH_ready (rs := [14]) (by kernel_rfl) (by simp) ?_
    refine AllReadyH.cons rfl (fun K hK => ?_) AllReadyH.nil
    obtain ⟨WA, hWA, NA, bA, zA⟩ : ∃ WA, w5.alloc (.cells #[.int .i64 0, .string ⟨#[]⟩, .string ⟨#[]⟩] 49) = WA ∧ Blk WA w5.heap.size #[.int .i64 0, .string ⟨#[]⟩, .string ⟨#[]⟩] 49 ∧ Below w5.heap.size w5 WA ∧ WA.heap.size = w5.heap.size + 1 :=
      ⟨_, rfl, blk_new _ _ _ _ rfl, by go_grown, by simp⟩
    have HXA : Hid (Blk WA w.heap.size (d.cells (.slice none 0 0)) 54) := Blk.below HXB.out bA
    have HKp : Hid (Kpt av w WA) := ((Kpt.of_below B1).trans (Kpt.of_off2 H1.book od)).trans (Kpt.of_below bA)
    have HA := H5.keep bA
    clear HXB
    have HXB := HXA
    go_simp
    refine hK.out _ _ (HSC.out _ HA.blk HXB.out) (fun hS => ?_)
    clear hK
    have HZ : Hid (∀ W, WA.setRow w5.heap.size #[.int .i64 M.frm, .string M.body, .string M.sig] = W → St w0 W p b x y T S' q tm tc av C) := fun W hW => HA.setOff hW NA (by decide) (by decide) (by decide) (by decide) (by have := h.below.size; have := HZ1.out; omega)
    have HZs : Hid (w.heap.size < w5.heap.size) := by show _ < _; have := HZ1.out; omega
    obtain ⟨W6, hW6, N6, N6b, N6s, N6o, N6t, N6u⟩ := setRow_named NA #[.int .i64 M.frm, .string M.body, .string M.sig]
    have H6 : St w0 W6 p b x y T S' q tm tc av C := HZ.out W6 hW6
    have HX6 : Hid (Blk W6 w.heap.size (d.cells (.slice none 0 0)) 54) := blk_row HXB.out hW6 (by have := HZs.out; omega)
    clear N6b N6s N6o N6t N6u
    refine wpAnyH_ready (rs := [15]) (by kernel_rfl) (by simp) ?_
    refine readyH_rowC 15 rfl (ty := 49) (x := .tmp 6) (y := .tmp 20) rfl rfl rfl (w5.heap.size) #[.int .i64 M.frm, .string M.body, .string M.sig] (by kernel_rfl) (by kernel_rfl) 49 #[.int .i64 0, .string ⟨#[]⟩, .string ⟨#[]⟩] NA infoSg3 rfl (by simp [Value.oneCell']) (by rw [hW6]; exact HSC.out _ H6.blk HX6.out) (fun hS => ?_)
    rw [hW6]
    rw [hW6] at hS
    refine wpAnyH_take (i := 16) (v := (.int .i64 0)) rfl (by kernel_rfl) (by kernel_rfl) (by kernel_rfl) (fun _ _ _ h => h) (Or.inl ⟨by kernel_rfl, fun w hS => by obtain ⟨s0, s1, s2, s3, s4, s5, s6, s7, s8, s9⟩ := hS; go_simp⟩) hS ?_
    refine wpAnyH_done (by kernel_rfl) ?_ _
    clear hS HSC
    go_simp
    go_wp2_with ((with_reducible refine rd_row (ty := 49) N6 Tryz.underlying49 rfl HGs.out ?_ ?_); rfl)
    refine Calls.mono (HPu.out _) ?_
    rintro e w8 ⟨rfl, b8⟩
    go_wp2
    go_ret2
    exact ⟨rfl, H6.keep b8, (HKp.out.row hW6 (by have := HZs.out; omega)).trans (Kpt.of_below b8)⟩
  · obtain ⟨WA, hWA, NA, bA, zA⟩ : ∃ WA, W1.drew.alloc (.cells #[.int .i64 0, .string ⟨#[]⟩, .string ⟨#[]⟩] 49) = WA ∧ Blk WA W1.heap.size #[.int .i64 0, .string ⟨#[]⟩, .string ⟨#[]⟩] 49 ∧ Below W1.heap.size W1 WA ∧ WA.heap.size = W1.heap.size + 1 :=
      ⟨_, rfl, blk_new _ _ _ _ rfl, by go_grown, by simp⟩
    have HA := H1.keep bA
    have XA := XB.below bA
    go_simp
    refine hK.out _ _ (HSC.out _ HA.blk XA) (fun hS => ?_)
    clear hK
    refine wpAnyH_ready (rs := [10]) (by kernel_rfl) (by simp) ?_
    refine AllReadyH.cons rfl (fun K hK => ?_) AllReadyH.nil
    go_simp
    refine Calls.mono (HSe.out _ HA.book) ?_
    rintro e w5 ⟨rfl, K5, o5⟩
    have H5 := HA.off2 K5 o5
    have HXB : Hid (Blk w5 w.heap.size (d.cells (.slice none 0 0)) 54) := XA.off2 o5 (by omega) (by omega)
    have z5 := o5.size
    have N5 := NA.off2 o5 (by have := HZ1.out; omega) (by have := HZ1.out; omega)
    have HKp : Hid (Kpt av w w5) := ((Kpt.of_below B1).trans (Kpt.of_below bA)).trans (Kpt.of_off2 HA.book o5)
    refine hK.out _ _ (HSC.out _ H5.blk HXB.out) (fun hS => ?_)
    clear hK
    refine wpAnyH_take (i := 11) (v := (.tuple #[.agg #[.int .i64 M.frm, .string M.body, .string M.sig], .int .i64 0])) rfl (by kernel_rfl) (by kernel_rfl) (by kernel_rfl) (fun _ _ _ h => h) (Or.inl ⟨by kernel_rfl, fun w hS => by obtain ⟨s0, s1, s2, s3, s4, s5, s6, s7, s8, s9⟩ := hS; go_simp⟩) hS ?_
    refine wpAnyH_take (i := 12) (v := (.agg #[.int .i64 M.frm, .string M.body, .string M.sig])) rfl (by kernel_rfl) (by kernel_rfl) (by kernel_rfl) (fun _ _ _ h => h) (Or.inl ⟨by kernel_rfl, fun w hS => by obtain ⟨s0, s1, s2, s3, s4, s5, s6, s7, s8, s9⟩ := hS; go_simp⟩) hS ?_
    refine wpAnyH_take (i := 13) (v := (.int .i64 0)) rfl (by kernel_rfl) (by kernel_rfl) (by kernel_rfl) (fun _ _ _ h => h) (Or.inl ⟨by kernel_rfl, fun w hS => by obtain ⟨s0, s1, s2, s3, s4, s5, s6, s7, s8, s9⟩ := hS; go_simp⟩) hS ?_
    have HZ : Hid (∀ W, w5.setRow W1.heap.size #[.int .i64 M.frm, .string M.body, .string M.sig] = W → St w0 W p b x y T S' q tm tc av C) := fun W hW => H5.setOff hW N5 (by decide) (by decide) (by decide) (by decide) (by have := h.below.size; have := HZ1.out; omega)
    have HZs : Hid (w.heap.size < W1.heap.size) := by show _ < _; have := HZ1.out; omega
    obtain ⟨W6, hW6, N6, N6b, N6s, N6o, N6t, N6u⟩ := setRow_named N5 #[.int .i64 M.frm, .string M.body, .string M.sig]
    have H6 : St w0 W6 p b x y T S' q tm tc av C := HZ.out W6 hW6
    have HX6 : Hid (Blk W6 w.heap.size (d.cells (.slice none 0 0)) 54) := blk_row HXB.out hW6 (by have := HZs.out; omega)
    clear N6b N6s N6o N6t N6u
    refine wpAnyH_ready (rs := [15]) (by kernel_rfl) (by simp) ?_
    refine readyH_rowC 15 rfl (ty := 49) (x := .tmp 6) (y := .tmp 20) rfl rfl rfl (W1.heap.size) #[.int .i64 M.frm, .string M.body, .string M.sig] (by kernel_rfl) (by kernel_rfl) 49 #[.int .i64 0, .string ⟨#[]⟩, .string ⟨#[]⟩] N5 infoSg3 rfl (by simp [Value.oneCell']) (by rw [hW6]; exact HSC.out _ H6.blk HX6.out) (fun hS => ?_)
    rw [hW6]
    rw [hW6] at hS
    refine wpAnyH_take (i := 16) (v := (.int .i64 0)) rfl (by kernel_rfl) (by kernel_rfl) (by kernel_rfl) (fun _ _ _ h => h) (Or.inl ⟨by kernel_rfl, fun w hS => by obtain ⟨s0, s1, s2, s3, s4, s5, s6, s7, s8, s9⟩ := hS; go_simp⟩) hS ?_
    refine wpAnyH_done (by kernel_rfl) ?_ _
    clear hS HSC
    go_simp
    go_wp2_with ((with_reducible refine rd_row (ty := 49) N6 Tryz.underlying49 rfl HGs.out ?_ ?_); rfl)
    refine Calls.mono (HPu.out _) ?_
    rintro e w8 ⟨rfl, b8⟩
    go_wp2
    go_ret2
    exact ⟨rfl, H6.keep b8, (HKp.out.row hW6 (by have := HZs.out; omega)).trans (Kpt.of_below b8)⟩
-- END OF signed
end Go.Proofs.YtocphdikppeijaaGreat
