/- A request of the client and of its model. -/
import Derived.Test.YtbbhihkeljpikaaClTa
import Derived.Test.YtbbhihkeljpikaaClXK
import Derived.Test.YtbbhihkeljpikaaRefFT
namespace Go.Proofs.Ytbbhihkeljpikaa
open Go.RowKit
set_option linter.unusedSimpArgs false
set_option linter.unusedVariables false

variable {p b x y : Nat} {T : List ByteArray} {S : List (Int × ByteArray)} {q tm tc : Nat} {av : Value} {C : Cs} {w0 : World} {m : Nat} {hv yv : Value} {Y : Mo}
theorem SentTo.setOff {w W : World} {v : Value} {n k : Nat} {s : ByteArray} {cs cs' : Array Value} {t : TypeId} (h : SentTo w v n s) (hW : w.setRow k cs' = W) (X : Blk w k cs t) (ht : t ≠ 73) : SentTo W v n s := by
  obtain ⟨g, hv, ds, Z, hc⟩ := h
  refine ⟨g, hv, ds, blk_row Z hW (fun e => ?_), hc⟩
  unfold Blk at X Z
  rw [e, X] at Z
  exact ht (by simpa using (Obj.cells.inj (Option.some.inj Z)).2.1)
theorem SentTo.ofm {w w' : World} {v : Value} {n : Nat} {s : ByteArray} (h : SentTo w v n s) (hm : Md w0 w m hv yv Y) (ho : Ofm m hv yv w w') : SentTo w' v n s := by
  obtain ⟨g, hv2, ds, Z, hc⟩ := h
  refine ⟨g, hv2, ds, (ho.block g Z.lt (fun e => ?_) (fun e => ?_) (fun e => ?_)).trans Z, hc⟩
  · have X := hm.blk
    unfold Blk at X Z
    rw [← e, Z] at X
    cases X
  · obtain ⟨cur, hcc⟩ := own_heap hm.hrow e
    unfold Blk at Z
    rw [Z] at hcc
    cases hcc
  · obtain ⟨cur, hcc⟩ := own_heap hm.arow e
    unfold Blk at Z
    rw [Z] at hcc
    cases hcc
theorem Md.setOff {w W : World} {k : Nat} {cs cs' : Array Value} {t : TypeId} (h : Md w0 w m hv yv Y) (hW : w.setRow k cs' = W) (X : Blk w k cs t) (h1 : t ≠ 37) (h2 : t ≠ 101) (h3 : t ≠ 44) (hk : w0.heap.size ≤ k) : Md w0 W m hv yv Y := by
  have hg : ∀ j, j ≠ k → W.heap[j]? = w.heap[j]? := fun j hj => by rw [← hW]; exact setRow_other w k j cs' hj
  have nt : ∀ (u : TypeId) (cur : Array Value) (j : Nat), u ≠ t → w.heap[j]? = some (.cells cur u (0, 0)) → W.heap[j]? = w.heap[j]? := fun u cur j hu hc => hg j (fun e => by
    unfold Blk at X
    rw [e, X] at hc
    exact hu (by simpa using (Obj.cells.inj (Option.some.inj hc)).2.1.symm))
  exact ⟨below_row h.below hW hk, (nt _ _ _ (Ne.symm h1) h.blk).trans h.blk, own_same h.hrow (fun j cur _ hc => nt _ _ _ (Ne.symm h2) hc), own_same h.arow (fun j cur _ hc => nt _ _ _ (Ne.symm h3) hc), h.low⟩
theorem asks_long (op : ByteArray) (w : World) {k : Nat} (h : Both w0 w p b x y q tm m k S tc av C hv yv Y) (hz : op.size ≤ 140737488351232) (ho : 256 < op.size) : Calls Try.prog 15 #[.pointer (some ⟨m, 0, none⟩), .pointer (some ⟨q, 0, none⟩), .pointer (some ⟨p, 0, none⟩), .string op] w fun e w' => e = .returned (.bool true) ∧ w' = w := by
  have HR : Hid _ := request_long op w h.st ho hz
  have hd : decide (256 < (op.size : Int)) = true := decide_eq_true (by omega)
  go_enter Try.func15, Try.ntmps15
  go_wp2_with fail
  refine Calls.mono HR.out ?_
  rintro e w ⟨rfl, rfl⟩
  go_wp2
  go_ret
  exact ⟨rfl, rfl⟩
theorem asks_busy (op : ByteArray) (w : World) {k : Nat} (h : Both w0 w p b x y q tm m k S tc av C hv yv Y) (ho : op.size ≤ 256) (hw : C.waits = true) : Calls Try.prog 15 #[.pointer (some ⟨m, 0, none⟩), .pointer (some ⟨q, 0, none⟩), .pointer (some ⟨p, 0, none⟩), .string op] w fun e w' => e = .returned (.bool true) ∧ w' = w := by
  have HR : Hid _ := request_busy op w h.st ho hw
  have hd : decide (256 < (op.size : Int)) = false := decide_eq_false (by omega)
  have c4 : w.cell? ⟨m, 4, none⟩ = some (.bool true) := by rw [← hw, ← h.sim.waits]; exact h.md.blk.cell rfl
  go_enter Try.func15, Try.ntmps15
  go_wp2_with fail
  refine Calls.mono HR.out ?_
  rintro e w ⟨rfl, rfl⟩
  go_wp2
  go_ret
  exact ⟨rfl, rfl⟩
set_option maxHeartbeats 8000000 in
set_option maxRecDepth 100000 in
theorem asks_ok (op : ByteArray) (w : World) {k : Nat} (h : Both w0 w p b x y q tm m k S tc av C hv yv Y) (hk : k ≤ 1000) (ho : op.size ≤ 256) (hw : C.waits = false) : Calls Try.prog 15 #[.pointer (some ⟨m, 0, none⟩), .pointer (some ⟨q, 0, none⟩), .pointer (some ⟨p, 0, none⟩), .string op] w fun e w' => e = .returned (.bool true) ∧ ∃ S' C' hv' Y', Both w0 w' p b x y q tm m (k + 1) S' tc av C' hv' yv Y' := by
  have hcf := h.inv.cf
  obtain ⟨f, hf⟩ : ∃ f : Nat, C.cf = (f : Int) := ⟨C.cf.toNat, by omega⟩
  have hid := h.idr
  have hstp := h.stp
  have hsl := h.sl
  have HR : Hid _ := request_ok op w h.st (by omega) f hf (by omega) (by omega) (by omega) ho hw
  have hd : decide (256 < (op.size : Int)) = false := decide_eq_false (by omega)
  have hsg : isSg (100 + C.id) = true := by unfold isSg; simp only [decide_eq_true_eq]; omega
  have he := request_right C.id (C.stamp + 1) op (by omega) (by omega) ho
  have hok := sgM_ok S (100 + C.id) (smB 1 C.id (C.stamp + 1) op) hsg
  have hnl := note_len S (100 + C.id, byS (smB 1 C.id (C.stamp + 1) op))
  have hRs : sealR (note S (100 + C.id, byS (smB 1 C.id (C.stamp + 1) op))) (100 + C.id) (smB 1 C.id (C.stamp + 1) op) = (sgM S (100 + C.id) (smB 1 C.id (C.stamp + 1) op), 0) := by
    unfold sealR; rw [if_pos he, hsg, ← sgM_again]; rfl
  have hRS : sealS (note S (100 + C.id, byS (smB 1 C.id (C.stamp + 1) op))) (100 + C.id) (smB 1 C.id (C.stamp + 1) op) = note S (100 + C.id, byS (smB 1 C.id (C.stamp + 1) op)) := by
    unfold sealS signS; rw [if_pos he, hsg, note_again]; rfl
  have HSe : Hid (∀ wx, Book wx p b x y [] (note S (100 + C.id, byS (smB 1 C.id (C.stamp + 1) op))) → _) := fun wx hx => seal_calls (100 + C.id) (smB 1 C.id (C.stamp + 1) op) none 0 0 wx hx (by omega) (show (⟨#[]⟩ : ByteArray).size ≤ maxLen by decide) (by unfold smB maxLen; show op.size ≤ _; omega) (show ([] : List Sg).length < _ by decide) (Or.inl ⟨⟨none, 0, rfl⟩, rfl⟩)
  rw [hRs, hRS] at HSe
  unfold smB Bd.val at HSe
  have hfull := sgB_full (sgM S (100 + C.id) (smB 1 C.id (C.stamp + 1) op))
  have HOn : Hid _ := fun wx => one_ref (sgM S (100 + C.id) (smB 1 C.id (C.stamp + 1) op)) wx hok
  obtain ⟨M, hM⟩ : ∃ M, sgM S (100 + C.id) (smB 1 C.id (C.stamp + 1) op) = M := ⟨_, rfl⟩
  obtain ⟨S1, hS1⟩ : ∃ S1, note S (100 + C.id, byS (smB 1 C.id (C.stamp + 1) op)) = S1 := ⟨_, rfl⟩
  have hM2 : sgM S (100 + C.id) { kind := 1, view := 0, seq := 0, client := C.id, stamp := C.stamp + 1, digest := ⟨#[]⟩, text := op, list := [] } = M := hM
  have hS2 : note S (100 + C.id, byS { kind := 1, view := 0, seq := 0, client := C.id, stamp := C.stamp + 1, digest := ⟨#[]⟩, text := op, list := [] }) = S1 := hS1
  rw [hM, hS1] at HR
  rw [hM] at HOn hfull
  rw [hM2, hS2] at HSe
  rw [hS1] at hnl
  obtain ⟨s, hs⟩ : ∃ s, (⟨(sgB M).toArray⟩ : ByteArray) = s := ⟨_, rfl⟩
  rw [hs] at HR HOn hfull
  rw [← h.sim.id, ← h.sim.stamp] at HSe
  unfold Sg.val at HSe HOn
  have HGs : Hid ((Try.prog.info? 62).map (·.size) = some (#[.int .i64 M.frm, .string M.body, .string M.sig] : Array Value).size) := infoSg3
  have e1 : IntKind.i64.wrap (Y.stamp + 1) = Y.stamp + 1 := wrapC (by rw [h.sim.stamp]; omega) (by rw [h.sim.stamp]; omega)
  have e2 : IntKind.i64.wrap (100 + Y.id) = 100 + Y.id := wrapC (by rw [h.sim.id]; omega) (by rw [h.sim.id]; omega)
  have HB : Hid _ := h
  have HF4 : Hid (f ≤ 4) := by show _ ≤ _; omega
  have HFf : Hid (Y.f = (f : Int)) := h.sim.f.trans hf
  have HAp : Hid _ := h.apt
  have HW : Hid (C.waits = false) := hw
  have HYW : Hid (Y.waits = false) := h.sim.waits.trans hw
  have HEnd : Hid (∀ wx, St w0 wx p b x y [] S1 q tm tc av (C.ask s) → Md w0 wx m (.slice none 0 0) yv { Y with stamp := Y.stamp + 1, waits := true, ticks := 0, heard := [], asked := s } → ∃ S' C' hv' Y', Both w0 wx p b x y q tm m (k + 1) S' tc av C' hv' yv Y') := fun wx h1 h2 => by
    have hwt : (C.ask s).waits = true := by unfold Cs.waits; exact decide_eq_true hfull
    have htl : C.told = [] ∨ True := Or.inr trivial
    refine ⟨S1, C.ask s, _, _, h1, h2, HAp.out, ⟨HB.out.sim.f, HB.out.sim.id, ?_, ?_, HB.out.sim.ans, fun _ => ⟨rfl, ?_, rfl⟩, fun hx => absurd hx (by rw [hwt]; decide)⟩, ⟨HB.out.inv.keys, HB.out.inv.rng, HB.out.inv.cf⟩, by omega, by have := HB.out.al; show C.ans.length ≤ _; omega, Nat.zero_le _, ?_, ?_, HB.out.idr⟩
    · show Y.stamp + 1 = C.stamp + 1
      rw [HB.out.sim.stamp]
    · rw [hwt]
    · show [] = C.told
      exact (HB.out.sim.idle HW.out).symm
    · show 0 ≤ C.stamp + 1 ∧ C.stamp + 1 ≤ ((k + 1 : Nat) : Int)
      omega
    · show 0 ≤ (0 : Int) ∧ (0 : Int) ≤ ((k + 1 : Nat) : Int)
      omega
  clear hRs hRS hok he hM hS1 hM2 hS2 hs hnl hfull h hid hstp hsl hcf hf hsg hw
  go_enter Try.func15, Try.ntmps15
  go_wp2_with fail
  refine Calls.mono HR.out ?_
  rintro e w1 ⟨v, rfl, T1, H1, k1⟩
  have M1 := HB.out.md.kpt HB.out.st H1.below k1 HAp.out
  have c4 : w1.cell? ⟨m, 4, none⟩ = some (.bool false) := by rw [← HYW.out]; exact M1.blk.cell rfl
  have c2 : w1.cell? ⟨m, 2, none⟩ = some (.int .i64 Y.stamp) := M1.blk.cell rfl
  have f2 : w1.frozen? ⟨m, 2, none⟩ = false := M1.blk.frozen
  obtain ⟨W2, hW2, M2, o2⟩ := M1.put (Y' := { Y with stamp := Y.stamp + 1 }) 2 (.int .i64 (Y.stamp + 1)) rfl rfl rfl
  have H2 := H1.ofm M1 o2 HAp.out
  have T2 := T1.ofm M1 o2
  have d4 : W2.cell? ⟨m, 4, none⟩ = some (.bool Y.waits) := M2.blk.cell rfl
  have f4 : W2.frozen? ⟨m, 4, none⟩ = false := M2.blk.frozen
  obtain ⟨W3, hW3, M3, o3⟩ := M2.put (Y' := { Y with stamp := Y.stamp + 1, waits := true }) 4 (.bool true) rfl rfl rfl
  have H3 := H2.ofm M2 o3 HAp.out
  have T3 := T2.ofm M2 o3
  have d3 : W3.cell? ⟨m, 3, none⟩ = some (.int .i64 Y.ticks) := M3.blk.cell rfl
  have f3 : W3.frozen? ⟨m, 3, none⟩ = false := M3.blk.frozen
  obtain ⟨W4, hW4, M4, o4⟩ := M3.put (Y' := { Y with stamp := Y.stamp + 1, waits := true, ticks := 0 }) 3 (.int .i64 0) rfl rfl rfl
  have H4 := H3.ofm M3 o4 HAp.out
  have T4 := T3.ofm M3 o4
  obtain ⟨ha0, hcap, hhv⟩ := own_sl M4.hrow
  have d6 : W4.cell? ⟨m, 6, none⟩ = some hv := M4.blk.cell rfl
  rw [hhv] at d6
  have f6 : W4.frozen? ⟨m, 6, none⟩ = false := M4.blk.frozen
  obtain ⟨W5, hW5, M5, o5⟩ := M4.forget
  have H5 := H4.ofm M4 o5 HAp.out
  have T5 := T4.ofm M4 o5
  have HS5 : Hid _ := H5
  have HT5 : Hid _ := T5
  have HM5 : Hid (Md w0 W5 m (.slice none 0 0) yv { Y with stamp := Y.stamp + 1, waits := true, ticks := 0, heard := [] }) := M5
  clear H1 H2 H3 H4 H5 T1 T2 T3 T4 T5 M1 M2 M3 M4 M5 o2 o3 o4 o5 hhv k1
  go_wp2_with fail
  have HSC : Hid (∀ wx, Md w0 wx m (.slice none 0 0) yv { Y with stamp := Y.stamp + 1, waits := true, ticks := 0, heard := [] } → (fun wx => wx.cell? ⟨m, 1, none⟩ = some (.int .i64 Y.id) ∧ wx.cell? ⟨m, 2, none⟩ = some (.int .i64 (Y.stamp + 1))) wx) := fun wx X => ⟨X.blk.cell rfl, X.blk.cell rfl⟩
  refine wp_region_held_drew (S := (fun wx => wx.cell? ⟨m, 1, none⟩ = some (.int .i64 Y.id) ∧ wx.cell? ⟨m, 2, none⟩ = some (.int .i64 (Y.stamp + 1)))) (by kernel_rfl) (HSC.out _ (HM5.out.keep (Below.refl _ _).drew)) (fun hS => ?_)
  refine wpAnyH_take (i := 0) (v := (.pointer (some ⟨p, 0, none⟩))) rfl (by kernel_rfl) (by kernel_rfl) (by kernel_rfl) (fun _ _ _ h => h) (Or.inl ⟨by kernel_rfl, fun w hS => by obtain ⟨s0, s1⟩ := hS; go_simp⟩) hS ?_
  refine wpAnyH_take (i := 1) (v := (.pointer (some ⟨m, 0, none⟩))) rfl (by kernel_rfl) (by kernel_rfl) (by kernel_rfl) (fun _ _ _ h => h) (Or.inl ⟨by kernel_rfl, fun w hS => by obtain ⟨s0, s1⟩ := hS; go_simp⟩) hS ?_
  refine wpAnyH_take (i := 2) (v := (.pointer (some ⟨m, 0, none⟩))) rfl (by kernel_rfl) (by kernel_rfl) (by kernel_rfl) (fun _ _ _ h => h) (Or.inl ⟨by kernel_rfl, fun w hS => by obtain ⟨s0, s1⟩ := hS; go_simp⟩) hS ?_
  refine wpAnyH_take (i := 3) (v := (.pointer (some ⟨m, 1, none⟩))) rfl (by kernel_rfl) (by kernel_rfl) (by kernel_rfl) (fun _ _ _ h => h) (Or.inl ⟨by kernel_rfl, fun w hS => by obtain ⟨s0, s1⟩ := hS; go_simp⟩) hS ?_
  refine wpAnyH_take (i := 4) (v := (.int .i64 Y.id)) rfl (by kernel_rfl) (by kernel_rfl) (by kernel_rfl) (fun _ _ _ h => h) (Or.inl ⟨by kernel_rfl, fun w hS => by obtain ⟨s0, s1⟩ := hS; go_simp⟩) hS ?_
  refine wpAnyH_take (i := 5) (v := (.int .i64 (100 + Y.id))) rfl (by kernel_rfl) (by kernel_rfl) (by kernel_rfl) (fun _ _ _ h => h) (Or.inl ⟨by kernel_rfl, fun w hS => by obtain ⟨s0, s1⟩ := hS; go_simp⟩) hS ?_
  refine wpAnyH_take (i := 6) (v := (.pointer (some ⟨m, 0, none⟩))) rfl (by kernel_rfl) (by kernel_rfl) (by kernel_rfl) (fun _ _ _ h => h) (Or.inl ⟨by kernel_rfl, fun w hS => by obtain ⟨s0, s1⟩ := hS; go_simp⟩) hS ?_
  refine wpAnyH_take (i := 7) (v := (.pointer (some ⟨m, 0, none⟩))) rfl (by kernel_rfl) (by kernel_rfl) (by kernel_rfl) (fun _ _ _ h => h) (Or.inl ⟨by kernel_rfl, fun w hS => by obtain ⟨s0, s1⟩ := hS; go_simp⟩) hS ?_
  refine wpAnyH_take (i := 8) (v := (.pointer (some ⟨m, 1, none⟩))) rfl (by kernel_rfl) (by kernel_rfl) (by kernel_rfl) (fun _ _ _ h => h) (Or.inl ⟨by kernel_rfl, fun w hS => by obtain ⟨s0, s1⟩ := hS; go_simp⟩) hS ?_
  refine wpAnyH_take (i := 9) (v := (.int .i64 Y.id)) rfl (by kernel_rfl) (by kernel_rfl) (by kernel_rfl) (fun _ _ _ h => h) (Or.inl ⟨by kernel_rfl, fun w hS => by obtain ⟨s0, s1⟩ := hS; go_simp⟩) hS ?_
  refine wpAnyH_take (i := 10) (v := (.pointer (some ⟨m, 0, none⟩))) rfl (by kernel_rfl) (by kernel_rfl) (by kernel_rfl) (fun _ _ _ h => h) (Or.inl ⟨by kernel_rfl, fun w hS => by obtain ⟨s0, s1⟩ := hS; go_simp⟩) hS ?_
  refine wpAnyH_take (i := 11) (v := (.pointer (some ⟨m, 0, none⟩))) rfl (by kernel_rfl) (by kernel_rfl) (by kernel_rfl) (fun _ _ _ h => h) (Or.inl ⟨by kernel_rfl, fun w hS => by obtain ⟨s0, s1⟩ := hS; go_simp⟩) hS ?_
  refine wpAnyH_take (i := 12) (v := (.pointer (some ⟨m, 2, none⟩))) rfl (by kernel_rfl) (by kernel_rfl) (by kernel_rfl) (fun _ _ _ h => h) (Or.inl ⟨by kernel_rfl, fun w hS => by obtain ⟨s0, s1⟩ := hS; go_simp⟩) hS ?_
  refine wpAnyH_take (i := 13) (v := (.int .i64 (Y.stamp + 1))) rfl (by kernel_rfl) (by kernel_rfl) (by kernel_rfl) (fun _ _ _ h => h) (Or.inl ⟨by kernel_rfl, fun w hS => by obtain ⟨s0, s1⟩ := hS; go_simp⟩) hS ?_
  refine wpAnyH_take (i := 14) (v := (.string op)) rfl (by kernel_rfl) (by kernel_rfl) (by kernel_rfl) (fun _ _ _ h => h) (Or.inl ⟨by kernel_rfl, fun w hS => by obtain ⟨s0, s1⟩ := hS; go_simp⟩) hS ?_
  refine wpAnyH_take (i := 15) (v := (.agg #[.int .i64 1, .int .i64 0, .int .i64 0, .int .i64 Y.id, .int .i64 (Y.stamp + 1), .string ⟨#[]⟩, .string op, .slice none 0 0])) rfl (by kernel_rfl) (by kernel_rfl) (by kernel_rfl) (fun _ _ _ h => h) (Or.inl ⟨by kernel_rfl, fun w hS => by obtain ⟨s0, s1⟩ := hS; go_simp⟩) hS ?_
  refine wpAnyH_ready (rs := [16, 20]) (by kernel_rfl) (by simp) ?_
  refine AllReadyH.cons rfl (fun K hK => ?_) (AllReadyH.cons rfl (fun K hK => ?_) AllReadyH.nil)
  · go_simp
    refine Calls.mono (HSe.out _ (HS5.out.book.below (Below.refl _ _).drew)) ?_
    rintro e w6 ⟨rfl, K6, o6⟩
    have od : Off2 x y W5 w6 := (Off2.of_below (Below.refl _ _).drew).trans o6
    have H6 := HS5.out.off2 K6 od
    have M6 := HM5.out.off2 HS5.out H6.below od
    have T6 := SentTo.off2 HT5.out HS5.out.book od
    refine hK.out _ _ (HSC.out _ M6) (fun hS => ?_)
    clear hK
    refine wpAnyH_take (i := 17) (v := (.tuple #[.agg #[.int .i64 M.frm, .string M.body, .string M.sig], .int .i64 0])) rfl (by kernel_rfl) (by kernel_rfl) (by kernel_rfl) (fun _ _ _ h => h) (Or.inl ⟨by kernel_rfl, fun w hS => by obtain ⟨s0, s1⟩ := hS; go_simp⟩) hS ?_
    refine wpAnyH_take (i := 18) (v := (.agg #[.int .i64 M.frm, .string M.body, .string M.sig])) rfl (by kernel_rfl) (by kernel_rfl) (by kernel_rfl) (fun _ _ _ h => h) (Or.inl ⟨by kernel_rfl, fun w hS => by obtain ⟨s0, s1⟩ := hS; go_simp⟩) hS ?_
    refine wpAnyH_take (i := 19) (v := (.int .i64 0)) rfl (by kernel_rfl) (by kernel_rfl) (by kernel_rfl) (fun _ _ _ h => h) (Or.inl ⟨by kernel_rfl, fun w hS => by obtain ⟨s0, s1⟩ := hS; go_simp⟩) hS ?_
    refine wpAnyH_ready (rs := [20]) (by kernel_rfl) (by simp) ?_
    refine AllReadyH.cons rfl (fun K hK => ?_) AllReadyH.nil
    obtain ⟨WA, hWA, NA, bA⟩ : ∃ WA, w6.alloc (.cells #[.int .i64 0, .string ⟨#[]⟩, .string ⟨#[]⟩] 62) = WA ∧ Blk WA w6.heap.size #[.int .i64 0, .string ⟨#[]⟩, .string ⟨#[]⟩] 62 ∧ Below w6.heap.size w6 WA :=
      ⟨_, rfl, blk_new _ _ _ _ rfl, by go_grown⟩
    have HA := H6.keep bA
    have MA := M6.keep bA
    have TA := T6.below bA
    have HZs : Hid (w0.heap.size ≤ w6.heap.size) := H6.below.size
    clear H6 M6 T6
    go_simp
    refine hK.out _ _ (HSC.out _ MA) (fun hS => ?_)
    clear hK
    obtain ⟨W8, hW8, N8, _⟩ := setRow_named NA #[.int .i64 M.frm, .string M.body, .string M.sig]
    have H8 : St w0 W8 p b x y [] S1 q tm tc av (C.ask s) := HA.setOff hW8 NA (by decide) (by decide) (by decide) (by decide) HZs.out
    have M8 : Md w0 W8 m (.slice none 0 0) yv { Y with stamp := Y.stamp + 1, waits := true, ticks := 0, heard := [] } := MA.setOff hW8 NA (by decide) (by decide) (by decide) HZs.out
    have T8 : SentTo W8 v (3 * f + 1) s := TA.setOff hW8 NA (by decide)
    refine wpAnyH_ready (rs := [21]) (by kernel_rfl) (by simp) ?_
    refine readyH_rowC 21 rfl (ty := 62) (x := .tmp 11) (y := .tmp 74) rfl rfl rfl (w6.heap.size) #[.int .i64 M.frm, .string M.body, .string M.sig] (by kernel_rfl) (by kernel_rfl) 62 #[.int .i64 0, .string ⟨#[]⟩, .string ⟨#[]⟩] NA infoSg3 rfl (by simp [Value.oneCell']) (by rw [hW8]; exact HSC.out _ M8) (fun hS => ?_)
    rw [hW8]
    rw [hW8] at hS
    refine wpAnyH_take (i := 22) (v := (.int .i64 0)) rfl (by kernel_rfl) (by kernel_rfl) (by kernel_rfl) (fun _ _ _ h => h) (Or.inl ⟨by kernel_rfl, fun w hS => by obtain ⟨s0, s1⟩ := hS; go_simp⟩) hS ?_
    refine wpAnyH_done (by kernel_rfl) ?_ _
    clear hS HSC
    have HFi : Hid (St w0 W8 p b x y [] S1 q tm tc av (C.ask s) ∧ Md w0 W8 m (.slice none 0 0) yv { Y with stamp := Y.stamp + 1, waits := true, ticks := 0, heard := [] } ∧ SentTo W8 v (3 * f + 1) s) := ⟨H8, M8, T8⟩
    clear H8 M8 T8 HA MA TA
    go_simp
    go_wp2_with ((with_reducible refine rd_row (ty := 62) N8 Try.underlying62 rfl HGs.out ?_ ?_); rfl)
    refine Calls.mono (HOn.out _) ?_
    rintro e w9 ⟨rfl, b9⟩
    have H9 := HFi.out.1.keep b9
    have M9 := HFi.out.2.1.keep b9
    have T9 := SentTo.below HFi.out.2.2 b9
    have z5 : w9.cell? ⟨m, 5, none⟩ = some (.string Y.asked) := M9.blk.cell rfl
    have fz5 : w9.frozen? ⟨m, 5, none⟩ = false := M9.blk.frozen
    obtain ⟨W10, hW10, M10, o10⟩ := M9.put (Y' := { Y with stamp := Y.stamp + 1, waits := true, ticks := 0, heard := [], asked := s }) 5 (.string s) rfl rfl rfl
    have H10 := H9.ofm M9 o10 HAp.out
    have T10 := T9.ofm M9 o10
    have HSn' : Hid _ := sent_calls v f s W10.drew (T10.below (Below.refl _ _).drew) HF4.out
    obtain ⟨vg, vn, vc, hvs⟩ : ∃ vg vn vc, v = .slice vg vn vc := by obtain ⟨g, hv, _⟩ := T10; exact ⟨_, _, _, hv⟩
    have HFn : Hid (St w0 W10 p b x y [] S1 q tm tc av (C.ask s) ∧ Md w0 W10 m (.slice none 0 0) yv { Y with stamp := Y.stamp + 1, waits := true, ticks := 0, heard := [], asked := s }) := ⟨H10, M10⟩
    have p0 : W10.cell? ⟨m, 0, none⟩ = some (.int .i64 (f : Int)) := by rw [← HFf.out]; exact M10.blk.cell rfl
    have p5 : W10.cell? ⟨m, 5, none⟩ = some (.string s) := M10.blk.cell rfl
    subst hvs
    clear H9 M9 T9 H10 M10 T10 o10
    go_simp
    go_wp2_with fail
    refine wp_region_held_drew (S := (fun wx => wx.cell? ⟨m, 0, none⟩ = some (.int .i64 (f : Int)) ∧ wx.cell? ⟨m, 5, none⟩ = some (.string s))) (by kernel_rfl) ⟨p0, p5⟩ (fun hS => ?_)
    refine wpAnyH_take (i := 0) (v := (.int .i64 0)) rfl (by kernel_rfl) (by kernel_rfl) (by kernel_rfl) (fun _ _ _ h => h) (Or.inl ⟨by kernel_rfl, fun w hS => by obtain ⟨s0, s1⟩ := hS; go_simp⟩) hS ?_
    refine wpAnyH_take (i := 1) (v := (.bool true)) rfl (by kernel_rfl) (by kernel_rfl) (by kernel_rfl) (fun _ _ _ h => h) (Or.inl ⟨by kernel_rfl, fun w hS => by obtain ⟨s0, s1⟩ := hS; go_simp⟩) hS ?_
    refine wpAnyH_take (i := 2) (v := (.bool true)) rfl (by kernel_rfl) (by kernel_rfl) (by kernel_rfl) (fun _ _ _ h => h) (Or.inl ⟨by kernel_rfl, fun w hS => by obtain ⟨s0, s1⟩ := hS; go_simp⟩) hS ?_
    refine wpAnyH_take (i := 3) (v := (.int .i64 0)) rfl (by kernel_rfl) (by kernel_rfl) (by kernel_rfl) (fun _ _ _ h => h) (Or.inl ⟨by kernel_rfl, fun w hS => by obtain ⟨s0, s1⟩ := hS; go_simp⟩) hS ?_
    refine wpAnyH_take (i := 4) (v := (.bool true)) rfl (by kernel_rfl) (by kernel_rfl) (by kernel_rfl) (fun _ _ _ h => h) (Or.inl ⟨by kernel_rfl, fun w hS => by obtain ⟨s0, s1⟩ := hS; go_simp⟩) hS ?_
    refine wpAnyH_take (i := 5) (v := (.bool true)) rfl (by kernel_rfl) (by kernel_rfl) (by kernel_rfl) (fun _ _ _ h => h) (Or.inl ⟨by kernel_rfl, fun w hS => by obtain ⟨s0, s1⟩ := hS; go_simp⟩) hS ?_
    refine wpAnyH_take (i := 6) (v := (.bool true)) rfl (by kernel_rfl) (by kernel_rfl) (by kernel_rfl) (fun _ _ _ h => h) (Or.inl ⟨by kernel_rfl, fun w hS => by obtain ⟨s0, s1⟩ := hS; go_simp⟩) hS ?_
    refine wpAnyH_take (i := 7) (v := (.slice vg vn vc)) rfl (by kernel_rfl) (by kernel_rfl) (by kernel_rfl) (fun _ _ _ h => h) (Or.inl ⟨by kernel_rfl, fun w hS => by obtain ⟨s0, s1⟩ := hS; go_simp⟩) hS ?_
    refine wpAnyH_take (i := 8) (v := (.pointer (some ⟨m, 0, none⟩))) rfl (by kernel_rfl) (by kernel_rfl) (by kernel_rfl) (fun _ _ _ h => h) (Or.inl ⟨by kernel_rfl, fun w hS => by obtain ⟨s0, s1⟩ := hS; go_simp⟩) hS ?_
    refine wpAnyH_take (i := 9) (v := (.pointer (some ⟨m, 0, none⟩))) rfl (by kernel_rfl) (by kernel_rfl) (by kernel_rfl) (fun _ _ _ h => h) (Or.inl ⟨by kernel_rfl, fun w hS => by obtain ⟨s0, s1⟩ := hS; go_simp⟩) hS ?_
    refine wpAnyH_take (i := 10) (v := (.pointer (some ⟨m, 0, none⟩))) rfl (by kernel_rfl) (by kernel_rfl) (by kernel_rfl) (fun _ _ _ h => h) (Or.inl ⟨by kernel_rfl, fun w hS => by obtain ⟨s0, s1⟩ := hS; go_simp⟩) hS ?_
    refine wpAnyH_take (i := 11) (v := (.int .i64 (f : Int))) rfl (by kernel_rfl) (by kernel_rfl) (by kernel_rfl) (fun _ _ _ h => h) (Or.inl ⟨by kernel_rfl, fun w hS => by obtain ⟨s0, s1⟩ := hS; go_simp⟩) hS ?_
    refine wpAnyH_take (i := 12) (v := (.pointer (some ⟨m, 0, none⟩))) rfl (by kernel_rfl) (by kernel_rfl) (by kernel_rfl) (fun _ _ _ h => h) (Or.inl ⟨by kernel_rfl, fun w hS => by obtain ⟨s0, s1⟩ := hS; go_simp⟩) hS ?_
    refine wpAnyH_take (i := 13) (v := (.pointer (some ⟨m, 0, none⟩))) rfl (by kernel_rfl) (by kernel_rfl) (by kernel_rfl) (fun _ _ _ h => h) (Or.inl ⟨by kernel_rfl, fun w hS => by obtain ⟨s0, s1⟩ := hS; go_simp⟩) hS ?_
    refine wpAnyH_take (i := 14) (v := (.pointer (some ⟨m, 5, none⟩))) rfl (by kernel_rfl) (by kernel_rfl) (by kernel_rfl) (fun _ _ _ h => h) (Or.inl ⟨by kernel_rfl, fun w hS => by obtain ⟨s0, s1⟩ := hS; go_simp⟩) hS ?_
    refine wpAnyH_take (i := 15) (v := (.string s)) rfl (by kernel_rfl) (by kernel_rfl) (by kernel_rfl) (fun _ _ _ h => h) (Or.inl ⟨by kernel_rfl, fun w hS => by obtain ⟨s0, s1⟩ := hS; go_simp⟩) hS ?_
    refine wpAnyH_ready (rs := [16]) (by kernel_rfl) (by simp) ?_
    refine AllReadyH.cons rfl (fun K hK => ?_) AllReadyH.nil
    go_simp
    refine Calls.mono (HSn'.out) ?_
    rintro e wz ⟨rfl, rfl⟩
    refine hK.out _ _ ⟨p0, p5⟩ (fun hS => ?_)
    clear hK
    refine wpAnyH_take (i := 17) (v := (.bool true)) rfl (by kernel_rfl) (by kernel_rfl) (by kernel_rfl) (fun _ _ _ h => h) (Or.inl ⟨by kernel_rfl, fun w hS => by obtain ⟨s0, s1⟩ := hS; go_simp⟩) hS ?_
    refine wpAnyH_take (i := 18) (v := (.bool true)) rfl (by kernel_rfl) (by kernel_rfl) (by kernel_rfl) (fun _ _ _ h => h) (Or.inl ⟨by kernel_rfl, fun w hS => by obtain ⟨s0, s1⟩ := hS; go_simp⟩) hS ?_
    refine wpAnyH_done (by kernel_rfl) ?_ _
    clear hS
    go_wp2
    go_ret
    exact ⟨rfl, HEnd.out _ (HFn.out.1.keep (Below.refl _ _).drew) (HFn.out.2.keep (Below.refl _ _).drew)⟩
  · obtain ⟨WA, hWA, NA, bA⟩ : ∃ WA, W5.drew.alloc (.cells #[.int .i64 0, .string ⟨#[]⟩, .string ⟨#[]⟩] 62) = WA ∧ Blk WA W5.heap.size #[.int .i64 0, .string ⟨#[]⟩, .string ⟨#[]⟩] 62 ∧ Below W5.heap.size W5 WA :=
      ⟨_, rfl, blk_new _ _ _ _ rfl, by go_grown⟩
    have HB := HS5.out.keep bA
    have MB := HM5.out.keep bA
    have TB := SentTo.below HT5.out bA
    go_simp
    refine hK.out _ _ (HSC.out _ MB) (fun hS => ?_)
    clear hK
    refine wpAnyH_ready (rs := [16]) (by kernel_rfl) (by simp) ?_
    refine AllReadyH.cons rfl (fun K hK => ?_) AllReadyH.nil
    go_simp
    refine Calls.mono (HSe.out _ HB.book) ?_
    rintro e w6 ⟨rfl, K6, o6⟩
    have HA := HB.off2 K6 o6
    have MA := MB.off2 HB HA.below o6
    have TA := TB.off2 HB.book o6
    have N6 : Blk w6 W5.heap.size #[.int .i64 0, .string ⟨#[]⟩, .string ⟨#[]⟩] 62 := (Kpt.of_off2 (v := .slice none 0 0) HB.book o6).blk _ _ _ (by decide) (by simp [Value.ownBlock]) NA
    have HZs : Hid (w0.heap.size ≤ W5.heap.size) := HS5.out.below.size
    clear HB MB TB NA
    refine hK.out _ _ (HSC.out _ MA) (fun hS => ?_)
    clear hK
    refine wpAnyH_take (i := 17) (v := (.tuple #[.agg #[.int .i64 M.frm, .string M.body, .string M.sig], .int .i64 0])) rfl (by kernel_rfl) (by kernel_rfl) (by kernel_rfl) (fun _ _ _ h => h) (Or.inl ⟨by kernel_rfl, fun w hS => by obtain ⟨s0, s1⟩ := hS; go_simp⟩) hS ?_
    refine wpAnyH_take (i := 18) (v := (.agg #[.int .i64 M.frm, .string M.body, .string M.sig])) rfl (by kernel_rfl) (by kernel_rfl) (by kernel_rfl) (fun _ _ _ h => h) (Or.inl ⟨by kernel_rfl, fun w hS => by obtain ⟨s0, s1⟩ := hS; go_simp⟩) hS ?_
    refine wpAnyH_take (i := 19) (v := (.int .i64 0)) rfl (by kernel_rfl) (by kernel_rfl) (by kernel_rfl) (fun _ _ _ h => h) (Or.inl ⟨by kernel_rfl, fun w hS => by obtain ⟨s0, s1⟩ := hS; go_simp⟩) hS ?_
    obtain ⟨W8, hW8, N8, _⟩ := setRow_named N6 #[.int .i64 M.frm, .string M.body, .string M.sig]
    have H8 : St w0 W8 p b x y [] S1 q tm tc av (C.ask s) := HA.setOff hW8 N6 (by decide) (by decide) (by decide) (by decide) HZs.out
    have M8 : Md w0 W8 m (.slice none 0 0) yv { Y with stamp := Y.stamp + 1, waits := true, ticks := 0, heard := [] } := MA.setOff hW8 N6 (by decide) (by decide) (by decide) HZs.out
    have T8 : SentTo W8 v (3 * f + 1) s := TA.setOff hW8 N6 (by decide)
    refine wpAnyH_ready (rs := [21]) (by kernel_rfl) (by simp) ?_
    refine readyH_rowC 21 rfl (ty := 62) (x := .tmp 11) (y := .tmp 74) rfl rfl rfl (W5.heap.size) #[.int .i64 M.frm, .string M.body, .string M.sig] (by kernel_rfl) (by kernel_rfl) 62 #[.int .i64 0, .string ⟨#[]⟩, .string ⟨#[]⟩] N6 infoSg3 rfl (by simp [Value.oneCell']) (by rw [hW8]; exact HSC.out _ M8) (fun hS => ?_)
    rw [hW8]
    rw [hW8] at hS
    refine wpAnyH_take (i := 22) (v := (.int .i64 0)) rfl (by kernel_rfl) (by kernel_rfl) (by kernel_rfl) (fun _ _ _ h => h) (Or.inl ⟨by kernel_rfl, fun w hS => by obtain ⟨s0, s1⟩ := hS; go_simp⟩) hS ?_
    refine wpAnyH_done (by kernel_rfl) ?_ _
    clear hS HSC
    have HFi : Hid (St w0 W8 p b x y [] S1 q tm tc av (C.ask s) ∧ Md w0 W8 m (.slice none 0 0) yv { Y with stamp := Y.stamp + 1, waits := true, ticks := 0, heard := [] } ∧ SentTo W8 v (3 * f + 1) s) := ⟨H8, M8, T8⟩
    clear H8 M8 T8 HA MA TA
    go_simp
    go_wp2_with ((with_reducible refine rd_row (ty := 62) N8 Try.underlying62 rfl HGs.out ?_ ?_); rfl)
    refine Calls.mono (HOn.out _) ?_
    rintro e w9 ⟨rfl, b9⟩
    have H9 := HFi.out.1.keep b9
    have M9 := HFi.out.2.1.keep b9
    have T9 := SentTo.below HFi.out.2.2 b9
    have z5 : w9.cell? ⟨m, 5, none⟩ = some (.string Y.asked) := M9.blk.cell rfl
    have fz5 : w9.frozen? ⟨m, 5, none⟩ = false := M9.blk.frozen
    obtain ⟨W10, hW10, M10, o10⟩ := M9.put (Y' := { Y with stamp := Y.stamp + 1, waits := true, ticks := 0, heard := [], asked := s }) 5 (.string s) rfl rfl rfl
    have H10 := H9.ofm M9 o10 HAp.out
    have T10 := T9.ofm M9 o10
    have HSn' : Hid _ := sent_calls v f s W10.drew (T10.below (Below.refl _ _).drew) HF4.out
    obtain ⟨vg, vn, vc, hvs⟩ : ∃ vg vn vc, v = .slice vg vn vc := by obtain ⟨g, hv, _⟩ := T10; exact ⟨_, _, _, hv⟩
    have HFn : Hid (St w0 W10 p b x y [] S1 q tm tc av (C.ask s) ∧ Md w0 W10 m (.slice none 0 0) yv { Y with stamp := Y.stamp + 1, waits := true, ticks := 0, heard := [], asked := s }) := ⟨H10, M10⟩
    have p0 : W10.cell? ⟨m, 0, none⟩ = some (.int .i64 (f : Int)) := by rw [← HFf.out]; exact M10.blk.cell rfl
    have p5 : W10.cell? ⟨m, 5, none⟩ = some (.string s) := M10.blk.cell rfl
    subst hvs
    clear H9 M9 T9 H10 M10 T10 o10
    go_simp
    go_wp2_with fail
    refine wp_region_held_drew (S := (fun wx => wx.cell? ⟨m, 0, none⟩ = some (.int .i64 (f : Int)) ∧ wx.cell? ⟨m, 5, none⟩ = some (.string s))) (by kernel_rfl) ⟨p0, p5⟩ (fun hS => ?_)
    refine wpAnyH_take (i := 0) (v := (.int .i64 0)) rfl (by kernel_rfl) (by kernel_rfl) (by kernel_rfl) (fun _ _ _ h => h) (Or.inl ⟨by kernel_rfl, fun w hS => by obtain ⟨s0, s1⟩ := hS; go_simp⟩) hS ?_
    refine wpAnyH_take (i := 1) (v := (.bool true)) rfl (by kernel_rfl) (by kernel_rfl) (by kernel_rfl) (fun _ _ _ h => h) (Or.inl ⟨by kernel_rfl, fun w hS => by obtain ⟨s0, s1⟩ := hS; go_simp⟩) hS ?_
    refine wpAnyH_take (i := 2) (v := (.bool true)) rfl (by kernel_rfl) (by kernel_rfl) (by kernel_rfl) (fun _ _ _ h => h) (Or.inl ⟨by kernel_rfl, fun w hS => by obtain ⟨s0, s1⟩ := hS; go_simp⟩) hS ?_
    refine wpAnyH_take (i := 3) (v := (.int .i64 0)) rfl (by kernel_rfl) (by kernel_rfl) (by kernel_rfl) (fun _ _ _ h => h) (Or.inl ⟨by kernel_rfl, fun w hS => by obtain ⟨s0, s1⟩ := hS; go_simp⟩) hS ?_
    refine wpAnyH_take (i := 4) (v := (.bool true)) rfl (by kernel_rfl) (by kernel_rfl) (by kernel_rfl) (fun _ _ _ h => h) (Or.inl ⟨by kernel_rfl, fun w hS => by obtain ⟨s0, s1⟩ := hS; go_simp⟩) hS ?_
    refine wpAnyH_take (i := 5) (v := (.bool true)) rfl (by kernel_rfl) (by kernel_rfl) (by kernel_rfl) (fun _ _ _ h => h) (Or.inl ⟨by kernel_rfl, fun w hS => by obtain ⟨s0, s1⟩ := hS; go_simp⟩) hS ?_
    refine wpAnyH_take (i := 6) (v := (.bool true)) rfl (by kernel_rfl) (by kernel_rfl) (by kernel_rfl) (fun _ _ _ h => h) (Or.inl ⟨by kernel_rfl, fun w hS => by obtain ⟨s0, s1⟩ := hS; go_simp⟩) hS ?_
    refine wpAnyH_take (i := 7) (v := (.slice vg vn vc)) rfl (by kernel_rfl) (by kernel_rfl) (by kernel_rfl) (fun _ _ _ h => h) (Or.inl ⟨by kernel_rfl, fun w hS => by obtain ⟨s0, s1⟩ := hS; go_simp⟩) hS ?_
    refine wpAnyH_take (i := 8) (v := (.pointer (some ⟨m, 0, none⟩))) rfl (by kernel_rfl) (by kernel_rfl) (by kernel_rfl) (fun _ _ _ h => h) (Or.inl ⟨by kernel_rfl, fun w hS => by obtain ⟨s0, s1⟩ := hS; go_simp⟩) hS ?_
    refine wpAnyH_take (i := 9) (v := (.pointer (some ⟨m, 0, none⟩))) rfl (by kernel_rfl) (by kernel_rfl) (by kernel_rfl) (fun _ _ _ h => h) (Or.inl ⟨by kernel_rfl, fun w hS => by obtain ⟨s0, s1⟩ := hS; go_simp⟩) hS ?_
    refine wpAnyH_take (i := 10) (v := (.pointer (some ⟨m, 0, none⟩))) rfl (by kernel_rfl) (by kernel_rfl) (by kernel_rfl) (fun _ _ _ h => h) (Or.inl ⟨by kernel_rfl, fun w hS => by obtain ⟨s0, s1⟩ := hS; go_simp⟩) hS ?_
    refine wpAnyH_take (i := 11) (v := (.int .i64 (f : Int))) rfl (by kernel_rfl) (by kernel_rfl) (by kernel_rfl) (fun _ _ _ h => h) (Or.inl ⟨by kernel_rfl, fun w hS => by obtain ⟨s0, s1⟩ := hS; go_simp⟩) hS ?_
    refine wpAnyH_take (i := 12) (v := (.pointer (some ⟨m, 0, none⟩))) rfl (by kernel_rfl) (by kernel_rfl) (by kernel_rfl) (fun _ _ _ h => h) (Or.inl ⟨by kernel_rfl, fun w hS => by obtain ⟨s0, s1⟩ := hS; go_simp⟩) hS ?_
    refine wpAnyH_take (i := 13) (v := (.pointer (some ⟨m, 0, none⟩))) rfl (by kernel_rfl) (by kernel_rfl) (by kernel_rfl) (fun _ _ _ h => h) (Or.inl ⟨by kernel_rfl, fun w hS => by obtain ⟨s0, s1⟩ := hS; go_simp⟩) hS ?_
    refine wpAnyH_take (i := 14) (v := (.pointer (some ⟨m, 5, none⟩))) rfl (by kernel_rfl) (by kernel_rfl) (by kernel_rfl) (fun _ _ _ h => h) (Or.inl ⟨by kernel_rfl, fun w hS => by obtain ⟨s0, s1⟩ := hS; go_simp⟩) hS ?_
    refine wpAnyH_take (i := 15) (v := (.string s)) rfl (by kernel_rfl) (by kernel_rfl) (by kernel_rfl) (fun _ _ _ h => h) (Or.inl ⟨by kernel_rfl, fun w hS => by obtain ⟨s0, s1⟩ := hS; go_simp⟩) hS ?_
    refine wpAnyH_ready (rs := [16]) (by kernel_rfl) (by simp) ?_
    refine AllReadyH.cons rfl (fun K hK => ?_) AllReadyH.nil
    go_simp
    refine Calls.mono (HSn'.out) ?_
    rintro e wz ⟨rfl, rfl⟩
    refine hK.out _ _ ⟨p0, p5⟩ (fun hS => ?_)
    clear hK
    refine wpAnyH_take (i := 17) (v := (.bool true)) rfl (by kernel_rfl) (by kernel_rfl) (by kernel_rfl) (fun _ _ _ h => h) (Or.inl ⟨by kernel_rfl, fun w hS => by obtain ⟨s0, s1⟩ := hS; go_simp⟩) hS ?_
    refine wpAnyH_take (i := 18) (v := (.bool true)) rfl (by kernel_rfl) (by kernel_rfl) (by kernel_rfl) (fun _ _ _ h => h) (Or.inl ⟨by kernel_rfl, fun w hS => by obtain ⟨s0, s1⟩ := hS; go_simp⟩) hS ?_
    refine wpAnyH_done (by kernel_rfl) ?_ _
    clear hS
    go_wp2
    go_ret
    exact ⟨rfl, HEnd.out _ (HFn.out.1.keep (Below.refl _ _).drew) (HFn.out.2.keep (Below.refl _ _).drew)⟩
end Go.Proofs.Ytbbhihkeljpikaa

namespace Go.Proofs.Ytbbhihkeljpikaa
open Go.RowKit
set_option linter.unusedSimpArgs false
set_option linter.unusedVariables false

variable {p b x y : Nat} {T : List ByteArray} {S : List (Int × ByteArray)} {q tm tc : Nat} {av : Value} {C : Cs} {w0 : World} {m : Nat} {hv yv : Value} {Y : Mo} {k : Nat}
/-- The act's box. -/
theorem act_box (w : World) (ac : Ac) : ∃ W0, w.alloc (.cells #[.int .i64 ac.kind, .int .i64 ac.frm, .int .i64 ac.by_, .string ac.text] 40) = W0 ∧ Blk W0 w.heap.size #[.int .i64 ac.kind, .int .i64 ac.frm, .int .i64 ac.by_, .string ac.text] 40 ∧ Below w.heap.size w W0 := ⟨_, rfl, blk_new _ _ _ _ rfl, by go_grown⟩
theorem Both.keep {w w' : World} (h : Both w0 w p b x y q tm m k S tc av C hv yv Y) (hb : Below w.heap.size w w') : Both w0 w' p b x y q tm m k S tc av C hv yv Y :=
  ⟨h.st.keep hb, h.md.keep hb, h.apt, h.sim, h.inv, h.sl, h.al, h.hl, h.stp, h.tk, h.idr⟩
/-- Bytes that say nothing: whatever waits, the client stays. -/
theorem rcv_none (s : ByteArray) (w : World) (h : St w0 w p b x y T S q tm tc av C) (hS : S.length < 1000000) (hs : s.size ≤ maxLen) (hI : CInv C) (ha : C.ans.length < 100000) (hn : heard C S s = none) :
    Calls Try.prog 20 #[.pointer (some ⟨q, 0, none⟩), .string s] w fun e w' => e = .returned (.bool false) ∧ ∃ tc' av', St w0 w' p b x y T S q tm tc' av' C ∧ Kpt av w w' ∧ Frs av av' w := by
  have hl := hI.len
  have hcf := hI.cf
  cases hwt : C.waits with
  | false =>
    refine (receive_idle _ w h hwt).mono ?_
    rintro e w2 ⟨rfl, rfl⟩
    exact ⟨rfl, tc, av, h, Kpt.refl _, Or.inl rfl⟩
  | true =>
    have hr := receive_waits s w h hS hs (by omega) (by omega) ha hwt
    rw [hn] at hr
    exact hr
theorem heard_bad (C : Cs) (S : List (Int × ByteArray)) (s : ByteArray) {er : Int} (h : ofSgR s = .error er) : heard C S s = none := by unfold heard; rw [h]
theorem heard_unsigned (C : Cs) (S : List (Int × ByteArray)) (s : ByteArray) {mm : Sg} (h : ofSgR s = .ok mm) (hc : chkB S mm.frm mm.body mm.sig = false) : heard C S s = none := by
  have e : openR S mm = .error 30 := by unfold openR; rw [hc]; rfl
  unfold heard
  rw [h]
  simp only []
  rw [e]
/-- Behind a call of the client that leaves it as data. -/
theorem Both.same {w w' : World} {tc' : Nat} {av' : Value} (h : Both w0 w p b x y q tm m k S tc av C hv yv Y) (hs : St w0 w' p b x y [] S q tm tc' av' C) (hk : Kpt av w w') (hf : Frs av av' w) : Both w0 w' p b x y q tm m k S tc' av' C hv yv Y :=
  ⟨hs, h.md.kpt h.st hs.below hk h.apt, fun j hj => by
    rcases hf with e | e
    · exact h.apt j (e ▸ hj)
    · intro hy
      have h1 := e j hj
      have h2 := (h.md.arow.lt j hy).2
      omega, h.sim, h.inv, h.sl, h.al, h.hl, h.stp, h.tk, h.idr⟩
set_option maxHeartbeats 8000000 in
set_option maxRecDepth 100000 in
theorem step_long (ac : Ac) (w : World) (h : Both w0 w p b x y q tm m k S tc av C hv yv Y) (hk : k ≤ 1000) (hz : ac.text.size ≤ 140737488351232) (hkk : arn ac.kind 5 = 0) (ho : 256 < ac.text.size) : Calls Try.prog 8 #[.pointer (some ⟨m, 0, none⟩), .pointer (some ⟨q, 0, none⟩), .pointer (some ⟨p, 0, none⟩), .agg #[.int .i64 ac.kind, .int .i64 ac.frm, .int .i64 ac.by_, .string ac.text]] w fun e w' => e = .returned (.bool true) ∧ ∃ S' tc' av' C' hv' yv' Y', Both w0 w' p b x y q tm m (k + 1) S' tc' av' C' hv' yv' Y' := by
  obtain ⟨W0, hW0, X0, B0⟩ := act_box w ac
  have c0 : W0.cell? ⟨w.heap.size, 0, none⟩ = some (.int .i64 ac.kind) := X0.cell rfl
  have HAr : Hid _ := fun wx => around_calls ac.kind 5 wx (by omega) (by omega)
  rw [hkk] at HAr
  have HB0 : Hid _ := h.keep B0
  have c3 : W0.cell? ⟨w.heap.size, 3, none⟩ = some (.string ac.text) := X0.cell rfl
  have HQ : Hid _ := asks_long ac.text W0 HB0.out hz ho
  go_enter Try.func8, Try.ntmps8
  go_wp2_with fail
  refine (HAr.out _).mono ?_
  rintro e W0 ⟨rfl, rfl⟩
  go_wp2_with fail
  refine Calls.mono HQ.out ?_
  rintro e w2 ⟨rfl, rfl⟩
  go_wp2
  go_ret
  exact ⟨rfl, _, _, _, _, _, _, _, HB0.out.more⟩
set_option maxHeartbeats 8000000 in
set_option maxRecDepth 100000 in
theorem step_busy (ac : Ac) (w : World) (h : Both w0 w p b x y q tm m k S tc av C hv yv Y) (hk : k ≤ 1000) (hz : ac.text.size ≤ 140737488351232) (hkk : arn ac.kind 5 = 0) (ho : ac.text.size ≤ 256) (hw : C.waits = true) : Calls Try.prog 8 #[.pointer (some ⟨m, 0, none⟩), .pointer (some ⟨q, 0, none⟩), .pointer (some ⟨p, 0, none⟩), .agg #[.int .i64 ac.kind, .int .i64 ac.frm, .int .i64 ac.by_, .string ac.text]] w fun e w' => e = .returned (.bool true) ∧ ∃ S' tc' av' C' hv' yv' Y', Both w0 w' p b x y q tm m (k + 1) S' tc' av' C' hv' yv' Y' := by
  obtain ⟨W0, hW0, X0, B0⟩ := act_box w ac
  have c0 : W0.cell? ⟨w.heap.size, 0, none⟩ = some (.int .i64 ac.kind) := X0.cell rfl
  have HAr : Hid _ := fun wx => around_calls ac.kind 5 wx (by omega) (by omega)
  rw [hkk] at HAr
  have HB0 : Hid _ := h.keep B0
  have c3 : W0.cell? ⟨w.heap.size, 3, none⟩ = some (.string ac.text) := X0.cell rfl
  have HQ : Hid _ := asks_busy ac.text W0 HB0.out ho hw
  go_enter Try.func8, Try.ntmps8
  go_wp2_with fail
  refine (HAr.out _).mono ?_
  rintro e W0 ⟨rfl, rfl⟩
  go_wp2_with fail
  refine Calls.mono HQ.out ?_
  rintro e w2 ⟨rfl, rfl⟩
  go_wp2
  go_ret
  exact ⟨rfl, _, _, _, _, _, _, _, HB0.out.more⟩
set_option maxHeartbeats 8000000 in
set_option maxRecDepth 100000 in
theorem step_asks (ac : Ac) (w : World) (h : Both w0 w p b x y q tm m k S tc av C hv yv Y) (hk : k ≤ 1000) (hz : ac.text.size ≤ 140737488351232) (hkk : arn ac.kind 5 = 0) (ho : ac.text.size ≤ 256) (hw : C.waits = false) : Calls Try.prog 8 #[.pointer (some ⟨m, 0, none⟩), .pointer (some ⟨q, 0, none⟩), .pointer (some ⟨p, 0, none⟩), .agg #[.int .i64 ac.kind, .int .i64 ac.frm, .int .i64 ac.by_, .string ac.text]] w fun e w' => e = .returned (.bool true) ∧ ∃ S' tc' av' C' hv' yv' Y', Both w0 w' p b x y q tm m (k + 1) S' tc' av' C' hv' yv' Y' := by
  obtain ⟨W0, hW0, X0, B0⟩ := act_box w ac
  have c0 : W0.cell? ⟨w.heap.size, 0, none⟩ = some (.int .i64 ac.kind) := X0.cell rfl
  have HAr : Hid _ := fun wx => around_calls ac.kind 5 wx (by omega) (by omega)
  rw [hkk] at HAr
  have HB0 : Hid _ := h.keep B0
  have c3 : W0.cell? ⟨w.heap.size, 3, none⟩ = some (.string ac.text) := X0.cell rfl
  have HQ : Hid _ := asks_ok ac.text W0 HB0.out hk ho hw
  go_enter Try.func8, Try.ntmps8
  go_wp2_with fail
  refine (HAr.out _).mono ?_
  rintro e W0 ⟨rfl, rfl⟩
  go_wp2_with fail
  refine Calls.mono HQ.out ?_
  rintro e w2 ⟨rfl, S', C', hv', Y', HE⟩
  go_wp2
  go_ret
  exact ⟨rfl, S', _, _, C', hv', _, Y', HE⟩
set_option maxHeartbeats 8000000 in
set_option maxRecDepth 100000 in
theorem step_idle (ac : Ac) (w : World) (h : Both w0 w p b x y q tm m k S tc av C hv yv Y) (hk : k ≤ 1000) (hz : ac.text.size ≤ 140737488351232) (hkk : arn ac.kind 5 = 1) (hw : C.waits = false) : Calls Try.prog 8 #[.pointer (some ⟨m, 0, none⟩), .pointer (some ⟨q, 0, none⟩), .pointer (some ⟨p, 0, none⟩), .agg #[.int .i64 ac.kind, .int .i64 ac.frm, .int .i64 ac.by_, .string ac.text]] w fun e w' => e = .returned (.bool true) ∧ ∃ S' tc' av' C' hv' yv' Y', Both w0 w' p b x y q tm m (k + 1) S' tc' av' C' hv' yv' Y' := by
  obtain ⟨W0, hW0, X0, B0⟩ := act_box w ac
  have c0 : W0.cell? ⟨w.heap.size, 0, none⟩ = some (.int .i64 ac.kind) := X0.cell rfl
  have HAr : Hid _ := fun wx => around_calls ac.kind 5 wx (by omega) (by omega)
  rw [hkk] at HAr
  have HB0 : Hid _ := h.keep B0
  have HQ : Hid _ := tick_idle W0 HB0.out.st hw
  have c4 : W0.cell? ⟨m, 4, none⟩ = some (.bool false) := by rw [← hw, ← h.sim.waits]; exact HB0.out.md.blk.cell rfl
  go_enter Try.func8, Try.ntmps8
  go_wp2_with fail
  refine (HAr.out _).mono ?_
  rintro e W0 ⟨rfl, rfl⟩
  go_wp2_with fail
  refine Calls.mono HQ.out ?_
  rintro e w2 ⟨rfl, rfl⟩
  go_wp2
  go_ret
  exact ⟨rfl, _, _, _, _, _, _, _, HB0.out.more⟩
set_option maxHeartbeats 8000000 in
set_option maxRecDepth 100000 in
theorem step_still (ac : Ac) (w : World) (h : Both w0 w p b x y q tm m k S tc av C hv yv Y) (hk : k ≤ 1000) (hz : ac.text.size ≤ 140737488351232) (hkk : arn ac.kind 5 = 1) (hw : C.waits = true) (hr : ¬ (Y.ticks + 1) % 4 = 0) : Calls Try.prog 8 #[.pointer (some ⟨m, 0, none⟩), .pointer (some ⟨q, 0, none⟩), .pointer (some ⟨p, 0, none⟩), .agg #[.int .i64 ac.kind, .int .i64 ac.frm, .int .i64 ac.by_, .string ac.text]] w fun e w' => e = .returned (.bool true) ∧ ∃ S' tc' av' C' hv' yv' Y', Both w0 w' p b x y q tm m (k + 1) S' tc' av' C' hv' yv' Y' := by
  obtain ⟨W0, hW0, X0, B0⟩ := act_box w ac
  have c0 : W0.cell? ⟨w.heap.size, 0, none⟩ = some (.int .i64 ac.kind) := X0.cell rfl
  have HAr : Hid _ := fun wx => around_calls ac.kind 5 wx (by omega) (by omega)
  rw [hkk] at HAr
  have HB0 : Hid _ := h.keep B0
  have hn := h.sim.now hw
  have htk := h.tk
  have hct : 0 ≤ C.ticks ∧ C.ticks ≤ 1000 := by rw [hn.2.2]; omega
  have hmod : (C.ticks + 1) % 4 = (Y.ticks + 1) % 4 := by rw [hn.2.2]; omega
  have e1 : IntKind.i64.wrap (Y.ticks + 1) = Y.ticks + 1 := wrapC (by omega) (by omega)
  have e2 : IntKind.i64.wrap ((Y.ticks + 1) % 4) = (Y.ticks + 1) % 4 := wrapC (by omega) (by omega)
  have hyt : 0 ≤ Y.ticks + 1 := by omega
  have HYW : Hid (Y.waits = true) := h.sim.waits.trans hw
  have HCW : Hid (C.tick.waits = true) := hw
  have HHN : Hid _ := hn
  have HMo : Hid _ := hmod
  have HQ : Hid _ := tick_still W0 HB0.out.st hw hct (by rw [hmod]; exact hr)
  have n1 : (((Y.ticks + 1) % 4) != 0) = true := by simpa using hr
  have n2 : decide ((Y.ticks + 1) % 4 = 0) = false := decide_eq_false hr
  have n3 : (((Y.ticks + 1) % 4) == 0) = false := n2
  clear hn htk hct hmod hr
  go_enter Try.func8, Try.ntmps8
  go_wp2_with fail
  refine (HAr.out _).mono ?_
  rintro e W0 ⟨rfl, rfl⟩
  go_wp2_with fail
  refine Calls.mono HQ.out ?_
  rintro e w2 ⟨rfl, H2, k2⟩
  have M2 := HB0.out.md.kpt HB0.out.st H2.below k2 HB0.out.apt
  have z4 : w2.cell? ⟨m, 4, none⟩ = some (.bool true) := by rw [← HYW.out]; exact M2.blk.cell rfl
  have z3 : w2.cell? ⟨m, 3, none⟩ = some (.int .i64 Y.ticks) := M2.blk.cell rfl
  have fz3 : w2.frozen? ⟨m, 3, none⟩ = false := M2.blk.frozen
  obtain ⟨W3, hW3, M3, o3⟩ := M2.put (Y' := { Y with ticks := Y.ticks + 1 }) 3 (.int .i64 (Y.ticks + 1)) rfl rfl rfl
  have H3 := H2.ofm M2 o3 HB0.out.apt
  have y4 : W3.cell? ⟨m, 4, none⟩ = some (.bool true) := by rw [← HYW.out]; exact M3.blk.cell rfl
  have y3 : W3.cell? ⟨m, 3, none⟩ = some (.int .i64 (Y.ticks + 1)) := M3.blk.cell rfl
  have HEn : Hid (∀ wx, St w0 wx p b x y [] S q tm tc av C.tick → Md w0 wx m hv yv { Y with ticks := Y.ticks + 1 } → Both w0 wx p b x y q tm m (k + 1) S tc av C.tick hv yv { Y with ticks := Y.ticks + 1 }) := fun wx h1 h2 =>
    ⟨h1, h2, HB0.out.apt, ⟨HB0.out.sim.f, HB0.out.sim.id, HB0.out.sim.stamp, HB0.out.sim.waits, HB0.out.sim.ans, fun _ => ⟨HHN.out.1, HHN.out.2.1, HMo.out⟩, fun hx => absurd hx (by rw [HCW.out]; decide)⟩, ⟨HB0.out.inv.keys, HB0.out.inv.rng, HB0.out.inv.cf⟩, by have := HB0.out.sl; omega, by have := HB0.out.al; show C.ans.length ≤ _; omega, by have := HB0.out.hl; show Y.heard.length ≤ _; omega, by have := HB0.out.stp; show 0 ≤ C.stamp ∧ C.stamp ≤ ((k + 1 : Nat) : Int); omega, by have := HB0.out.tk; show 0 ≤ Y.ticks + 1 ∧ Y.ticks + 1 ≤ ((k + 1 : Nat) : Int); omega, HB0.out.idr⟩
  have HFi : Hid _ := HEn.out _ H3 M3
  clear HEn H2 M2 H3 M3 o3
  go_wp2
  go_ret
  exact ⟨rfl, _, _, _, _, _, _, _, HFi.out⟩
set_option maxHeartbeats 8000000 in
set_option maxRecDepth 100000 in
theorem step_sends (ac : Ac) (w : World) (h : Both w0 w p b x y q tm m k S tc av C hv yv Y) (hk : k ≤ 1000) (hz : ac.text.size ≤ 140737488351232) (hkk : arn ac.kind 5 = 1) (hw : C.waits = true) (hr : (Y.ticks + 1) % 4 = 0) : Calls Try.prog 8 #[.pointer (some ⟨m, 0, none⟩), .pointer (some ⟨q, 0, none⟩), .pointer (some ⟨p, 0, none⟩), .agg #[.int .i64 ac.kind, .int .i64 ac.frm, .int .i64 ac.by_, .string ac.text]] w fun e w' => e = .returned (.bool true) ∧ ∃ S' tc' av' C' hv' yv' Y', Both w0 w' p b x y q tm m (k + 1) S' tc' av' C' hv' yv' Y' := by
  obtain ⟨W0, hW0, X0, B0⟩ := act_box w ac
  have c0 : W0.cell? ⟨w.heap.size, 0, none⟩ = some (.int .i64 ac.kind) := X0.cell rfl
  have HAr : Hid _ := fun wx => around_calls ac.kind 5 wx (by omega) (by omega)
  rw [hkk] at HAr
  have HB0 : Hid _ := h.keep B0
  have hn := h.sim.now hw
  have htk := h.tk
  have hct : 0 ≤ C.ticks ∧ C.ticks ≤ 1000 := by rw [hn.2.2]; omega
  have hmod : (C.ticks + 1) % 4 = (Y.ticks + 1) % 4 := by rw [hn.2.2]; omega
  have e1 : IntKind.i64.wrap (Y.ticks + 1) = Y.ticks + 1 := wrapC (by omega) (by omega)
  have e2 : IntKind.i64.wrap ((Y.ticks + 1) % 4) = (Y.ticks + 1) % 4 := wrapC (by omega) (by omega)
  have hyt : 0 ≤ Y.ticks + 1 := by omega
  have HYW : Hid (Y.waits = true) := h.sim.waits.trans hw
  have HCW : Hid (C.tick.waits = true) := hw
  have HHN : Hid _ := hn
  have HMo : Hid _ := hmod
  have hcf := h.inv.cf
  obtain ⟨f, hf⟩ : ∃ f : Nat, C.cf = (f : Int) := ⟨C.cf.toNat, by omega⟩
  have HQ : Hid _ := tick_sends W0 HB0.out.st hw hct (by rw [hmod]; exact hr) f hf (by omega)
  have HFf : Hid (Y.f = (f : Int)) := h.sim.f.trans hf
  have HF4 : Hid (f ≤ 4) := by show _ ≤ _; omega
  have n1 : (((Y.ticks + 1) % 4) != 0) = false := by rw [hr]; rfl
  have n2 : decide ((Y.ticks + 1) % 4 = 0) = true := decide_eq_true hr
  have n3 : (((Y.ticks + 1) % 4) == 0) = true := n2
  clear hn htk hct hmod hr hf hcf
  go_enter Try.func8, Try.ntmps8
  go_wp2_with fail
  refine (HAr.out _).mono ?_
  rintro e W0 ⟨rfl, rfl⟩
  go_wp2_with fail
  refine Calls.mono HQ.out ?_
  rintro e w2 ⟨v, rfl, T2, H2, k2⟩
  have M2 := HB0.out.md.kpt HB0.out.st H2.below k2 HB0.out.apt
  have z4 : w2.cell? ⟨m, 4, none⟩ = some (.bool true) := by rw [← HYW.out]; exact M2.blk.cell rfl
  have z3 : w2.cell? ⟨m, 3, none⟩ = some (.int .i64 Y.ticks) := M2.blk.cell rfl
  have fz3 : w2.frozen? ⟨m, 3, none⟩ = false := M2.blk.frozen
  obtain ⟨W3, hW3, M3, o3⟩ := M2.put (Y' := { Y with ticks := Y.ticks + 1 }) 3 (.int .i64 (Y.ticks + 1)) rfl rfl rfl
  have H3 := H2.ofm M2 o3 HB0.out.apt
  have y4 : W3.cell? ⟨m, 4, none⟩ = some (.bool true) := by rw [← HYW.out]; exact M3.blk.cell rfl
  have y3 : W3.cell? ⟨m, 3, none⟩ = some (.int .i64 (Y.ticks + 1)) := M3.blk.cell rfl
  have HEn : Hid (∀ wx, St w0 wx p b x y [] S q tm tc av C.tick → Md w0 wx m hv yv { Y with ticks := Y.ticks + 1 } → Both w0 wx p b x y q tm m (k + 1) S tc av C.tick hv yv { Y with ticks := Y.ticks + 1 }) := fun wx h1 h2 =>
    ⟨h1, h2, HB0.out.apt, ⟨HB0.out.sim.f, HB0.out.sim.id, HB0.out.sim.stamp, HB0.out.sim.waits, HB0.out.sim.ans, fun _ => ⟨HHN.out.1, HHN.out.2.1, HMo.out⟩, fun hx => absurd hx (by rw [HCW.out]; decide)⟩, ⟨HB0.out.inv.keys, HB0.out.inv.rng, HB0.out.inv.cf⟩, by have := HB0.out.sl; omega, by have := HB0.out.al; show C.ans.length ≤ _; omega, by have := HB0.out.hl; show Y.heard.length ≤ _; omega, by have := HB0.out.stp; show 0 ≤ C.stamp ∧ C.stamp ≤ ((k + 1 : Nat) : Int); omega, by have := HB0.out.tk; show 0 ≤ Y.ticks + 1 ∧ Y.ticks + 1 ≤ ((k + 1 : Nat) : Int); omega, HB0.out.idr⟩
  have T3 := T2.ofm M2 o3
  have p0 : W3.drew.cell? ⟨m, 0, none⟩ = some (.int .i64 (f : Int)) := by rw [← HFf.out]; exact M3.blk.cell rfl
  have p5 : W3.drew.cell? ⟨m, 5, none⟩ = some (.string C.asked) := by rw [← HHN.out.1]; exact M3.blk.cell rfl
  obtain ⟨vg, vn, vc, hvs⟩ : ∃ vg vn vc, v = .slice vg vn vc := by obtain ⟨g, hv, _⟩ := T3; exact ⟨_, _, _, hv⟩
  have HSn : Hid _ := sent_calls v f C.asked W3.drew (T3.below (Below.refl _ _).drew) HF4.out
  have HFi : Hid _ := HEn.out W3.drew (H3.keep (Below.refl _ _).drew) (M3.keep (Below.refl _ _).drew)
  subst hvs
  clear HEn H2 M2 H3 M3 o3 T2 T3
  go_wp2_with fail
  refine wp_region_held_drew (S := (fun wx => wx.cell? ⟨m, 0, none⟩ = some (.int .i64 (f : Int)) ∧ wx.cell? ⟨m, 5, none⟩ = some (.string C.asked))) (by kernel_rfl) ⟨p0, p5⟩ (fun hS => ?_)
  refine wpAnyH_take (i := 0) (v := (.slice vg vn vc)) rfl (by kernel_rfl) (by kernel_rfl) (by kernel_rfl) (fun _ _ _ h => h) (Or.inl ⟨by kernel_rfl, fun w hS => by obtain ⟨s0, s1⟩ := hS; go_simp⟩) hS ?_
  refine wpAnyH_take (i := 1) (v := (.pointer (some ⟨m, 0, none⟩))) rfl (by kernel_rfl) (by kernel_rfl) (by kernel_rfl) (fun _ _ _ h => h) (Or.inl ⟨by kernel_rfl, fun w hS => by obtain ⟨s0, s1⟩ := hS; go_simp⟩) hS ?_
  refine wpAnyH_take (i := 2) (v := (.pointer (some ⟨m, 0, none⟩))) rfl (by kernel_rfl) (by kernel_rfl) (by kernel_rfl) (fun _ _ _ h => h) (Or.inl ⟨by kernel_rfl, fun w hS => by obtain ⟨s0, s1⟩ := hS; go_simp⟩) hS ?_
  refine wpAnyH_take (i := 3) (v := (.pointer (some ⟨m, 0, none⟩))) rfl (by kernel_rfl) (by kernel_rfl) (by kernel_rfl) (fun _ _ _ h => h) (Or.inl ⟨by kernel_rfl, fun w hS => by obtain ⟨s0, s1⟩ := hS; go_simp⟩) hS ?_
  refine wpAnyH_take (i := 4) (v := (.int .i64 (f : Int))) rfl (by kernel_rfl) (by kernel_rfl) (by kernel_rfl) (fun _ _ _ h => h) (Or.inl ⟨by kernel_rfl, fun w hS => by obtain ⟨s0, s1⟩ := hS; go_simp⟩) hS ?_
  refine wpAnyH_take (i := 5) (v := (.pointer (some ⟨m, 0, none⟩))) rfl (by kernel_rfl) (by kernel_rfl) (by kernel_rfl) (fun _ _ _ h => h) (Or.inl ⟨by kernel_rfl, fun w hS => by obtain ⟨s0, s1⟩ := hS; go_simp⟩) hS ?_
  refine wpAnyH_take (i := 6) (v := (.pointer (some ⟨m, 0, none⟩))) rfl (by kernel_rfl) (by kernel_rfl) (by kernel_rfl) (fun _ _ _ h => h) (Or.inl ⟨by kernel_rfl, fun w hS => by obtain ⟨s0, s1⟩ := hS; go_simp⟩) hS ?_
  refine wpAnyH_take (i := 7) (v := (.pointer (some ⟨m, 5, none⟩))) rfl (by kernel_rfl) (by kernel_rfl) (by kernel_rfl) (fun _ _ _ h => h) (Or.inl ⟨by kernel_rfl, fun w hS => by obtain ⟨s0, s1⟩ := hS; go_simp⟩) hS ?_
  refine wpAnyH_take (i := 8) (v := (.string C.asked)) rfl (by kernel_rfl) (by kernel_rfl) (by kernel_rfl) (fun _ _ _ h => h) (Or.inl ⟨by kernel_rfl, fun w hS => by obtain ⟨s0, s1⟩ := hS; go_simp⟩) hS ?_
  refine wpAnyH_ready (rs := [9]) (by kernel_rfl) (by simp) ?_
  refine AllReadyH.cons rfl (fun K hK => ?_) AllReadyH.nil
  go_simp
  refine Calls.mono HSn.out ?_
  rintro e wz ⟨rfl, rfl⟩
  refine hK.out _ _ ⟨p0, p5⟩ (fun hS => ?_)
  clear hK
  refine wpAnyH_take (i := 10) (v := (.bool true)) rfl (by kernel_rfl) (by kernel_rfl) (by kernel_rfl) (fun _ _ _ h => h) (Or.inl ⟨by kernel_rfl, fun w hS => by obtain ⟨s0, s1⟩ := hS; go_simp⟩) hS ?_
  refine wpAnyH_done (by kernel_rfl) ?_ _
  clear hS
  go_wp2
  go_ret
  exact ⟨rfl, _, _, _, _, _, _, _, HFi.out⟩
set_option maxHeartbeats 8000000 in
set_option maxRecDepth 100000 in
theorem step_noise (ac : Ac) (w : World) (h : Both w0 w p b x y q tm m k S tc av C hv yv Y) (hk : k ≤ 1000) (hz : ac.text.size ≤ 140737488351232) (hkk : arn ac.kind 5 = 4) {er : Int} (hr : ofSgR ac.text = .error er) : Calls Try.prog 8 #[.pointer (some ⟨m, 0, none⟩), .pointer (some ⟨q, 0, none⟩), .pointer (some ⟨p, 0, none⟩), .agg #[.int .i64 ac.kind, .int .i64 ac.frm, .int .i64 ac.by_, .string ac.text]] w fun e w' => e = .returned (.bool true) ∧ ∃ S' tc' av' C' hv' yv' Y', Both w0 w' p b x y q tm m (k + 1) S' tc' av' C' hv' yv' Y' := by
  obtain ⟨W0, hW0, X0, B0⟩ := act_box w ac
  have c0 : W0.cell? ⟨w.heap.size, 0, none⟩ = some (.int .i64 ac.kind) := X0.cell rfl
  have HAr : Hid _ := fun wx => around_calls ac.kind 5 wx (by omega) (by omega)
  rw [hkk] at HAr
  have HB0 : Hid _ := h.keep B0
  have c3 : W0.cell? ⟨w.heap.size, 3, none⟩ = some (.string ac.text) := X0.cell rfl
  have hzm : ac.text.size ≤ maxLen := by unfold maxLen; omega
  have HRf : Hid _ := fun wx => ofSigned_ref ac.text wx hzm
  have hsl := h.sl
  have hal := h.al
  have hd : (er == 0) = false := by simpa using ofSgR_err hr
  have hd2 : decide (er = 0) = false := hd
  have HHr : Hid _ := heard_bad C S ac.text hr
  rw [hr] at HRf
  simp only [sgAns] at HRf
  obtain ⟨sn, sb, sg, HRz⟩ : ∃ sn sb sg, Hid (∀ wx, Calls Try.prog 18 #[.string ac.text] wx fun e w' => e = .returned (.tuple #[.agg #[.int .i64 sn, .string sb, .string sg], .int .i64 er]) ∧ Below wx.heap.size wx w') := ⟨_, _, _, HRf⟩
  clear HRf hr
  go_enter Try.func8, Try.ntmps8
  go_wp2_with fail
  refine (HAr.out _).mono ?_
  rintro e W0 ⟨rfl, rfl⟩
  go_wp2_with fail
  refine (HRz.out _).mono ?_
  rintro e w3 ⟨rfl, b3⟩
  obtain ⟨W4, hW4, B4⟩ : ∃ W4, w3.alloc (.cells #[.int .i64 sn, .string sb, .string sg] 62) = W4 ∧ Below w3.heap.size w3 W4 := ⟨_, rfl, by go_grown⟩
  have HB4 : Hid _ := (HB0.out.keep b3).keep B4
  have X4 := (X0.below b3).below B4
  have d3 : W4.cell? ⟨w.heap.size, 3, none⟩ = some (.string ac.text) := X4.cell rfl
  have HRc : Hid _ := rcv_none ac.text W4 HB4.out.st (by omega) hzm HB4.out.inv (by omega) HHr.out
  go_wp2_with fail
  refine Calls.mono HRc.out ?_
  rintro e w5 ⟨rfl, tc5, av5, H5, k5, f5⟩
  have HFi : Hid _ := (HB4.out.same H5 k5 f5).more
  go_wp2
  go_ret
  exact ⟨rfl, _, _, _, _, _, _, _, HFi.out⟩
set_option maxHeartbeats 8000000 in
set_option maxRecDepth 100000 in
theorem step_known (ac : Ac) (w : World) (h : Both w0 w p b x y q tm m k S tc av C hv yv Y) (hk : k ≤ 1000) (hz : ac.text.size ≤ 140737488351232) (hkk : arn ac.kind 5 = 4) {mm : Sg} (hr : ofSgR ac.text = .ok mm) (hc : chkB S mm.frm mm.body mm.sig = true) : Calls Try.prog 8 #[.pointer (some ⟨m, 0, none⟩), .pointer (some ⟨q, 0, none⟩), .pointer (some ⟨p, 0, none⟩), .agg #[.int .i64 ac.kind, .int .i64 ac.frm, .int .i64 ac.by_, .string ac.text]] w fun e w' => e = .returned (.bool true) ∧ ∃ S' tc' av' C' hv' yv' Y', Both w0 w' p b x y q tm m (k + 1) S' tc' av' C' hv' yv' Y' := by
  obtain ⟨W0, hW0, X0, B0⟩ := act_box w ac
  have c0 : W0.cell? ⟨w.heap.size, 0, none⟩ = some (.int .i64 ac.kind) := X0.cell rfl
  have HAr : Hid _ := fun wx => around_calls ac.kind 5 wx (by omega) (by omega)
  rw [hkk] at HAr
  have HB0 : Hid _ := h.keep B0
  have c3 : W0.cell? ⟨w.heap.size, 3, none⟩ = some (.string ac.text) := X0.cell rfl
  have hzm : ac.text.size ≤ maxLen := by unfold maxLen; omega
  have HRf : Hid _ := fun wx => ofSigned_ref ac.text wx hzm
  have hsl := h.sl
  have hal := h.al
  rw [hr] at HRf
  simp only [sgAns] at HRf
  unfold Sg.val at HRf
  have HCk : Hid _ := fun wx (hx : Book wx p b x y [] S) => bookCheck_calls mm.frm mm.body mm.sig wx hx (by omega)
  rw [hc] at HCk
  clear hr
  go_enter Try.func8, Try.ntmps8
  go_wp2_with fail
  refine (HAr.out _).mono ?_
  rintro e W0 ⟨rfl, rfl⟩
  go_wp2_with fail
  refine (HRf.out _).mono ?_
  rintro e w3 ⟨rfl, b3⟩
  obtain ⟨W4, hW4, M4, B4⟩ : ∃ W4, w3.alloc (.cells #[.int .i64 mm.frm, .string mm.body, .string mm.sig] 62) = W4 ∧ Blk W4 w3.heap.size #[.int .i64 mm.frm, .string mm.body, .string mm.sig] 62 ∧ Below w3.heap.size w3 W4 := ⟨_, rfl, blk_new _ _ _ _ rfl, by go_grown⟩
  have m0 : W4.cell? ⟨w3.heap.size, 0, none⟩ = some (.int .i64 mm.frm) := M4.cell rfl
  have m1 : W4.cell? ⟨w3.heap.size, 1, none⟩ = some (.string mm.body) := M4.cell rfl
  have m2 : W4.cell? ⟨w3.heap.size, 2, none⟩ = some (.string mm.sig) := M4.cell rfl
  have HB3 : Hid _ := (HB0.out.keep b3).keep B4
  have X4 := (X0.below b3).below B4
  go_wp2_with fail
  refine (HCk.out _ HB3.out.st.book).mono ?_
  rintro e w4 ⟨rfl, b4⟩
  have HB4 : Hid _ := HB3.out.keep b4
  have X5 := X4.below b4
  go_wp2
  go_ret
  exact ⟨rfl, _, _, _, _, _, _, _, HB4.out.more⟩
set_option maxHeartbeats 8000000 in
set_option maxRecDepth 100000 in
theorem step_forged (ac : Ac) (w : World) (h : Both w0 w p b x y q tm m k S tc av C hv yv Y) (hk : k ≤ 1000) (hz : ac.text.size ≤ 140737488351232) (hkk : arn ac.kind 5 = 4) {mm : Sg} (hr : ofSgR ac.text = .ok mm) (hc : chkB S mm.frm mm.body mm.sig = false) : Calls Try.prog 8 #[.pointer (some ⟨m, 0, none⟩), .pointer (some ⟨q, 0, none⟩), .pointer (some ⟨p, 0, none⟩), .agg #[.int .i64 ac.kind, .int .i64 ac.frm, .int .i64 ac.by_, .string ac.text]] w fun e w' => e = .returned (.bool true) ∧ ∃ S' tc' av' C' hv' yv' Y', Both w0 w' p b x y q tm m (k + 1) S' tc' av' C' hv' yv' Y' := by
  obtain ⟨W0, hW0, X0, B0⟩ := act_box w ac
  have c0 : W0.cell? ⟨w.heap.size, 0, none⟩ = some (.int .i64 ac.kind) := X0.cell rfl
  have HAr : Hid _ := fun wx => around_calls ac.kind 5 wx (by omega) (by omega)
  rw [hkk] at HAr
  have HB0 : Hid _ := h.keep B0
  have c3 : W0.cell? ⟨w.heap.size, 3, none⟩ = some (.string ac.text) := X0.cell rfl
  have hzm : ac.text.size ≤ maxLen := by unfold maxLen; omega
  have HRf : Hid _ := fun wx => ofSigned_ref ac.text wx hzm
  have hsl := h.sl
  have hal := h.al
  have HHr : Hid _ := heard_unsigned C S ac.text hr hc
  rw [hr] at HRf
  simp only [sgAns] at HRf
  unfold Sg.val at HRf
  have HCk : Hid _ := fun wx (hx : Book wx p b x y [] S) => bookCheck_calls mm.frm mm.body mm.sig wx hx (by omega)
  rw [hc] at HCk
  clear hr
  go_enter Try.func8, Try.ntmps8
  go_wp2_with fail
  refine (HAr.out _).mono ?_
  rintro e W0 ⟨rfl, rfl⟩
  go_wp2_with fail
  refine (HRf.out _).mono ?_
  rintro e w3 ⟨rfl, b3⟩
  obtain ⟨W4, hW4, M4, B4⟩ : ∃ W4, w3.alloc (.cells #[.int .i64 mm.frm, .string mm.body, .string mm.sig] 62) = W4 ∧ Blk W4 w3.heap.size #[.int .i64 mm.frm, .string mm.body, .string mm.sig] 62 ∧ Below w3.heap.size w3 W4 := ⟨_, rfl, blk_new _ _ _ _ rfl, by go_grown⟩
  have m0 : W4.cell? ⟨w3.heap.size, 0, none⟩ = some (.int .i64 mm.frm) := M4.cell rfl
  have m1 : W4.cell? ⟨w3.heap.size, 1, none⟩ = some (.string mm.body) := M4.cell rfl
  have m2 : W4.cell? ⟨w3.heap.size, 2, none⟩ = some (.string mm.sig) := M4.cell rfl
  have HB3 : Hid _ := (HB0.out.keep b3).keep B4
  have X4 := (X0.below b3).below B4
  go_wp2_with fail
  refine (HCk.out _ HB3.out.st.book).mono ?_
  rintro e w4 ⟨rfl, b4⟩
  have HB4 : Hid _ := HB3.out.keep b4
  have X5 := X4.below b4
  have d3 : w4.cell? ⟨w.heap.size, 3, none⟩ = some (.string ac.text) := X5.cell rfl
  have HRc : Hid _ := rcv_none ac.text w4 HB4.out.st (by omega) hzm HB4.out.inv (by omega) HHr.out
  go_wp2_with fail
  refine Calls.mono HRc.out ?_
  rintro e w5 ⟨rfl, tc5, av5, H5, k5, f5⟩
  have HFi : Hid _ := (HB4.out.same H5 k5 f5).more
  go_wp2
  go_ret
  exact ⟨rfl, _, _, _, _, _, _, _, HFi.out⟩
end Go.Proofs.Ytbbhihkeljpikaa
