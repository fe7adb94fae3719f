/- A vote is noted; what stands at a number is proved. -/
import Derived.Test.YtjpmnmgnbpecjaaVlF
namespace Go.Proofs.Ytjpmnmgnbpecjaa
open Go.Shelf Go.RowKit Go.Lib Go.Sort
open Go.ChangeMaps (setBlock)
set_option linter.unusedSimpArgs false
set_option linter.unusedVariables false

theorem eq_map (o : Option Nat) (w : World) : (binOp .eql 61 (.map o) (.map none)).run Try.prog w = .ok (.bool o.isNone) w := by cases o <;> kernel_rfl
theorem zeroVote (w : World) : (zeroValue 82).run Try.prog w = .ok (.agg (vC zeroVt).toArray) w := by kernel_rfl
theorem step_ifV {P : Program} {ops : Array Oper} {o : Oper} {a : Act} {w : World} {K : Act → World → Prop} {Q : Exit → Act → World → Prop} {E : Prop} (hg : o.guard = none) (h : Oper.wp P o a w K Q) :
    if Region.wanted o (yielded ops a.tmps) = true then Oper.wp P o a w K Q else E := by
  have hw : Region.wanted o (yielded ops a.tmps) = true := by simp [Region.wanted, hg]
  rw [if_pos hw]; exact h
theorem cell?_setCell_sameV {w : World} {b o : Nat} {u v : Value} (h : w.cell? ⟨b, o, none⟩ = some u) : (w.setCell ⟨b, o, none⟩ v).cell? ⟨b, o, none⟩ = some v := by
  have hth : w.there b o 0 := fun j hj => by omega
  simp [World.cell?_setCell_same, h]
theorem Blk.keepH {w w' : World} {k : Nat} {cs : Array Value} {t : TypeId} (h : Blk w k cs t) (e : w'.heap[k]? = w.heap[k]?) : Blk w' k cs t := e.trans h
set_option maxHeartbeats 16000000 in
set_option maxRecDepth 100000 in
theorem note_some (w : World) (p c b : Nat) (l : Vts) (m0 : Int) (m1 m2 : ByteArray) (c0 : Int) (c1 : ByteArray) (hz1 : m1.size ≤ 281474976710656) (hz2 : m2.size ≤ 281474976710656) (hc : w.cell? ⟨p, c, none⟩ = some (.map (some b))) (hm : MapAt w (some b) l) (hbp : p ≠ b) :
    Calls Try.prog 48 #[.pointer (some ⟨p, c, none⟩), .agg #[.int .i64 m0, .string m1, .string m2], .agg #[.int .i64 c0, .string c1]] w fun e w' => e = .returned (.tuple #[]) ∧ w'.heap[b]? = some (.map (ents (vput l m0 (c0, c1, (m0, m1, m2)))) (vput l m0 (c0, c1, (m0, m1, m2))).length) ∧ (∀ k, k < w.heap.size → k ≠ b → w'.heap[k]? = w.heap[k]?) ∧ w.heap.size ≤ w'.heap.size ∧ (w'.os = w.os ∧ w'.tape = w.tape ∧ w'.output = w.output) := by
  obtain ⟨W0, hW0, XM, B0, Z0⟩ : ∃ W0, (w.alloc (.cells #[.int .i64 m0, .string m1, .string m2] 38)) = W0 ∧ Blk W0 w.heap.size #[.int .i64 m0, .string m1, .string m2] 38 ∧ Below w.heap.size w W0 ∧ W0.heap.size = w.heap.size + 1 :=
    ⟨_, rfl, blk_new _ _ _ _ rfl, by go_grown, by simp⟩
  obtain ⟨W1, hW1, XC, B1, Z1⟩ : ∃ W1, (W0.alloc (.cells #[.int .i64 c0, .string c1] 59)) = W1 ∧ Blk W1 W0.heap.size #[.int .i64 c0, .string c1] 59 ∧ Below W0.heap.size W0 W1 ∧ W1.heap.size = W0.heap.size + 1 :=
    ⟨_, rfl, blk_new _ _ _ _ rfl, by go_grown, by simp⟩
  have b01 : Below w.heap.size w W1 := B0.trans (B1.mono (by omega))
  have hpl : p < w.heap.size := World.block_lt_of_cell? w _ hc
  have hz01 : w.heap.size < W0.heap.size ∧ W0.heap.size < W1.heap.size := by omega
  obtain ⟨hza, hzb⟩ := hz01
  have HZ0 : Hid _ := Z0
  have HZ1 : Hid _ := Z1
  clear Z0 Z1
  have he := eq_map (some b) W1
  have hc1 : W1.cell? ⟨p, c, none⟩ = some (.map (some b)) := (b01.cell (p := ⟨p, c, none⟩) hpl).trans hc
  have hm1 := hm.below b01
  have hbl := hm.lt
  have XM1 := XM.below B1
  have XC1 := XC
  go_enter Try.func48, Try.ntmps48
  go_wp2_with fail
  refine wp_region_held_drew (S := (fun wx => wx.cell? ⟨w.heap.size, 1, none⟩ = some (.string m1) ∧ wx.cell? ⟨w.heap.size, 2, none⟩ = some (.string m2))) (by kernel_rfl) ⟨XM1.drew.cell rfl, XM1.drew.cell rfl⟩ (fun hS => ?_)
  refine wpAnyH_take (i := 0) (v := (.pointer (some ⟨w.heap.size, 1, none⟩))) rfl (by kernel_rfl) (by kernel_rfl) (by kernel_rfl) (fun _ _ _ h => h) (Or.inl ⟨by kernel_rfl, fun w hS => by obtain ⟨s0, s1⟩ := hS; go_simp⟩) hS ?_
  refine wpAnyH_take (i := 1) (v := (.string m1)) rfl (by kernel_rfl) (by kernel_rfl) (by kernel_rfl) (fun _ _ _ h => h) (Or.inl ⟨by kernel_rfl, fun w hS => by obtain ⟨s0, s1⟩ := hS; go_simp⟩) hS ?_
  refine wpAnyH_take (i := 3) (v := (.pointer (some ⟨w.heap.size, 2, none⟩))) rfl (by kernel_rfl) (by kernel_rfl) (by kernel_rfl) (fun _ _ _ h => h) (Or.inl ⟨by kernel_rfl, fun w hS => by obtain ⟨s0, s1⟩ := hS; go_simp⟩) hS ?_
  refine wpAnyH_take (i := 4) (v := (.string m2)) rfl (by kernel_rfl) (by kernel_rfl) (by kernel_rfl) (fun _ _ _ h => h) (Or.inl ⟨by kernel_rfl, fun w hS => by obtain ⟨s0, s1⟩ := hS; go_simp⟩) hS ?_
  refine wpAnyH_ready (rs := [2]) (by kernel_rfl) (by simp) ?_
  refine AllReadyH.cons rfl (fun K hK => ?_) AllReadyH.nil
  go_simp
  refine (clone_calls m1 _ hz1).mono ?_
  rintro e w2 ⟨rfl, b2⟩
  have b2' : Below W1.heap.size W1 w2 := (Below.refl _ _).drew.trans b2
  have X2 := XM1.below b2'
  refine hK.out _ _ ⟨X2.cell rfl, X2.cell rfl⟩ (fun hS => ?_)
  clear hK
  refine wpAnyH_take (i := 6) (v := (.pointer (some ⟨w.heap.size, 1, none⟩))) rfl (by kernel_rfl) (by kernel_rfl) (by kernel_rfl) (fun _ _ _ h => h) (Or.inl ⟨by kernel_rfl, fun w hS => by obtain ⟨s0, s1⟩ := hS; go_simp⟩) hS ?_
  refine wpAnyH_ready (rs := [5]) (by kernel_rfl) (by simp) ?_
  refine AllReadyH.cons rfl (fun K hK => ?_) AllReadyH.nil
  go_simp
  refine (clone_calls m2 _ hz2).mono ?_
  rintro e w3 ⟨rfl, b3⟩
  have b3' : Below W1.heap.size W1 w3 := b2'.trans (b3.mono b2'.size)
  have X3 := XM1.below b3'
  refine hK.out _ _ ⟨X3.cell rfl, X3.cell rfl⟩ (fun hS => ?_)
  clear hK
  have x31 : w3.cell? ⟨w.heap.size, 1, none⟩ = some (.string m1) := X3.cell rfl
  have f31 : w3.frozen? ⟨w.heap.size, 1, none⟩ = false := X3.frozen
  obtain ⟨W4, hW4, X4, o4⟩ : ∃ W4, w3.setCell ⟨w.heap.size, 1, none⟩ (.string m1) = W4 ∧ Blk W4 w.heap.size #[.int .i64 m0, .string m1, .string m2] 38 ∧ Off w.heap.size w3 W4 :=
    ⟨_, rfl, X3.set 1 (.string m1), Off.setCell (Off.refl _ _) (p := ⟨w.heap.size, 1, none⟩) rfl _⟩
  refine wpAnyH_ready (rs := [7]) (by kernel_rfl) (by simp) ?_
  refine AllReadyH.cons rfl (fun K hK => ?_) AllReadyH.nil
  go_simp
  refine hK.out _ _ ⟨X4.cell rfl, X4.cell rfl⟩ (fun hS => ?_)
  clear hK
  refine wpAnyH_take (i := 8) (v := (.pointer (some ⟨w.heap.size, 2, none⟩))) rfl (by kernel_rfl) (by kernel_rfl) (by kernel_rfl) (fun _ _ _ h => h) (Or.inl ⟨by kernel_rfl, fun w hS => by obtain ⟨s0, s1⟩ := hS; go_simp⟩) hS ?_
  have x41 : W4.cell? ⟨w.heap.size, 2, none⟩ = some (.string m2) := X4.cell rfl
  have f41 : W4.frozen? ⟨w.heap.size, 2, none⟩ = false := X4.frozen
  obtain ⟨W5, hW5, X5, o5⟩ : ∃ W5, W4.setCell ⟨w.heap.size, 2, none⟩ (.string m2) = W5 ∧ Blk W5 w.heap.size #[.int .i64 m0, .string m1, .string m2] 38 ∧ Off w.heap.size W4 W5 :=
    ⟨_, rfl, X4.set 2 (.string m2), Off.setCell (Off.refl _ _) (p := ⟨w.heap.size, 2, none⟩) rfl _⟩
  refine wpAnyH_ready (rs := [9]) (by kernel_rfl) (by simp) ?_
  refine AllReadyH.cons rfl (fun K hK => ?_) AllReadyH.nil
  go_simp
  refine hK.out _ _ ⟨X5.cell rfl, X5.cell rfl⟩ (fun hS => ?_)
  clear hK hS
  refine wpAnyH_done (by kernel_rfl) ?_ _
  have o15 : Off w.heap.size W1 W5 := (Off.of_below b3').trans (o4.trans o5)
  have XC5 : Blk W5 W0.heap.size #[.int .i64 c0, .string c1] 59 := XC1.off o15 (by omega)
  have hp5 : W5.cell? ⟨p, c, none⟩ = some (.map (some b)) := (o15.cell (p := ⟨p, c, none⟩) (World.block_lt_of_cell? _ _ hc1) (by show p ≠ w.heap.size; omega)).trans hc1
  have hm5 : MapAt W5.drew (some b) l := hm1.keep fun k hk => by cases hk; exact o15.block b hm1.lt (by omega)
  have hnt : (Instr.mapUpdate 61 (.map (some b)) (.int .i64 m0) (.agg #[.int .i64 c0, .string c1, .int .i64 m0, .string m1, .string m2])).run Try.prog W5.drew = .ok () (setBlock W5.drew b (.map (ents (vput l m0 (c0, c1, (m0, m1, m2)))) (vput l m0 (c0, c1, (m0, m1, m2))).length)) :=
    run_note Try.underlying61 Try.underlying3 hm5 m0 (c0, c1, (m0, m1, m2))
  obtain ⟨l', HL⟩ : ∃ l', Hid (vput l m0 (c0, c1, (m0, m1, m2)) = l') := ⟨_, rfl⟩
  rw [HL.out] at hnt
  obtain ⟨W6, hW6, hh6, hk6, hz6, ho6⟩ : ∃ W6, setBlock W5.drew b (.map (ents l') l'.length) = W6 ∧ W6.heap[b]? = some (.map (ents l') l'.length) ∧ (∀ k, k ≠ b → W6.heap[k]? = W5.heap[k]?) ∧ W6.heap.size = W5.heap.size ∧ (W6.os = W5.os ∧ W6.tape = W5.tape ∧ W6.output = W5.output) :=
    ⟨_, rfl, setBlock_same _ hm5.lt, fun k hk => setBlock_other _ (by omega), setBlock_size _ _ _, rfl, rfl, rfl⟩
  rw [hW6] at hnt
  have HZ6 : Hid _ := hz6
  have Hk6 : Hid _ := hk6
  have Hh6 : Hid _ := hh6
  have Ho6 : Hid _ := ho6
  clear hz6 hk6 hh6 ho6 hW6 hW5 hW4
  go_wp2_with fail
  refine wp_region_held_drew (S := (fun wx => wx.cell? ⟨p, c, none⟩ = some (.map (some b)) ∧ wx.cell? ⟨w.heap.size, 0, none⟩ = some (.int .i64 m0) ∧ wx.cell? ⟨w.heap.size, 1, none⟩ = some (.string m1) ∧ wx.cell? ⟨w.heap.size, 2, none⟩ = some (.string m2) ∧ wx.cell? ⟨W0.heap.size, 0, none⟩ = some (.int .i64 c0) ∧ wx.cell? ⟨W0.heap.size, 1, none⟩ = some (.string c1))) (by kernel_rfl) ⟨hp5, X5.drew.cell rfl, X5.drew.cell rfl, X5.drew.cell rfl, XC5.drew.cell rfl, XC5.drew.cell rfl⟩ (fun hS => ?_)
  refine wpAnyH_take (i := 0) (v := (.pointer (some ⟨p, c, none⟩))) rfl (by kernel_rfl) (by kernel_rfl) (by kernel_rfl) (fun _ _ _ h => h) (Or.inl ⟨by kernel_rfl, fun w hS => by obtain ⟨s0, s1, s2, s3, s4, s5⟩ := hS; go_simp⟩) hS ?_
  refine wpAnyH_take (i := 1) (v := (.pointer (some ⟨p, c, none⟩))) rfl (by kernel_rfl) (by kernel_rfl) (by kernel_rfl) (fun _ _ _ h => h) (Or.inl ⟨by kernel_rfl, fun w hS => by obtain ⟨s0, s1, s2, s3, s4, s5⟩ := hS; go_simp⟩) hS ?_
  refine wpAnyH_take (i := 2) (v := (.map (some b))) rfl (by kernel_rfl) (by kernel_rfl) (by kernel_rfl) (fun _ _ _ h => h) (Or.inl ⟨by kernel_rfl, fun w hS => by obtain ⟨s0, s1, s2, s3, s4, s5⟩ := hS; go_simp⟩) hS ?_
  refine wpAnyH_take (i := 3) (v := (.pointer (some ⟨w.heap.size, 0, none⟩))) rfl (by kernel_rfl) (by kernel_rfl) (by kernel_rfl) (fun _ _ _ h => h) (Or.inl ⟨by kernel_rfl, fun w hS => by obtain ⟨s0, s1, s2, s3, s4, s5⟩ := hS; go_simp⟩) hS ?_
  refine wpAnyH_take (i := 4) (v := (.int .i64 m0)) rfl (by kernel_rfl) (by kernel_rfl) (by kernel_rfl) (fun _ _ _ h => h) (Or.inl ⟨by kernel_rfl, fun w hS => by obtain ⟨s0, s1, s2, s3, s4, s5⟩ := hS; go_simp⟩) hS ?_
  refine wpAnyH_take (i := 5) (v := (.agg #[.int .i64 c0, .string c1])) rfl (by kernel_rfl) (by kernel_rfl) (by kernel_rfl) (fun _ _ _ h => h) (Or.inl ⟨by kernel_rfl, fun w hS => by obtain ⟨s0, s1, s2, s3, s4, s5⟩ := hS; go_simp⟩) hS ?_
  refine wpAnyH_take (i := 6) (v := (.agg #[.int .i64 m0, .string m1, .string m2])) rfl (by kernel_rfl) (by kernel_rfl) (by kernel_rfl) (fun _ _ _ h => h) (Or.inl ⟨by kernel_rfl, fun w hS => by obtain ⟨s0, s1, s2, s3, s4, s5⟩ := hS; go_simp⟩) hS ?_
  refine wpAnyH_take (i := 7) (v := (.agg #[.int .i64 c0, .string c1, .int .i64 m0, .string m1, .string m2])) rfl (by kernel_rfl) (by kernel_rfl) (by kernel_rfl) (fun _ _ _ h => h) (Or.inl ⟨by kernel_rfl, fun w hS => by obtain ⟨s0, s1, s2, s3, s4, s5⟩ := hS; go_simp⟩) hS ?_
  refine wpAnyH_ready (rs := [8]) (by kernel_rfl) (by simp) ?_
  refine AllReadyH.cons rfl (fun K hK => ?_) AllReadyH.nil
  go_simp
  refine hK.out _ _ ?hSS (fun hS => ?_)
  case hSS =>
    have g1 := Blk.keepH X5 (Hk6.out _ (by omega))
    have g2 := Blk.keepH XC5 (Hk6.out _ (by omega))
    exact ⟨(World.cell?_of_block (w := W5) (Hk6.out p hbp)).trans hp5, g1.cell rfl, g1.cell rfl, g1.cell rfl, g2.cell rfl, g2.cell rfl⟩
  clear hK hS
  refine wpAnyH_done (by kernel_rfl) ?_ _
  go_wp2
  go_end0
  rw [HL.out]
  refine ⟨rfl, Hh6.out, fun k hk hkb => ?_, ?_, ?_⟩
  · rw [Hk6.out k hkb]; exact (o15.block k (by omega) (by omega)).trans (b01.block k hk)
  · rw [HZ6.out]; have := o15.size; omega
  · exact ⟨(Ho6.out.1.trans o15.os).trans b01.os, (Ho6.out.2.1.trans o15.tape).trans b01.tape, (Ho6.out.2.2.trans o15.output).trans b01.output⟩
set_option maxHeartbeats 16000000 in
set_option maxRecDepth 100000 in
theorem note_none (w : World) (p c : Nat) (m0 : Int) (m1 m2 : ByteArray) (c0 : Int) (c1 : ByteArray) (hz1 : m1.size ≤ 281474976710656) (hz2 : m2.size ≤ 281474976710656) (hc : w.cell? ⟨p, c, none⟩ = some (.map none)) (hf : w.frozen? ⟨p, c, none⟩ = false) :
    Calls Try.prog 48 #[.pointer (some ⟨p, c, none⟩), .agg #[.int .i64 m0, .string m1, .string m2], .agg #[.int .i64 c0, .string c1]] w fun e w' => e = .returned (.tuple #[]) ∧ ∃ b, w.heap.size ≤ b ∧ w'.heap[b]? = some (.map (ents (vput [] m0 (c0, c1, (m0, m1, m2)))) (vput [] m0 (c0, c1, (m0, m1, m2))).length) ∧ (∀ k, k < w.heap.size → k ≠ p → w'.heap[k]? = w.heap[k]?) ∧ (∃ wx : World, wx.heap[p]? = w.heap[p]? ∧ w'.heap[p]? = (wx.setCell ⟨p, c, none⟩ (.map (some b))).heap[p]?) ∧ w.heap.size ≤ w'.heap.size ∧ (w'.os = w.os ∧ w'.tape = w.tape ∧ w'.output = w.output) := by
  obtain ⟨W0, hW0, XM, B0, Z0⟩ : ∃ W0, (w.alloc (.cells #[.int .i64 m0, .string m1, .string m2] 38)) = W0 ∧ Blk W0 w.heap.size #[.int .i64 m0, .string m1, .string m2] 38 ∧ Below w.heap.size w W0 ∧ W0.heap.size = w.heap.size + 1 :=
    ⟨_, rfl, blk_new _ _ _ _ rfl, by go_grown, by simp⟩
  obtain ⟨W1, hW1, XC, B1, Z1⟩ : ∃ W1, (W0.alloc (.cells #[.int .i64 c0, .string c1] 59)) = W1 ∧ Blk W1 W0.heap.size #[.int .i64 c0, .string c1] 59 ∧ Below W0.heap.size W0 W1 ∧ W1.heap.size = W0.heap.size + 1 :=
    ⟨_, rfl, blk_new _ _ _ _ rfl, by go_grown, by simp⟩
  have b01 : Below w.heap.size w W1 := B0.trans (B1.mono (by omega))
  have hpl : p < w.heap.size := World.block_lt_of_cell? w _ hc
  have hz01 : w.heap.size < W0.heap.size ∧ W0.heap.size < W1.heap.size := by omega
  obtain ⟨hza, hzb⟩ := hz01
  have HZ0 : Hid _ := Z0
  have HZ1 : Hid _ := Z1
  clear Z0 Z1
  have he := eq_map none W1
  have hc0 : W1.cell? ⟨p, c, none⟩ = some (.map none) := (b01.cell (p := ⟨p, c, none⟩) hpl).trans hc
  have hf0 : W1.frozen? ⟨p, c, none⟩ = false := (World.frozen?_of_block (w := w) (b01.block p hpl)).trans hf
  obtain ⟨b, hb⟩ : ∃ b, b = W1.heap.size := ⟨_, rfl⟩
  obtain ⟨W2, hW2, hmm, B2, Z2, hc2, hf2⟩ : ∃ W2, (W1.alloc (.map #[] 0)) = W2 ∧ MapAt W2 (some b) [] ∧ Below W1.heap.size W1 W2 ∧ W2.heap.size = W1.heap.size + 1 ∧ W2.cell? ⟨p, c, none⟩ = some (.map none) ∧ W2.frozen? ⟨p, c, none⟩ = false := by
    refine ⟨_, rfl, by rw [hb]; exact heap_alloc_new _ _, by go_grown, by simp, ?_, ?_⟩
    · have hB : Below W1.heap.size W1 (W1.alloc (.map #[] 0)) := by go_grown
      exact (hB.cell (p := ⟨p, c, none⟩) (World.block_lt_of_cell? _ _ hc0)).trans hc0
    · have hB : Below W1.heap.size W1 (W1.alloc (.map #[] 0)) := by go_grown
      exact (World.frozen?_of_block (w := W1) (hB.block p (World.block_lt_of_cell? _ _ hc0))).trans hf0
  obtain ⟨W3, hW3, o3, hc1, Z3⟩ : ∃ W3, W2.setCell ⟨p, c, none⟩ (.map (some b)) = W3 ∧ Off p W2 W3 ∧ W3.cell? ⟨p, c, none⟩ = some (.map (some b)) ∧ W3.heap.size = W2.heap.size :=
    ⟨_, rfl, Off.setCell (Off.refl _ _) (p := ⟨p, c, none⟩) rfl _, cell?_setCell_sameV hc2, by simp [World.setCell]⟩
  have hbp : p ≠ b := by have := b01.size; omega
  have hm1 : MapAt W3 (some b) [] := hmm.keep fun k hk => by cases hk; exact o3.block b hmm.lt (by omega)
  have hbl : W0.heap.size < b := by omega
  have XM1 : Blk W3 w.heap.size #[.int .i64 m0, .string m1, .string m2] 38 := ((XM.below B1).below B2).off o3 (by omega)
  have XC1 : Blk W3 W0.heap.size #[.int .i64 c0, .string c1] 59 := (XC.below B2).off o3 (by omega)
  have HB : Hid (w.heap.size ≤ b) := by show _ ≤ _; have := b01.size; omega
  have HP3 : Hid (W3.heap[p]? = (W2.setCell ⟨p, c, none⟩ (.map (some b))).heap[p]?) := by show _ = _; rw [hW3]
  have HP2 : Hid (W2.heap[p]? = w.heap[p]?) := (B2.block p (by have := b01.size; omega)).trans (b01.block p hpl)
  have HK3 : Hid (∀ k, k < w.heap.size → k ≠ p → W3.heap[k]? = w.heap[k]?) := fun k hk hkp => (o3.block k (by have := b01.size; omega) hkp).trans ((B2.block k (by have := b01.size; omega)).trans (b01.block k hk))
  have HO3 : Hid (W3.os = w.os ∧ W3.tape = w.tape ∧ W3.output = w.output) := ⟨o3.os.trans (B2.os.trans b01.os), o3.tape.trans (B2.tape.trans b01.tape), o3.output.trans (B2.output.trans b01.output)⟩
  have HS3 : Hid (w.heap.size < W3.heap.size) := by show _ < _; omega
  have hmk : (Instr.makeMap 61 none).run Try.prog W1 = .ok (.map (some b)) W2 := by rw [← hW2, hb]; kernel_rfl
  have HZ2 : Hid _ := Z2
  have HZ3 : Hid _ := Z3
  have Hb : Hid _ := hb
  obtain ⟨l, hl⟩ : ∃ l : Vts, l = [] := ⟨_, rfl⟩
  rw [← hl] at hm1 ⊢
  clear Z2 Z3 hb hmm hl hW2
  go_enter Try.func48, Try.ntmps48
  go_wp2_with fail
  refine wp_region_held_drew (S := (fun wx => wx.cell? ⟨w.heap.size, 1, none⟩ = some (.string m1) ∧ wx.cell? ⟨w.heap.size, 2, none⟩ = some (.string m2))) (by kernel_rfl) ⟨XM1.drew.cell rfl, XM1.drew.cell rfl⟩ (fun hS => ?_)
  refine wpAnyH_take (i := 0) (v := (.pointer (some ⟨w.heap.size, 1, none⟩))) rfl (by kernel_rfl) (by kernel_rfl) (by kernel_rfl) (fun _ _ _ h => h) (Or.inl ⟨by kernel_rfl, fun w hS => by obtain ⟨s0, s1⟩ := hS; go_simp⟩) hS ?_
  refine wpAnyH_take (i := 1) (v := (.string m1)) rfl (by kernel_rfl) (by kernel_rfl) (by kernel_rfl) (fun _ _ _ h => h) (Or.inl ⟨by kernel_rfl, fun w hS => by obtain ⟨s0, s1⟩ := hS; go_simp⟩) hS ?_
  refine wpAnyH_take (i := 3) (v := (.pointer (some ⟨w.heap.size, 2, none⟩))) rfl (by kernel_rfl) (by kernel_rfl) (by kernel_rfl) (fun _ _ _ h => h) (Or.inl ⟨by kernel_rfl, fun w hS => by obtain ⟨s0, s1⟩ := hS; go_simp⟩) hS ?_
  refine wpAnyH_take (i := 4) (v := (.string m2)) rfl (by kernel_rfl) (by kernel_rfl) (by kernel_rfl) (fun _ _ _ h => h) (Or.inl ⟨by kernel_rfl, fun w hS => by obtain ⟨s0, s1⟩ := hS; go_simp⟩) hS ?_
  refine wpAnyH_ready (rs := [2]) (by kernel_rfl) (by simp) ?_
  refine AllReadyH.cons rfl (fun K hK => ?_) AllReadyH.nil
  go_simp
  refine (clone_calls m1 _ hz1).mono ?_
  rintro e w2 ⟨rfl, b2⟩
  have b2' : Below W3.heap.size W3 w2 := (Below.refl _ _).drew.trans b2
  have X2 := XM1.below b2'
  refine hK.out _ _ ⟨X2.cell rfl, X2.cell rfl⟩ (fun hS => ?_)
  clear hK
  refine wpAnyH_take (i := 6) (v := (.pointer (some ⟨w.heap.size, 1, none⟩))) rfl (by kernel_rfl) (by kernel_rfl) (by kernel_rfl) (fun _ _ _ h => h) (Or.inl ⟨by kernel_rfl, fun w hS => by obtain ⟨s0, s1⟩ := hS; go_simp⟩) hS ?_
  refine wpAnyH_ready (rs := [5]) (by kernel_rfl) (by simp) ?_
  refine AllReadyH.cons rfl (fun K hK => ?_) AllReadyH.nil
  go_simp
  refine (clone_calls m2 _ hz2).mono ?_
  rintro e w3 ⟨rfl, b3⟩
  have b3' : Below W3.heap.size W3 w3 := b2'.trans (b3.mono b2'.size)
  have X3 := XM1.below b3'
  refine hK.out _ _ ⟨X3.cell rfl, X3.cell rfl⟩ (fun hS => ?_)
  clear hK
  have x31 : w3.cell? ⟨w.heap.size, 1, none⟩ = some (.string m1) := X3.cell rfl
  have f31 : w3.frozen? ⟨w.heap.size, 1, none⟩ = false := X3.frozen
  obtain ⟨W4, hW4, X4, o4⟩ : ∃ W4, w3.setCell ⟨w.heap.size, 1, none⟩ (.string m1) = W4 ∧ Blk W4 w.heap.size #[.int .i64 m0, .string m1, .string m2] 38 ∧ Off w.heap.size w3 W4 :=
    ⟨_, rfl, X3.set 1 (.string m1), Off.setCell (Off.refl _ _) (p := ⟨w.heap.size, 1, none⟩) rfl _⟩
  refine wpAnyH_ready (rs := [7]) (by kernel_rfl) (by simp) ?_
  refine AllReadyH.cons rfl (fun K hK => ?_) AllReadyH.nil
  go_simp
  refine hK.out _ _ ⟨X4.cell rfl, X4.cell rfl⟩ (fun hS => ?_)
  clear hK
  refine wpAnyH_take (i := 8) (v := (.pointer (some ⟨w.heap.size, 2, none⟩))) rfl (by kernel_rfl) (by kernel_rfl) (by kernel_rfl) (fun _ _ _ h => h) (Or.inl ⟨by kernel_rfl, fun w hS => by obtain ⟨s0, s1⟩ := hS; go_simp⟩) hS ?_
  have x41 : W4.cell? ⟨w.heap.size, 2, none⟩ = some (.string m2) := X4.cell rfl
  have f41 : W4.frozen? ⟨w.heap.size, 2, none⟩ = false := X4.frozen
  obtain ⟨W5, hW5, X5, o5⟩ : ∃ W5, W4.setCell ⟨w.heap.size, 2, none⟩ (.string m2) = W5 ∧ Blk W5 w.heap.size #[.int .i64 m0, .string m1, .string m2] 38 ∧ Off w.heap.size W4 W5 :=
    ⟨_, rfl, X4.set 2 (.string m2), Off.setCell (Off.refl _ _) (p := ⟨w.heap.size, 2, none⟩) rfl _⟩
  refine wpAnyH_ready (rs := [9]) (by kernel_rfl) (by simp) ?_
  refine AllReadyH.cons rfl (fun K hK => ?_) AllReadyH.nil
  go_simp
  refine hK.out _ _ ⟨X5.cell rfl, X5.cell rfl⟩ (fun hS => ?_)
  clear hK hS
  refine wpAnyH_done (by kernel_rfl) ?_ _
  have o15 : Off w.heap.size W3 W5 := (Off.of_below b3').trans (o4.trans o5)
  have XC5 : Blk W5 W0.heap.size #[.int .i64 c0, .string c1] 59 := XC1.off o15 (by omega)
  have hp5 : W5.cell? ⟨p, c, none⟩ = some (.map (some b)) := (o15.cell (p := ⟨p, c, none⟩) (World.block_lt_of_cell? _ _ hc1) (by show p ≠ w.heap.size; omega)).trans hc1
  have hm5 : MapAt W5.drew (some b) l := hm1.keep fun k hk => by cases hk; exact o15.block b hm1.lt (by omega)
  have hnt : (Instr.mapUpdate 61 (.map (some b)) (.int .i64 m0) (.agg #[.int .i64 c0, .string c1, .int .i64 m0, .string m1, .string m2])).run Try.prog W5.drew = .ok () (setBlock W5.drew b (.map (ents (vput l m0 (c0, c1, (m0, m1, m2)))) (vput l m0 (c0, c1, (m0, m1, m2))).length)) :=
    run_note Try.underlying61 Try.underlying3 hm5 m0 (c0, c1, (m0, m1, m2))
  obtain ⟨l', HL⟩ : ∃ l', Hid (vput l m0 (c0, c1, (m0, m1, m2)) = l') := ⟨_, rfl⟩
  rw [HL.out] at hnt
  obtain ⟨W6, hW6, hh6, hk6, hz6, ho6⟩ : ∃ W6, setBlock W5.drew b (.map (ents l') l'.length) = W6 ∧ W6.heap[b]? = some (.map (ents l') l'.length) ∧ (∀ k, k ≠ b → W6.heap[k]? = W5.heap[k]?) ∧ W6.heap.size = W5.heap.size ∧ (W6.os = W5.os ∧ W6.tape = W5.tape ∧ W6.output = W5.output) :=
    ⟨_, rfl, setBlock_same _ hm5.lt, fun k hk => setBlock_other _ (by omega), setBlock_size _ _ _, rfl, rfl, rfl⟩
  rw [hW6] at hnt
  have HZ6 : Hid _ := hz6
  have Hk6 : Hid _ := hk6
  have Hh6 : Hid _ := hh6
  have Ho6 : Hid _ := ho6
  clear hz6 hk6 hh6 ho6 hW6 hW5 hW4
  go_wp2_with fail
  refine wp_region_held_drew (S := (fun wx => wx.cell? ⟨p, c, none⟩ = some (.map (some b)) ∧ wx.cell? ⟨w.heap.size, 0, none⟩ = some (.int .i64 m0) ∧ wx.cell? ⟨w.heap.size, 1, none⟩ = some (.string m1) ∧ wx.cell? ⟨w.heap.size, 2, none⟩ = some (.string m2) ∧ wx.cell? ⟨W0.heap.size, 0, none⟩ = some (.int .i64 c0) ∧ wx.cell? ⟨W0.heap.size, 1, none⟩ = some (.string c1))) (by kernel_rfl) ⟨hp5, X5.drew.cell rfl, X5.drew.cell rfl, X5.drew.cell rfl, XC5.drew.cell rfl, XC5.drew.cell rfl⟩ (fun hS => ?_)
  refine wpAnyH_take (i := 0) (v := (.pointer (some ⟨p, c, none⟩))) rfl (by kernel_rfl) (by kernel_rfl) (by kernel_rfl) (fun _ _ _ h => h) (Or.inl ⟨by kernel_rfl, fun w hS => by obtain ⟨s0, s1, s2, s3, s4, s5⟩ := hS; go_simp⟩) hS ?_
  refine wpAnyH_take (i := 1) (v := (.pointer (some ⟨p, c, none⟩))) rfl (by kernel_rfl) (by kernel_rfl) (by kernel_rfl) (fun _ _ _ h => h) (Or.inl ⟨by kernel_rfl, fun w hS => by obtain ⟨s0, s1, s2, s3, s4, s5⟩ := hS; go_simp⟩) hS ?_
  refine wpAnyH_take (i := 2) (v := (.map (some b))) rfl (by kernel_rfl) (by kernel_rfl) (by kernel_rfl) (fun _ _ _ h => h) (Or.inl ⟨by kernel_rfl, fun w hS => by obtain ⟨s0, s1, s2, s3, s4, s5⟩ := hS; go_simp⟩) hS ?_
  refine wpAnyH_take (i := 3) (v := (.pointer (some ⟨w.heap.size, 0, none⟩))) rfl (by kernel_rfl) (by kernel_rfl) (by kernel_rfl) (fun _ _ _ h => h) (Or.inl ⟨by kernel_rfl, fun w hS => by obtain ⟨s0, s1, s2, s3, s4, s5⟩ := hS; go_simp⟩) hS ?_
  refine wpAnyH_take (i := 4) (v := (.int .i64 m0)) rfl (by kernel_rfl) (by kernel_rfl) (by kernel_rfl) (fun _ _ _ h => h) (Or.inl ⟨by kernel_rfl, fun w hS => by obtain ⟨s0, s1, s2, s3, s4, s5⟩ := hS; go_simp⟩) hS ?_
  refine wpAnyH_take (i := 5) (v := (.agg #[.int .i64 c0, .string c1])) rfl (by kernel_rfl) (by kernel_rfl) (by kernel_rfl) (fun _ _ _ h => h) (Or.inl ⟨by kernel_rfl, fun w hS => by obtain ⟨s0, s1, s2, s3, s4, s5⟩ := hS; go_simp⟩) hS ?_
  refine wpAnyH_take (i := 6) (v := (.agg #[.int .i64 m0, .string m1, .string m2])) rfl (by kernel_rfl) (by kernel_rfl) (by kernel_rfl) (fun _ _ _ h => h) (Or.inl ⟨by kernel_rfl, fun w hS => by obtain ⟨s0, s1, s2, s3, s4, s5⟩ := hS; go_simp⟩) hS ?_
  refine wpAnyH_take (i := 7) (v := (.agg #[.int .i64 c0, .string c1, .int .i64 m0, .string m1, .string m2])) rfl (by kernel_rfl) (by kernel_rfl) (by kernel_rfl) (fun _ _ _ h => h) (Or.inl ⟨by kernel_rfl, fun w hS => by obtain ⟨s0, s1, s2, s3, s4, s5⟩ := hS; go_simp⟩) hS ?_
  refine wpAnyH_ready (rs := [8]) (by kernel_rfl) (by simp) ?_
  refine AllReadyH.cons rfl (fun K hK => ?_) AllReadyH.nil
  go_simp
  refine hK.out _ _ ?hSS (fun hS => ?_)
  case hSS =>
    have g1 := Blk.keepH X5 (Hk6.out _ (by omega))
    have g2 := Blk.keepH XC5 (Hk6.out _ (by omega))
    exact ⟨(World.cell?_of_block (w := W5) (Hk6.out p hbp)).trans hp5, g1.cell rfl, g1.cell rfl, g1.cell rfl, g2.cell rfl, g2.cell rfl⟩
  clear hK hS
  refine wpAnyH_done (by kernel_rfl) ?_ _
  go_wp2
  go_end0
  rw [HL.out]
  refine ⟨rfl, b, HB.out, Hh6.out, fun k hk hkb => ?_, ⟨W2, HP2.out, ?_⟩, ?_, ?_⟩
  · rw [Hk6.out k (by have := HB.out; omega)]; exact (o15.block k (by have := HS3.out; omega) (by omega)).trans (HK3.out k hk hkb)
  · rw [Hk6.out p hbp]; exact (o15.block p (by have := HS3.out; omega) (by omega)).trans HP3.out
  · rw [HZ6.out]; have := o15.size; have := HS3.out; omega
  · exact ⟨(Ho6.out.1.trans o15.os).trans HO3.out.1, (Ho6.out.2.1.trans o15.tape).trans HO3.out.2.1, (Ho6.out.2.2.trans o15.output).trans HO3.out.2.2⟩
end Go.Proofs.Ytjpmnmgnbpecjaa
