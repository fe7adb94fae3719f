/- Is a number prepared? What stands at a number is proved. -/
import Derived.Test.YtjpmnmgnbpecjaaVlD
import Derived.Deep.RegionHeldLaw
import Derived.Deep.RegionHeld3
namespace Go.Proofs.Ytjpmnmgnbpecjaa
open Go.Shelf Go.RowKit Go.Lib Go.Sort
open Go.ChangeMaps (setBlock)
set_option linter.unusedSimpArgs false
set_option linter.unusedVariables false

theorem toList_ne {D : ByteArray} (h : ¬ D = ⟨#[]⟩) : ¬ D.toList = [] := by
  intro e
  have h1 := strEq D ⟨#[]⟩
  have h2 : (⟨#[]⟩ : ByteArray).toList = [] := by rw [ByteArray.toList_eq]
  rw [e, h2, decide_eq_false h] at h1
  simp at h1
variable {w : World} {p o : Nat} {s : Slot} {a b : Option Nat} {lv : Value}
set_option maxHeartbeats 4000000 in
set_option maxRecDepth 100000 in
theorem proposed_calls (h : w.rangeAt p o (slC s a b lv)) : Calls Try.prog 32 #[.pointer (some ⟨p, o, none⟩)] w fun e w' => e = .returned (.bool (!decide (s.pd = ⟨#[]⟩))) ∧ w' = w := by
  have c1 : w.cell? ⟨p, o + 1, none⟩ = some (.string s.pd) := h 1 _ rfl
  clear h
  by_cases h0 : s.pd = ⟨#[]⟩
  · rw [h0] at c1
    rw [decide_eq_true h0]
    go_enter Try.func32, Try.ntmps32
    go_wp2
    go_ret
    exact ⟨by kernel_rfl, rfl⟩
  · have h1 : (s.pd.toList == ByteArray.toList ⟨#[]⟩) = false := by rw [strEq]; simp [h0]
    have h2 : (s.pd == ⟨#[]⟩) = false := by rw [beq_toListBytes]; exact h1
    rw [decide_eq_false h0]
    generalize s.pd = D at *
    go_enter Try.func32, Try.ntmps32
    go_wp2
    go_ret
    exact ⟨by first | rfl | simp [toList_ne h0], rfl⟩
set_option maxHeartbeats 4000000 in
set_option maxRecDepth 100000 in
theorem votes3_calls (w : World) (p o : Nat) : Calls Try.prog 33 #[.pointer (some ⟨p, o, none⟩), .int .i64 3] w fun e w' => e = .returned (.pointer (some ⟨p, o + 3, none⟩)) ∧ w' = w := by
  go_enter Try.func33, Try.ntmps33
  go_wp2
  go_ret
  exact ⟨rfl, rfl⟩
set_option maxHeartbeats 4000000 in
set_option maxRecDepth 100000 in
theorem votes4_calls (w : World) (p o : Nat) : Calls Try.prog 33 #[.pointer (some ⟨p, o, none⟩), .int .i64 4] w fun e w' => e = .returned (.pointer (some ⟨p, o + 4, none⟩)) ∧ w' = w := by
  go_enter Try.func33, Try.ntmps33
  go_wp2
  go_ret
  exact ⟨rfl, rfl⟩
set_option maxHeartbeats 4000000 in
set_option maxRecDepth 100000 in
theorem claimed_calls (w : World) (q : Int) (d : ByteArray) (hd : d.size ≤ 281474976710656) : Calls Try.prog 43 #[.int .i64 q, .string d] w fun e w' => e = .returned (.agg #[.int .i64 q, .string d]) ∧ Below w.heap.size w w' := by
  obtain ⟨z0, z1, hz0, hz1⟩ : ∃ z0 z1, z0 = (Value.int .i64 0) ∧ z1 = Value.string ⟨#[]⟩ := ⟨_, _, rfl, rfl⟩
  obtain ⟨W0, hW0, XC, B0, Z0⟩ : ∃ W0, (w.alloc (.cells #[.int .i64 0, .string ⟨#[]⟩] 59)) = W0 ∧ Blk W0 w.heap.size #[z0, z1] 59 ∧ Below w.heap.size w W0 ∧ W0.heap.size = w.heap.size + 1 :=
    ⟨_, rfl, by rw [hz0, hz1]; exact blk_new _ _ _ _ rfl, by go_grown, by simp⟩
  clear hz0 hz1
  have HZ : Hid _ := Z0
  clear Z0
  have HC := clone_calls d W0 hd
  go_enter Try.func43, Try.ntmps43
  go_wp2_with fail
  refine HC.mono ?_
  rintro e w1 ⟨rfl, b1⟩
  have X1 := XC.below b1
  obtain ⟨W2, hW2, X2, o2, z2, os2, tp2, ou2⟩ := setRow_named X1 #[.int .i64 q, .string d]
  have c0 : W2.cell? ⟨w.heap.size, 0, none⟩ = some (.int .i64 q) := X2.cell rfl
  have c1 : W2.cell? ⟨w.heap.size, 1, none⟩ = some (.string d) := X2.cell rfl
  have hb : Below w.heap.size w W2 := by
    have hz := HZ.out
    have := below_row (B := w.heap.size) (B0.trans (b1.mono (by omega))) hW2 (Nat.le_refl _)
    exact this
  have hinf : (Try.prog.info? 59).map (·.size) = some (#[Value.int .i64 q, Value.string d]).size := by kernel_rfl
  have hs : (#[z0, z1]).size = (#[Value.int .i64 q, Value.string d]).size := rfl
  have h1 : (#[Value.int .i64 q, Value.string d]).all (·.oneCell') = true := by kernel_rfl
  go_wp2_with (with_reducible refine st_row X1 hinf hs h1 hW2 rfl rfl ?_)
  (try simp only [Exit.inBlock, Exit.then])
  refine bodyPost_ret (v := .agg #[.int .i64 q, .string d]) (by simp [results, Try.results43, go_sem, c0, c1]) rfl ?_
  exact ⟨rfl, hb⟩
set_option maxHeartbeats 4000000 in
set_option maxRecDepth 100000 in
theorem prepared_no {S0 : Int} {S1 : ByteArray} (HP : ∀ wx, Below w.heap.size w wx → Calls Try.prog 32 #[.pointer (some ⟨p, o, none⟩)] wx fun e w' => e = .returned (.bool false) ∧ w' = wx) (HS : ∀ wx, Below w.heap.size w wx → wx.cell? ⟨p, o, none⟩ = some (.int .i64 S0) ∧ wx.cell? ⟨p, o + 1, none⟩ = some (.string S1) ∧ wx.cell? ⟨p, o + 3, none⟩ = some (.map a)) :
    Calls Try.prog 34 #[.pointer (some ⟨p, 0, none⟩), .pointer (some ⟨p, o, none⟩)] w fun e w' => e = .returned (.bool false) ∧ Below w.heap.size w w' := by
  go_enter Try.func34, Try.ntmps34
  go_wp2_with fail
  refine wp_region_held_drew (S := (fun wx => wx.cell? ⟨p, o, none⟩ = some (.int .i64 S0) ∧ wx.cell? ⟨p, o + 1, none⟩ = some (.string S1) ∧ wx.cell? ⟨p, o + 3, none⟩ = some (.map a))) (by kernel_rfl) (HS _ (Below.refl _ _).drew) (fun hS => ?_)
  refine wpAnyH_take (i := 0) (v := (.pointer (some ⟨p, o, none⟩))) rfl (by kernel_rfl) (by kernel_rfl) (by kernel_rfl) (fun _ _ _ h => h) (Or.inl ⟨by kernel_rfl, fun w hS => by obtain ⟨s0, s1, s2⟩ := hS; go_simp⟩) hS ?_
  refine wpAnyH_take (i := 1) (v := (.pointer (some ⟨p, o, none⟩))) rfl (by kernel_rfl) (by kernel_rfl) (by kernel_rfl) (fun _ _ _ h => h) (Or.inl ⟨by kernel_rfl, fun w hS => by obtain ⟨s0, s1, s2⟩ := hS; go_simp⟩) hS ?_
  refine wpAnyH_take (i := 2) (v := (.pointer (some ⟨p, o, none⟩))) rfl (by kernel_rfl) (by kernel_rfl) (by kernel_rfl) (fun _ _ _ h => h) (Or.inl ⟨by kernel_rfl, fun w hS => by obtain ⟨s0, s1, s2⟩ := hS; go_simp⟩) hS ?_
  refine wpAnyH_ready (rs := [3]) (by kernel_rfl) (by simp) ?_
  refine AllReadyH.cons rfl (fun K hK => ?_) AllReadyH.nil
  go_simp
  refine (HP _ (Below.refl _ _).drew).mono ?_
  rintro e w1 ⟨rfl, hw1⟩
  have b1 : Below w.heap.size w w1 := by rw [hw1]; exact (Below.refl _ _).drew
  refine hK.out _ _ (HS _ b1) (fun hS => ?_)
  clear hK hw1
  refine wpAnyH_take (i := 4) (v := (.bool false)) rfl (by kernel_rfl) (by kernel_rfl) (by kernel_rfl) (fun _ _ _ h => h) (Or.inl ⟨by kernel_rfl, fun w hS => by obtain ⟨s0, s1, s2⟩ := hS; go_simp⟩) hS ?_
  refine wpAnyH_take (i := 5) (v := undef) rfl (by kernel_rfl) (by kernel_rfl) (by kernel_rfl) (fun _ _ _ h => h) (Or.inr ⟨by kernel_rfl, rfl⟩) hS ?_
  refine wpAnyH_take (i := 6) (v := undef) rfl (by kernel_rfl) (by kernel_rfl) (by kernel_rfl) (fun _ _ _ h => h) (Or.inr ⟨by kernel_rfl, rfl⟩) hS ?_
  refine wpAnyH_take (i := 7) (v := undef) rfl (by kernel_rfl) (by kernel_rfl) (by kernel_rfl) (fun _ _ _ h => h) (Or.inr ⟨by kernel_rfl, rfl⟩) hS ?_
  refine wpAnyH_take (i := 8) (v := undef) rfl (by kernel_rfl) (by kernel_rfl) (by kernel_rfl) (fun _ _ _ h => h) (Or.inr ⟨by kernel_rfl, rfl⟩) hS ?_
  refine wpAnyH_take (i := 9) (v := undef) rfl (by kernel_rfl) (by kernel_rfl) (by kernel_rfl) (fun _ _ _ h => h) (Or.inr ⟨by kernel_rfl, rfl⟩) hS ?_
  refine wpAnyH_take (i := 10) (v := undef) rfl (by kernel_rfl) (by kernel_rfl) (by kernel_rfl) (fun _ _ _ h => h) (Or.inr ⟨by kernel_rfl, rfl⟩) hS ?_
  refine wpAnyH_take (i := 11) (v := undef) rfl (by kernel_rfl) (by kernel_rfl) (by kernel_rfl) (fun _ _ _ h => h) (Or.inr ⟨by kernel_rfl, rfl⟩) hS ?_
  refine wpAnyH_take (i := 12) (v := undef) rfl (by kernel_rfl) (by kernel_rfl) (by kernel_rfl) (fun _ _ _ h => h) (Or.inr ⟨by kernel_rfl, rfl⟩) hS ?_
  refine wpAnyH_take (i := 13) (v := undef) rfl (by kernel_rfl) (by kernel_rfl) (by kernel_rfl) (fun _ _ _ h => h) (Or.inr ⟨by kernel_rfl, rfl⟩) hS ?_
  refine wpAnyH_take (i := 14) (v := undef) rfl (by kernel_rfl) (by kernel_rfl) (by kernel_rfl) (fun _ _ _ h => h) (Or.inr ⟨by kernel_rfl, rfl⟩) hS ?_
  refine wpAnyH_take (i := 15) (v := undef) rfl (by kernel_rfl) (by kernel_rfl) (by kernel_rfl) (fun _ _ _ h => h) (Or.inr ⟨by kernel_rfl, rfl⟩) hS ?_
  refine wpAnyH_take (i := 16) (v := undef) rfl (by kernel_rfl) (by kernel_rfl) (by kernel_rfl) (fun _ _ _ h => h) (Or.inr ⟨by kernel_rfl, rfl⟩) hS ?_
  refine wpAnyH_take (i := 17) (v := undef) rfl (by kernel_rfl) (by kernel_rfl) (by kernel_rfl) (fun _ _ _ h => h) (Or.inr ⟨by kernel_rfl, rfl⟩) hS ?_
  refine wpAnyH_take (i := 18) (v := (.bool false)) rfl (by kernel_rfl) (by kernel_rfl) (by kernel_rfl) (fun _ _ _ h => h) (Or.inl ⟨by kernel_rfl, fun w hS => by obtain ⟨s0, s1, s2⟩ := hS; go_simp⟩) hS ?_
  refine wpAnyH_take (i := 19) (v := (.bool false)) rfl (by kernel_rfl) (by kernel_rfl) (by kernel_rfl) (fun _ _ _ h => h) (Or.inl ⟨by kernel_rfl, fun w hS => by obtain ⟨s0, s1, s2⟩ := hS; go_simp⟩) hS ?_
  refine wpAnyH_done (by kernel_rfl) ?_ _
  clear HP HS hS
  go_simp
  go_wp2
  go_ret
  exact ⟨rfl, b1⟩
set_option maxHeartbeats 4000000 in
set_option maxRecDepth 100000 in
theorem prepared_calls {n : Nat} (hn : Nok n) (h0 : w.cell? ⟨p, 0, none⟩ = some (.int .i64 n)) (h : w.rangeAt p o (slC s a b lv)) (hm : MapAt w a s.pr) (hv : VOk n s.pr) :
    Calls Try.prog 34 #[.pointer (some ⟨p, 0, none⟩), .pointer (some ⟨p, o, none⟩)] w fun e w' => e = .returned (.bool (s.prep n)) ∧ Below w.heap.size w w' := by
  have HP : Hid (∀ wx, Below w.heap.size w wx → _) := fun wx (hb : Below w.heap.size w wx) => proposed_calls (w := wx) (p := p) (o := o) (s := s) (a := a) (b := b) (lv := lv) (rangeAt_block h (hb.block p (World.block_lt_of_cell? w _ h0)))
  have HQ : Hid (∀ wx, Below w.heap.size w wx → _) := fun wx (hb : Below w.heap.size w wx) => quorum_calls n p a s.pr s.ps s.pd wx hn (hm.below hb) hv ((hb.cell (p := ⟨p, 0, none⟩) (World.block_lt_of_cell? w _ h0)).trans h0)
  have c0 : w.cell? ⟨p, o, none⟩ = some (.int .i64 s.ps) := h 0 _ rfl
  have c1 : w.cell? ⟨p, o + 1, none⟩ = some (.string s.pd) := h 1 _ rfl
  have c3 : w.cell? ⟨p, o + 3, none⟩ = some (.map a) := h 3 _ rfl
  have HR : Hid (s.prep n = (!decide (s.pd = ⟨#[]⟩) && (qrm n s.pr (s.ps, s.pd)).isSome)) := rfl
  have hpl := World.block_lt_of_cell? w _ h0
  have HS : Hid (∀ wx, Below w.heap.size w wx → wx.cell? ⟨p, o, none⟩ = some (.int .i64 s.ps) ∧ wx.cell? ⟨p, o + 1, none⟩ = some (.string s.pd) ∧ wx.cell? ⟨p, o + 3, none⟩ = some (.map a)) := fun wx hb => ⟨(hb.cell (p := ⟨p, o, none⟩) hpl).trans c0, (hb.cell (p := ⟨p, o + 1, none⟩) hpl).trans c1, (hb.cell (p := ⟨p, o + 3, none⟩) hpl).trans c3⟩
  generalize s.prep n = R at *
  generalize qrm n s.pr (s.ps, s.pd) = Q at *
  generalize (!decide (s.pd = ⟨#[]⟩)) = PB at *
  cases PB with
  | false =>
    obtain rfl : R = false := by rw [HR.out]; simp
    exact prepared_no HP.out HS.out
  | true =>
    clear h hm hv
    generalize s.ps = S0 at *
    generalize s.pd = S1 at *
    go_enter Try.func34, Try.ntmps34
    go_wp2_with fail
    refine wp_region_held_drew (S := (fun wx => wx.cell? ⟨p, o, none⟩ = some (.int .i64 S0) ∧ wx.cell? ⟨p, o + 1, none⟩ = some (.string S1) ∧ wx.cell? ⟨p, o + 3, none⟩ = some (.map a))) (by kernel_rfl) (HS.out _ (Below.refl _ _).drew) (fun hS => ?_)
    refine wpAnyH_take (i := 0) (v := (.pointer (some ⟨p, o, none⟩))) rfl (by kernel_rfl) (by kernel_rfl) (by kernel_rfl) (fun _ _ _ h => h) (Or.inl ⟨by kernel_rfl, fun w hS => by obtain ⟨s0, s1, s2⟩ := hS; go_simp⟩) hS ?_
    refine wpAnyH_take (i := 1) (v := (.pointer (some ⟨p, o, none⟩))) rfl (by kernel_rfl) (by kernel_rfl) (by kernel_rfl) (fun _ _ _ h => h) (Or.inl ⟨by kernel_rfl, fun w hS => by obtain ⟨s0, s1, s2⟩ := hS; go_simp⟩) hS ?_
    refine wpAnyH_take (i := 2) (v := (.pointer (some ⟨p, o, none⟩))) rfl (by kernel_rfl) (by kernel_rfl) (by kernel_rfl) (fun _ _ _ h => h) (Or.inl ⟨by kernel_rfl, fun w hS => by obtain ⟨s0, s1, s2⟩ := hS; go_simp⟩) hS ?_
    refine wpAnyH_ready (rs := [3]) (by kernel_rfl) (by simp) ?_
    refine AllReadyH.cons rfl (fun K hK => ?_) AllReadyH.nil
    go_simp
    refine (HP.out _ (Below.refl _ _).drew).mono ?_
    rintro e w1 ⟨rfl, hw1⟩
    have b1 : Below w.heap.size w w1 := by rw [hw1]; exact (Below.refl _ _).drew
    refine hK.out _ _ (HS.out _ b1) (fun hS => ?_)
    clear hK hw1
    refine wpAnyH_take (i := 4) (v := (.bool true)) rfl (by kernel_rfl) (by kernel_rfl) (by kernel_rfl) (fun _ _ _ h => h) (Or.inl ⟨by kernel_rfl, fun w hS => by obtain ⟨s0, s1, s2⟩ := hS; go_simp⟩) hS ?_
    refine wpAnyH_take (i := 5) (v := (.pointer (some ⟨p, 0, none⟩))) rfl (by kernel_rfl) (by kernel_rfl) (by kernel_rfl) (fun _ _ _ h => h) (Or.inl ⟨by kernel_rfl, fun w hS => by obtain ⟨s0, s1, s2⟩ := hS; go_simp⟩) hS ?_
    refine wpAnyH_take (i := 6) (v := (.pointer (some ⟨p, o, none⟩))) rfl (by kernel_rfl) (by kernel_rfl) (by kernel_rfl) (fun _ _ _ h => h) (Or.inl ⟨by kernel_rfl, fun w hS => by obtain ⟨s0, s1, s2⟩ := hS; go_simp⟩) hS ?_
    refine wpAnyH_take (i := 7) (v := (.pointer (some ⟨p, o, none⟩))) rfl (by kernel_rfl) (by kernel_rfl) (by kernel_rfl) (fun _ _ _ h => h) (Or.inl ⟨by kernel_rfl, fun w hS => by obtain ⟨s0, s1, s2⟩ := hS; go_simp⟩) hS ?_
    refine wpAnyH_take (i := 8) (v := (.pointer (some ⟨p, o, none⟩))) rfl (by kernel_rfl) (by kernel_rfl) (by kernel_rfl) (fun _ _ _ h => h) (Or.inl ⟨by kernel_rfl, fun w hS => by obtain ⟨s0, s1, s2⟩ := hS; go_simp⟩) hS ?_
    refine wpAnyH_take (i := 9) (v := (.pointer (some ⟨p, o + 3, none⟩))) rfl (by kernel_rfl) (by kernel_rfl) (by kernel_rfl) (fun _ _ _ h => h) (Or.inl ⟨by kernel_rfl, fun w hS => by obtain ⟨s0, s1, s2⟩ := hS; go_simp⟩) hS ?_
    refine wpAnyH_take (i := 10) (v := (.map a)) rfl (by kernel_rfl) (by kernel_rfl) (by kernel_rfl) (fun _ _ _ h => h) (Or.inl ⟨by kernel_rfl, fun w hS => by obtain ⟨s0, s1, s2⟩ := hS; go_simp⟩) hS ?_
    refine wpAnyH_take (i := 11) (v := (.pointer (some ⟨p, o, none⟩))) rfl (by kernel_rfl) (by kernel_rfl) (by kernel_rfl) (fun _ _ _ h => h) (Or.inl ⟨by kernel_rfl, fun w hS => by obtain ⟨s0, s1, s2⟩ := hS; go_simp⟩) hS ?_
    refine wpAnyH_take (i := 12) (v := (.pointer (some ⟨p, o, none⟩))) rfl (by kernel_rfl) (by kernel_rfl) (by kernel_rfl) (fun _ _ _ h => h) (Or.inl ⟨by kernel_rfl, fun w hS => by obtain ⟨s0, s1, s2⟩ := hS; go_simp⟩) hS ?_
    refine wpAnyH_take (i := 13) (v := (.pointer (some ⟨p, o, none⟩))) rfl (by kernel_rfl) (by kernel_rfl) (by kernel_rfl) (fun _ _ _ h => h) (Or.inl ⟨by kernel_rfl, fun w hS => by obtain ⟨s0, s1, s2⟩ := hS; go_simp⟩) hS ?_
    refine wpAnyH_take (i := 14) (v := (.pointer (some ⟨p, o, none⟩))) rfl (by kernel_rfl) (by kernel_rfl) (by kernel_rfl) (fun _ _ _ h => h) (Or.inl ⟨by kernel_rfl, fun w hS => by obtain ⟨s0, s1, s2⟩ := hS; go_simp⟩) hS ?_
    refine wpAnyH_take (i := 15) (v := (.agg #[.int .i64 S0, .string S1])) rfl (by kernel_rfl) (by kernel_rfl) (by kernel_rfl) (fun _ _ _ h => h) (Or.inl ⟨by kernel_rfl, fun w hS => by obtain ⟨s0, s1, s2⟩ := hS; go_simp⟩) hS ?_
    refine wpAnyH_ready (rs := [16]) (by kernel_rfl) (by simp) ?_
    refine AllReadyH.cons rfl (fun K hK => ?_) AllReadyH.nil
    go_simp
    refine (HQ.out _ b1).mono ?_
    rintro e w2 ⟨v, rfl, hv, hb2⟩
    have b2 : Below w.heap.size w w2 := b1.trans (hb2.mono b1.size)
    refine hK.out _ _ (HS.out _ b2) (fun hS => ?_)
    clear hK
    cases Q with
    | none =>
      have hv' : v = .slice none 0 0 := hv
      subst hv'
      refine wpAnyH_take (i := 17) (v := (.bool false)) rfl (by kernel_rfl) (by kernel_rfl) (by kernel_rfl) (fun _ _ _ h => h) (Or.inl ⟨by kernel_rfl, fun w hS => by obtain ⟨s0, s1, s2⟩ := hS; go_simp⟩) hS ?_
      refine wpAnyH_take (i := 18) (v := (.bool false)) rfl (by kernel_rfl) (by kernel_rfl) (by kernel_rfl) (fun _ _ _ h => h) (Or.inl ⟨by kernel_rfl, fun w hS => by obtain ⟨s0, s1, s2⟩ := hS; go_simp⟩) hS ?_
      refine wpAnyH_take (i := 19) (v := (.bool false)) rfl (by kernel_rfl) (by kernel_rfl) (by kernel_rfl) (fun _ _ _ h => h) (Or.inl ⟨by kernel_rfl, fun w hS => by obtain ⟨s0, s1, s2⟩ := hS; go_simp⟩) hS ?_
      refine wpAnyH_done (by kernel_rfl) ?_ _
      go_wp2
      go_ret
      exact ⟨by rw [HR.out]; rfl, b2⟩
    | some l =>
      obtain ⟨hne, hv2⟩ := hv
      rcases hv2 with ⟨_, h2⟩ | ⟨g, cap, cs, rfl, _⟩
      · exact absurd h2 hne
      clear hne
      generalize l.length = ll at *
      refine wpAnyH_take (i := 17) (v := (.bool true)) rfl (by kernel_rfl) (by kernel_rfl) (by kernel_rfl) (fun _ _ _ h => h) (Or.inl ⟨by kernel_rfl, fun w hS => by obtain ⟨s0, s1, s2⟩ := hS; go_simp⟩) hS ?_
      refine wpAnyH_take (i := 18) (v := (.bool true)) rfl (by kernel_rfl) (by kernel_rfl) (by kernel_rfl) (fun _ _ _ h => h) (Or.inl ⟨by kernel_rfl, fun w hS => by obtain ⟨s0, s1, s2⟩ := hS; go_simp⟩) hS ?_
      refine wpAnyH_take (i := 19) (v := (.bool true)) rfl (by kernel_rfl) (by kernel_rfl) (by kernel_rfl) (fun _ _ _ h => h) (Or.inl ⟨by kernel_rfl, fun w hS => by obtain ⟨s0, s1, s2⟩ := hS; go_simp⟩) hS ?_
      refine wpAnyH_done (by kernel_rfl) ?_ _
      go_wp2
      go_ret
      exact ⟨by rw [HR.out]; rfl, b2⟩
end Go.Proofs.Ytjpmnmgnbpecjaa
