/- Six numbers as an order; may it stand behind those that were read? -/
import Derived.Test.YtlhfdgeknpmdfaaCaOp
namespace Go.Proofs.Ytlhfdgeknpmdfaa
open Go.Shelf Go.RowKit Go.Lib Go.Sort
set_option linter.unusedSimpArgs false
set_option linter.unusedVariables false
variable {base p : Nat} {v : Value}

/-- A guarded call as the next step of a held region. -/
theorem readyH_callK {P : Program} {md : Region.Mode} {ops : Array Oper} {Q : Exit → Act → World → Prop} {S : World → Prop} {fuel : Nat} {listed : Array Bool} {a : Act} {w : World} {i : Nat} {o : Oper} (ho : ops[i]? = some o) (hw : Region.wanted o (yielded ops a.tmps) = true)
    (h : ∀ K' : Act → World → Prop, Shut (∀ a w, S w → (S w → wpAnyH P md ops Q S fuel (listed.setIfInBounds i true) a w) → K' a w) → Oper.wp P o a w K' Q) : AllReadyH P md ops Q S fuel listed a w [i] :=
  AllReadyH.cons ho (fun K hK => by rw [if_pos hw]; exact h K hK) AllReadyH.nil
set_option maxHeartbeats 1000000 in
set_option maxRecDepth 100000 in
theorem findW_calls (x nx : Int) (l : List Od) (w : World) (hX : Blk w p #[.int .i64 nx, v] 54) (hr : w.ownsRow base 28 6 v l.length (odL l)) (hl : l.length ≤ 1000) : Calls Try.prog 44 #[.pointer (some ⟨p, 0, none⟩), .int .i64 x] w fun e w' => e = .returned (.int .i64 (fnd l x)) ∧ Below w.heap.size w w' := by
  have e1 : ∀ args w, (callFunc 66 args).run Try.prog w = .ok (.enter 66 args) w := by intro args w; kernel_rfl
  obtain ⟨W0, hW0, X0, B0, Z0⟩ : ∃ W0, (w.alloc (.cells #[.int .i64 x] 3)) = W0 ∧ Blk W0 w.heap.size #[.int .i64 x] 3 ∧ Below w.heap.size w W0 ∧ W0.heap.size = w.heap.size + 1 :=
    ⟨_, rfl, blk_new _ _ _ _ rfl, by go_grown, by simp⟩
  have c0 : W0.cell? ⟨p, 1, none⟩ = some v := (hX.below B0).cell rfl
  have hcx : W0.cell? ⟨w.heap.size, 0, none⟩ = some (.int .i64 x) := X0.cell rfl
  have HC : Hid _ := indexFunc_calls (fun o => o.id == x) 66 #[.pointer (some ⟨w.heap.size, 0, none⟩)] v l W0 e1 ((ods_own hr).below B0) (by omega) (fun o wx hb => (find1_calls o x w.heap.size wx ((hb.cell (p := ⟨w.heap.size, 0, none⟩) X0.lt).trans hcx)).mono fun _ _ k => ⟨k.1, k.2.below⟩)
  obtain ⟨oc, ocap, rfl⟩ := own_form hr
  clear e1 hX hr hcx X0
  go_enter Try.func44, Try.ntmps44
  go_wp2_with fail
  refine Calls.mono HC.out ?_
  rintro e w1 ⟨rfl, b1⟩
  go_wp2
  go_ret
  exact ⟨rfl, B0.trans (b1.mono (by omega))⟩
set_option maxHeartbeats 16000000 in
set_option maxRecDepth 100000 in
theorem takes_calls (nx : Int) (l : List Od) (o : Od) (w : World) (hX : Blk w p #[.int .i64 nx, v] 54) (hr : w.ownsRow base 28 6 v l.length (odL l)) (hl : l.length ≤ 64) :
    Calls Try.prog 23 #[.pointer (some ⟨p, 0, none⟩), .agg #[.int .i64 o.id, .int .i64 o.own, .int .i64 o.pr, .int .i64 o.am, .int .i64 o.pl, .bool o.by]] w fun e w' => e = .returned (.bool (tkB nx l o)) ∧ Below w.heap.size w w' := by
  obtain ⟨W1, hW1, X1, B1⟩ : ∃ W1, w.alloc (.cells #[.int .i64 o.id, .int .i64 o.own, .int .i64 o.pr, .int .i64 o.am, .int .i64 o.pl, .bool o.by] 28) = W1 ∧ Blk W1 w.heap.size #[.int .i64 o.id, .int .i64 o.own, .int .i64 o.pr, .int .i64 o.am, .int .i64 o.pl, .bool o.by] 28 ∧ Below w.heap.size w W1 := ⟨_, rfl, blk_new _ _ _ _ rfl, by go_grown⟩
  have X2 := hX.below B1
  have hr2 := ownB hr B1
  have c0 : W1.cell? ⟨p, 0, none⟩ = some (.int .i64 nx) := X2.cell rfl
  have c1 : W1.cell? ⟨p, 1, none⟩ = some v := X2.cell rfl
  have o0 : W1.cell? ⟨w.heap.size, 0, none⟩ = some (.int .i64 o.id) := X1.cell rfl
  have o1 : W1.cell? ⟨w.heap.size, 1, none⟩ = some (.int .i64 o.own) := X1.cell rfl
  have o2 : W1.cell? ⟨w.heap.size, 2, none⟩ = some (.int .i64 o.pr) := X1.cell rfl
  have o3 : W1.cell? ⟨w.heap.size, 3, none⟩ = some (.int .i64 o.am) := X1.cell rfl
  have o4 : W1.cell? ⟨w.heap.size, 4, none⟩ = some (.int .i64 o.pl) := X1.cell rfl
  have o5 : W1.cell? ⟨w.heap.size, 5, none⟩ = some (.bool o.by) := X1.cell rfl
  have hMB : ∀ (x : BW W1), Calls Try.prog 38 #[.agg #[.int .i64 o.id, .int .i64 o.own, .int .i64 o.pr, .int .i64 o.am, .int .i64 o.pl, .bool o.by]] x.w fun e w' => e = .returned (.bool (mayB o)) ∧ Below x.w.heap.size x.w w' := fun x => (mayBe_calls o x.w).mono fun e w' h => ⟨h.1, h.2.below⟩
  have hFD := fun (x : BW W1) => findW_calls (p := p) (v := v) (base := base) o.id nx l x.w (X2.below x.h) (ownB hr2 x.h) (by omega)
  obtain ⟨va, vc, rfl⟩ := own_form hr2
  have HMB : Hid _ := hMB
  have HFD : Hid _ := hFD
  have q0 : ∀ x0 : BW W1, x0.w.cell? ⟨p, 0, none⟩ = some (.int .i64 nx) := fun x0 => x0.cell c0
  have r0 : ∀ x0 : BW W1, x0.w.cell? ⟨w.heap.size, 0, none⟩ = some (.int .i64 o.id) := fun x0 => x0.cell o0
  have r1 : ∀ x0 : BW W1, x0.w.cell? ⟨w.heap.size, 1, none⟩ = some (.int .i64 o.own) := fun x0 => x0.cell o1
  have r2 : ∀ x0 : BW W1, x0.w.cell? ⟨w.heap.size, 2, none⟩ = some (.int .i64 o.pr) := fun x0 => x0.cell o2
  have r3 : ∀ x0 : BW W1, x0.w.cell? ⟨w.heap.size, 3, none⟩ = some (.int .i64 o.am) := fun x0 => x0.cell o3
  have r4 : ∀ x0 : BW W1, x0.w.cell? ⟨w.heap.size, 4, none⟩ = some (.int .i64 o.pl) := fun x0 => x0.cell o4
  have r5 : ∀ x0 : BW W1, x0.w.cell? ⟨w.heap.size, 5, none⟩ = some (.bool o.by) := fun x0 => x0.cell o5
  have hne := bw_some W1
  have HR : Hid _ := hr2
  clear hMB hFD hX hr hr2 X1 X2
  rcases Nat.eq_zero_or_pos l.length with h0 | h0
  · have HLP : Hid (lastP l = 0) := by show _ = _; rw [List.length_eq_zero_iff.1 h0]; rfl
    have hd0 : decide (0 < (l.length : Int)) = false := decide_eq_false (by omega)
    have hd1 : ¬ 0 < (l.length : Int) := by omega
    go_enter Try.func23, Try.ntmps23
    go_wp2_with fail
    clear hd0 hd1 h0 hl c1 hW1
    cases hm : mayB o
    · have HT : Hid (tkB nx l o = false) := by show _ = _; unfold tkB; rw [hm]; rfl
      rw [hm] at HMB
      clear hm
      refine wp_region_held_drew (S := (fun wx => wx.cell? ⟨w.heap.size, 0, none⟩ = some (.int .i64 o.id) ∧ wx.cell? ⟨w.heap.size, 1, none⟩ = some (.int .i64 o.own) ∧ wx.cell? ⟨w.heap.size, 2, none⟩ = some (.int .i64 o.pr) ∧ wx.cell? ⟨w.heap.size, 3, none⟩ = some (.int .i64 o.am) ∧ wx.cell? ⟨w.heap.size, 4, none⟩ = some (.int .i64 o.pl) ∧ wx.cell? ⟨w.heap.size, 5, none⟩ = some (.bool o.by) ∧ wx.cell? ⟨p, 0, none⟩ = some (.int .i64 nx) ∧ Below W1.heap.size W1 wx)) (by kernel_rfl) ⟨o0, o1, o2, o3, o4, o5, c0, (Below.refl _ _).drew⟩ (fun hS => ?_)
      refine wpAnyH_take (i := 0) (v := (.agg #[.int .i64 o.id, .int .i64 o.own, .int .i64 o.pr, .int .i64 o.am, .int .i64 o.pl, .bool o.by])) rfl (by kernel_rfl) (by kernel_rfl) (by kernel_rfl) (fun _ _ _ h => h) (Or.inl ⟨by kernel_rfl, fun w hS => by obtain ⟨s0, s1, s2, s3, s4, s5, s6, s7⟩ := hS; go_simp⟩) hS ?_
      refine wpAnyH_ready (rs := [1]) (by kernel_rfl) (by simp) ?_
      refine AllReadyH.cons rfl (fun K hK => ?_) AllReadyH.nil
      go_simp
      refine (HMB.out ⟨_, hS.2.2.2.2.2.2.2⟩).mono ?_
      rintro e q1 ⟨rfl, bq⟩
      refine hK.out _ _ ⟨keepY bq hS.1, keepY bq hS.2.1, keepY bq hS.2.2.1, keepY bq hS.2.2.2.1, keepY bq hS.2.2.2.2.1, keepY bq hS.2.2.2.2.2.1, keepY bq hS.2.2.2.2.2.2.1, hS.2.2.2.2.2.2.2.trans (bq.mono hS.2.2.2.2.2.2.2.size)⟩ (fun hS => ?_)
      clear hK bq
      refine wpAnyH_take (i := 2) (v := (.bool false)) rfl (by kernel_rfl) (by kernel_rfl) (by kernel_rfl) (fun _ _ _ h => h) (Or.inl ⟨by kernel_rfl, fun w hS => by obtain ⟨s0, s1, s2, s3, s4, s5, s6, s7⟩ := hS; go_simp⟩) hS ?_
      refine wpAnyH_take (i := 3) (v := undef) rfl (by kernel_rfl) (by kernel_rfl) (by kernel_rfl) (fun _ _ _ h => h) (Or.inr ⟨by kernel_rfl, rfl⟩) hS ?_
      refine wpAnyH_take (i := 4) (v := undef) rfl (by kernel_rfl) (by kernel_rfl) (by kernel_rfl) (fun _ _ _ h => h) (Or.inr ⟨by kernel_rfl, rfl⟩) hS ?_
      refine wpAnyH_take (i := 5) (v := undef) rfl (by kernel_rfl) (by kernel_rfl) (by kernel_rfl) (fun _ _ _ h => h) (Or.inr ⟨by kernel_rfl, rfl⟩) hS ?_
      refine wpAnyH_take (i := 6) (v := undef) rfl (by kernel_rfl) (by kernel_rfl) (by kernel_rfl) (fun _ _ _ h => h) (Or.inr ⟨by kernel_rfl, rfl⟩) hS ?_
      refine wpAnyH_take (i := 7) (v := undef) rfl (by kernel_rfl) (by kernel_rfl) (by kernel_rfl) (fun _ _ _ h => h) (Or.inr ⟨by kernel_rfl, rfl⟩) hS ?_
      refine wpAnyH_take (i := 8) (v := (.bool false)) rfl (by kernel_rfl) (by kernel_rfl) (by kernel_rfl) (fun _ _ _ h => h) (Or.inl ⟨by kernel_rfl, fun w hS => by obtain ⟨s0, s1, s2, s3, s4, s5, s6, s7⟩ := hS; go_simp⟩) hS ?_
      refine wpAnyH_take (i := 9) (v := (.bool false)) rfl (by kernel_rfl) (by kernel_rfl) (by kernel_rfl) (fun _ _ _ h => h) (Or.inl ⟨by kernel_rfl, fun w hS => by obtain ⟨s0, s1, s2, s3, s4, s5, s6, s7⟩ := hS; go_simp⟩) hS ?_
      refine wpAnyH_take (i := 10) (v := undef) rfl (by kernel_rfl) (by kernel_rfl) (by kernel_rfl) (fun _ _ _ h => h) (Or.inr ⟨by kernel_rfl, rfl⟩) hS ?_
      refine wpAnyH_take (i := 11) (v := undef) rfl (by kernel_rfl) (by kernel_rfl) (by kernel_rfl) (fun _ _ _ h => h) (Or.inr ⟨by kernel_rfl, rfl⟩) hS ?_
      refine wpAnyH_take (i := 12) (v := undef) rfl (by kernel_rfl) (by kernel_rfl) (by kernel_rfl) (fun _ _ _ h => h) (Or.inr ⟨by kernel_rfl, rfl⟩) hS ?_
      refine wpAnyH_take (i := 13) (v := undef) rfl (by kernel_rfl) (by kernel_rfl) (by kernel_rfl) (fun _ _ _ h => h) (Or.inr ⟨by kernel_rfl, rfl⟩) hS ?_
      refine wpAnyH_take (i := 14) (v := (.bool false)) rfl (by kernel_rfl) (by kernel_rfl) (by kernel_rfl) (fun _ _ _ h => h) (Or.inl ⟨by kernel_rfl, fun w hS => by obtain ⟨s0, s1, s2, s3, s4, s5, s6, s7⟩ := hS; go_simp⟩) hS ?_
      refine wpAnyH_take (i := 15) (v := (.bool false)) rfl (by kernel_rfl) (by kernel_rfl) (by kernel_rfl) (fun _ _ _ h => h) (Or.inl ⟨by kernel_rfl, fun w hS => by obtain ⟨s0, s1, s2, s3, s4, s5, s6, s7⟩ := hS; go_simp⟩) hS ?_
      refine wpAnyH_take (i := 16) (v := undef) rfl (by kernel_rfl) (by kernel_rfl) (by kernel_rfl) (fun _ _ _ h => h) (Or.inr ⟨by kernel_rfl, rfl⟩) hS ?_
      refine wpAnyH_take (i := 17) (v := undef) rfl (by kernel_rfl) (by kernel_rfl) (by kernel_rfl) (fun _ _ _ h => h) (Or.inr ⟨by kernel_rfl, rfl⟩) hS ?_
      refine wpAnyH_take (i := 18) (v := undef) rfl (by kernel_rfl) (by kernel_rfl) (by kernel_rfl) (fun _ _ _ h => h) (Or.inr ⟨by kernel_rfl, rfl⟩) hS ?_
      refine wpAnyH_take (i := 19) (v := undef) rfl (by kernel_rfl) (by kernel_rfl) (by kernel_rfl) (fun _ _ _ h => h) (Or.inr ⟨by kernel_rfl, rfl⟩) hS ?_
      refine wpAnyH_take (i := 20) (v := undef) rfl (by kernel_rfl) (by kernel_rfl) (by kernel_rfl) (fun _ _ _ h => h) (Or.inr ⟨by kernel_rfl, rfl⟩) hS ?_
      refine wpAnyH_take (i := 21) (v := undef) rfl (by kernel_rfl) (by kernel_rfl) (by kernel_rfl) (fun _ _ _ h => h) (Or.inr ⟨by kernel_rfl, rfl⟩) hS ?_
      refine wpAnyH_take (i := 22) (v := undef) rfl (by kernel_rfl) (by kernel_rfl) (by kernel_rfl) (fun _ _ _ h => h) (Or.inr ⟨by kernel_rfl, rfl⟩) hS ?_
      refine wpAnyH_take (i := 23) (v := (.bool false)) rfl (by kernel_rfl) (by kernel_rfl) (by kernel_rfl) (fun _ _ _ h => h) (Or.inl ⟨by kernel_rfl, fun w hS => by obtain ⟨s0, s1, s2, s3, s4, s5, s6, s7⟩ := hS; go_simp⟩) hS ?_
      refine wpAnyH_ready (rs := [24]) (by kernel_rfl) (by simp) ?_
      refine AllReadyH.cons rfl (fun K hK => ?_) AllReadyH.nil
      go_simp
      refine hK.out _ _ hS (fun hS => ?_)
      clear hK
      refine wpAnyH_done (by kernel_rfl) ?_ _
      go_wp2
      go_ret
      exact ⟨by rw [HT.out]; rfl, B1.trans (hS.2.2.2.2.2.2.2.mono B1.size)⟩
    · rw [hm] at HMB
      by_cases hf : fnd l o.id < 0
      · have df : decide (fnd l o.id < 0) = true := decide_eq_true hf
        by_cases hp : (0 : Int) < o.pl
        · have dp : decide ((0 : Int) < o.pl) = true := decide_eq_true hp
          by_cases hx : o.pl < nx
          · have dx : decide (o.pl < nx) = true := decide_eq_true hx
            have HT : Hid (tkB nx l o = true) := by show _ = _; unfold tkB; rw [hm, df, HLP.out, dp, dx]; rfl
            clear hm
            refine wp_region_held_drew (S := (fun wx => wx.cell? ⟨w.heap.size, 0, none⟩ = some (.int .i64 o.id) ∧ wx.cell? ⟨w.heap.size, 1, none⟩ = some (.int .i64 o.own) ∧ wx.cell? ⟨w.heap.size, 2, none⟩ = some (.int .i64 o.pr) ∧ wx.cell? ⟨w.heap.size, 3, none⟩ = some (.int .i64 o.am) ∧ wx.cell? ⟨w.heap.size, 4, none⟩ = some (.int .i64 o.pl) ∧ wx.cell? ⟨w.heap.size, 5, none⟩ = some (.bool o.by) ∧ wx.cell? ⟨p, 0, none⟩ = some (.int .i64 nx) ∧ Below W1.heap.size W1 wx)) (by kernel_rfl) ⟨o0, o1, o2, o3, o4, o5, c0, (Below.refl _ _).drew⟩ (fun hS => ?_)
            refine wpAnyH_take (i := 0) (v := (.agg #[.int .i64 o.id, .int .i64 o.own, .int .i64 o.pr, .int .i64 o.am, .int .i64 o.pl, .bool o.by])) rfl (by kernel_rfl) (by kernel_rfl) (by kernel_rfl) (fun _ _ _ h => h) (Or.inl ⟨by kernel_rfl, fun w hS => by obtain ⟨s0, s1, s2, s3, s4, s5, s6, s7⟩ := hS; go_simp⟩) hS ?_
            refine wpAnyH_ready (rs := [1]) (by kernel_rfl) (by simp) ?_
            refine AllReadyH.cons rfl (fun K hK => ?_) AllReadyH.nil
            go_simp
            refine (HMB.out ⟨_, hS.2.2.2.2.2.2.2⟩).mono ?_
            rintro e q1 ⟨rfl, bq⟩
            refine hK.out _ _ ⟨keepY bq hS.1, keepY bq hS.2.1, keepY bq hS.2.2.1, keepY bq hS.2.2.2.1, keepY bq hS.2.2.2.2.1, keepY bq hS.2.2.2.2.2.1, keepY bq hS.2.2.2.2.2.2.1, hS.2.2.2.2.2.2.2.trans (bq.mono hS.2.2.2.2.2.2.2.size)⟩ (fun hS => ?_)
            clear hK bq
            refine wpAnyH_take (i := 2) (v := (.bool true)) rfl (by kernel_rfl) (by kernel_rfl) (by kernel_rfl) (fun _ _ _ h => h) (Or.inl ⟨by kernel_rfl, fun w hS => by obtain ⟨s0, s1, s2, s3, s4, s5, s6, s7⟩ := hS; go_simp⟩) hS ?_
            refine wpAnyH_take (i := 3) (v := (.pointer (some ⟨p, 0, none⟩))) rfl (by kernel_rfl) (by kernel_rfl) (by kernel_rfl) (fun _ _ _ h => h) (Or.inl ⟨by kernel_rfl, fun w hS => by obtain ⟨s0, s1, s2, s3, s4, s5, s6, s7⟩ := hS; go_simp⟩) hS ?_
            refine wpAnyH_take (i := 4) (v := (.pointer (some ⟨w.heap.size, 0, none⟩))) rfl (by kernel_rfl) (by kernel_rfl) (by kernel_rfl) (fun _ _ _ h => h) (Or.inl ⟨by kernel_rfl, fun w hS => by obtain ⟨s0, s1, s2, s3, s4, s5, s6, s7⟩ := hS; go_simp⟩) hS ?_
            refine wpAnyH_take (i := 5) (v := (.int .i64 o.id)) rfl (by kernel_rfl) (by kernel_rfl) (by kernel_rfl) (fun _ _ _ h => h) (Or.inl ⟨by kernel_rfl, fun w hS => by obtain ⟨s0, s1, s2, s3, s4, s5, s6, s7⟩ := hS; go_simp⟩) hS ?_
            refine wpAnyH_ready (rs := [6]) (by kernel_rfl) (by simp) ?_
            refine readyH_callK (i := 6) rfl (by kernel_rfl) (fun K hK => ?_)
            go_simp
            refine (HFD.out ⟨_, hS.2.2.2.2.2.2.2⟩).mono ?_
            rintro e q2 ⟨rfl, bq⟩
            refine hK.out _ _ ⟨keepY bq hS.1, keepY bq hS.2.1, keepY bq hS.2.2.1, keepY bq hS.2.2.2.1, keepY bq hS.2.2.2.2.1, keepY bq hS.2.2.2.2.2.1, keepY bq hS.2.2.2.2.2.2.1, hS.2.2.2.2.2.2.2.trans (bq.mono hS.2.2.2.2.2.2.2.size)⟩ (fun hS => ?_)
            clear hK bq
            refine wpAnyH_take (i := 7) (v := (.bool true)) rfl (by kernel_rfl) (by kernel_rfl) (by kernel_rfl) (fun _ _ _ h => h) (Or.inl ⟨by kernel_rfl, fun w hS => by obtain ⟨s0, s1, s2, s3, s4, s5, s6, s7⟩ := hS; go_simp⟩) hS ?_
            refine wpAnyH_take (i := 8) (v := (.bool true)) rfl (by kernel_rfl) (by kernel_rfl) (by kernel_rfl) (fun _ _ _ h => h) (Or.inl ⟨by kernel_rfl, fun w hS => by obtain ⟨s0, s1, s2, s3, s4, s5, s6, s7⟩ := hS; go_simp⟩) hS ?_
            refine wpAnyH_take (i := 9) (v := (.bool true)) rfl (by kernel_rfl) (by kernel_rfl) (by kernel_rfl) (fun _ _ _ h => h) (Or.inl ⟨by kernel_rfl, fun w hS => by obtain ⟨s0, s1, s2, s3, s4, s5, s6, s7⟩ := hS; go_simp⟩) hS ?_
            refine wpAnyH_take (i := 10) (v := (.int .i64 (0 : Int))) rfl (by kernel_rfl) (by kernel_rfl) (by kernel_rfl) (fun _ _ _ h => h) (Or.inl ⟨by kernel_rfl, fun w hS => by obtain ⟨s0, s1, s2, s3, s4, s5, s6, s7⟩ := hS; go_simp⟩) hS ?_
            refine wpAnyH_take (i := 11) (v := (.pointer (some ⟨w.heap.size, 4, none⟩))) rfl (by kernel_rfl) (by kernel_rfl) (by kernel_rfl) (fun _ _ _ h => h) (Or.inl ⟨by kernel_rfl, fun w hS => by obtain ⟨s0, s1, s2, s3, s4, s5, s6, s7⟩ := hS; go_simp⟩) hS ?_
            refine wpAnyH_take (i := 12) (v := (.int .i64 o.pl)) rfl (by kernel_rfl) (by kernel_rfl) (by kernel_rfl) (fun _ _ _ h => h) (Or.inl ⟨by kernel_rfl, fun w hS => by obtain ⟨s0, s1, s2, s3, s4, s5, s6, s7⟩ := hS; go_simp⟩) hS ?_
            refine wpAnyH_take (i := 13) (v := (.bool true)) rfl (by kernel_rfl) (by kernel_rfl) (by kernel_rfl) (fun _ _ _ h => h) (Or.inl ⟨by kernel_rfl, fun w hS => by obtain ⟨s0, s1, s2, s3, s4, s5, s6, s7⟩ := hS; go_simp⟩) hS ?_
            refine wpAnyH_take (i := 14) (v := (.bool true)) rfl (by kernel_rfl) (by kernel_rfl) (by kernel_rfl) (fun _ _ _ h => h) (Or.inl ⟨by kernel_rfl, fun w hS => by obtain ⟨s0, s1, s2, s3, s4, s5, s6, s7⟩ := hS; go_simp⟩) hS ?_
            refine wpAnyH_take (i := 15) (v := (.bool true)) rfl (by kernel_rfl) (by kernel_rfl) (by kernel_rfl) (fun _ _ _ h => h) (Or.inl ⟨by kernel_rfl, fun w hS => by obtain ⟨s0, s1, s2, s3, s4, s5, s6, s7⟩ := hS; go_simp⟩) hS ?_
            refine wpAnyH_take (i := 16) (v := (.pointer (some ⟨w.heap.size, 4, none⟩))) rfl (by kernel_rfl) (by kernel_rfl) (by kernel_rfl) (fun _ _ _ h => h) (Or.inl ⟨by kernel_rfl, fun w hS => by obtain ⟨s0, s1, s2, s3, s4, s5, s6, s7⟩ := hS; go_simp⟩) hS ?_
            refine wpAnyH_take (i := 17) (v := (.int .i64 o.pl)) rfl (by kernel_rfl) (by kernel_rfl) (by kernel_rfl) (fun _ _ _ h => h) (Or.inl ⟨by kernel_rfl, fun w hS => by obtain ⟨s0, s1, s2, s3, s4, s5, s6, s7⟩ := hS; go_simp⟩) hS ?_
            refine wpAnyH_take (i := 18) (v := (.pointer (some ⟨p, 0, none⟩))) rfl (by kernel_rfl) (by kernel_rfl) (by kernel_rfl) (fun _ _ _ h => h) (Or.inl ⟨by kernel_rfl, fun w hS => by obtain ⟨s0, s1, s2, s3, s4, s5, s6, s7⟩ := hS; go_simp⟩) hS ?_
            refine wpAnyH_take (i := 19) (v := (.pointer (some ⟨p, 0, none⟩))) rfl (by kernel_rfl) (by kernel_rfl) (by kernel_rfl) (fun _ _ _ h => h) (Or.inl ⟨by kernel_rfl, fun w hS => by obtain ⟨s0, s1, s2, s3, s4, s5, s6, s7⟩ := hS; go_simp⟩) hS ?_
            refine wpAnyH_take (i := 20) (v := (.pointer (some ⟨p, 0, none⟩))) rfl (by kernel_rfl) (by kernel_rfl) (by kernel_rfl) (fun _ _ _ h => h) (Or.inl ⟨by kernel_rfl, fun w hS => by obtain ⟨s0, s1, s2, s3, s4, s5, s6, s7⟩ := hS; go_simp⟩) hS ?_
            refine wpAnyH_take (i := 21) (v := (.int .i64 nx)) rfl (by kernel_rfl) (by kernel_rfl) (by kernel_rfl) (fun _ _ _ h => h) (Or.inl ⟨by kernel_rfl, fun w hS => by obtain ⟨s0, s1, s2, s3, s4, s5, s6, s7⟩ := hS; go_simp⟩) hS ?_
            refine wpAnyH_take (i := 22) (v := (.bool true)) rfl (by kernel_rfl) (by kernel_rfl) (by kernel_rfl) (fun _ _ _ h => h) (Or.inl ⟨by kernel_rfl, fun w hS => by obtain ⟨s0, s1, s2, s3, s4, s5, s6, s7⟩ := hS; go_simp⟩) hS ?_
            refine wpAnyH_take (i := 23) (v := (.bool true)) rfl (by kernel_rfl) (by kernel_rfl) (by kernel_rfl) (fun _ _ _ h => h) (Or.inl ⟨by kernel_rfl, fun w hS => by obtain ⟨s0, s1, s2, s3, s4, s5, s6, s7⟩ := hS; go_simp⟩) hS ?_
            refine wpAnyH_ready (rs := [24]) (by kernel_rfl) (by simp) ?_
            refine AllReadyH.cons rfl (fun K hK => ?_) AllReadyH.nil
            go_simp
            refine hK.out _ _ hS (fun hS => ?_)
            clear hK
            refine wpAnyH_done (by kernel_rfl) ?_ _
            go_wp2
            go_ret
            exact ⟨by rw [HT.out]; rfl, B1.trans (hS.2.2.2.2.2.2.2.mono B1.size)⟩
          · have dx : decide (o.pl < nx) = false := decide_eq_false hx
            have HT : Hid (tkB nx l o = false) := by show _ = _; unfold tkB; rw [hm, df, HLP.out, dp, dx]; rfl
            clear hm
            refine wp_region_held_drew (S := (fun wx => wx.cell? ⟨w.heap.size, 0, none⟩ = some (.int .i64 o.id) ∧ wx.cell? ⟨w.heap.size, 1, none⟩ = some (.int .i64 o.own) ∧ wx.cell? ⟨w.heap.size, 2, none⟩ = some (.int .i64 o.pr) ∧ wx.cell? ⟨w.heap.size, 3, none⟩ = some (.int .i64 o.am) ∧ wx.cell? ⟨w.heap.size, 4, none⟩ = some (.int .i64 o.pl) ∧ wx.cell? ⟨w.heap.size, 5, none⟩ = some (.bool o.by) ∧ wx.cell? ⟨p, 0, none⟩ = some (.int .i64 nx) ∧ Below W1.heap.size W1 wx)) (by kernel_rfl) ⟨o0, o1, o2, o3, o4, o5, c0, (Below.refl _ _).drew⟩ (fun hS => ?_)
            refine wpAnyH_take (i := 0) (v := (.agg #[.int .i64 o.id, .int .i64 o.own, .int .i64 o.pr, .int .i64 o.am, .int .i64 o.pl, .bool o.by])) rfl (by kernel_rfl) (by kernel_rfl) (by kernel_rfl) (fun _ _ _ h => h) (Or.inl ⟨by kernel_rfl, fun w hS => by obtain ⟨s0, s1, s2, s3, s4, s5, s6, s7⟩ := hS; go_simp⟩) hS ?_
            refine wpAnyH_ready (rs := [1]) (by kernel_rfl) (by simp) ?_
            refine AllReadyH.cons rfl (fun K hK => ?_) AllReadyH.nil
            go_simp
            refine (HMB.out ⟨_, hS.2.2.2.2.2.2.2⟩).mono ?_
            rintro e q1 ⟨rfl, bq⟩
            refine hK.out _ _ ⟨keepY bq hS.1, keepY bq hS.2.1, keepY bq hS.2.2.1, keepY bq hS.2.2.2.1, keepY bq hS.2.2.2.2.1, keepY bq hS.2.2.2.2.2.1, keepY bq hS.2.2.2.2.2.2.1, hS.2.2.2.2.2.2.2.trans (bq.mono hS.2.2.2.2.2.2.2.size)⟩ (fun hS => ?_)
            clear hK bq
            refine wpAnyH_take (i := 2) (v := (.bool true)) rfl (by kernel_rfl) (by kernel_rfl) (by kernel_rfl) (fun _ _ _ h => h) (Or.inl ⟨by kernel_rfl, fun w hS => by obtain ⟨s0, s1, s2, s3, s4, s5, s6, s7⟩ := hS; go_simp⟩) hS ?_
            refine wpAnyH_take (i := 3) (v := (.pointer (some ⟨p, 0, none⟩))) rfl (by kernel_rfl) (by kernel_rfl) (by kernel_rfl) (fun _ _ _ h => h) (Or.inl ⟨by kernel_rfl, fun w hS => by obtain ⟨s0, s1, s2, s3, s4, s5, s6, s7⟩ := hS; go_simp⟩) hS ?_
            refine wpAnyH_take (i := 4) (v := (.pointer (some ⟨w.heap.size, 0, none⟩))) rfl (by kernel_rfl) (by kernel_rfl) (by kernel_rfl) (fun _ _ _ h => h) (Or.inl ⟨by kernel_rfl, fun w hS => by obtain ⟨s0, s1, s2, s3, s4, s5, s6, s7⟩ := hS; go_simp⟩) hS ?_
            refine wpAnyH_take (i := 5) (v := (.int .i64 o.id)) rfl (by kernel_rfl) (by kernel_rfl) (by kernel_rfl) (fun _ _ _ h => h) (Or.inl ⟨by kernel_rfl, fun w hS => by obtain ⟨s0, s1, s2, s3, s4, s5, s6, s7⟩ := hS; go_simp⟩) hS ?_
            refine wpAnyH_ready (rs := [6]) (by kernel_rfl) (by simp) ?_
            refine readyH_callK (i := 6) rfl (by kernel_rfl) (fun K hK => ?_)
            go_simp
            refine (HFD.out ⟨_, hS.2.2.2.2.2.2.2⟩).mono ?_
            rintro e q2 ⟨rfl, bq⟩
            refine hK.out _ _ ⟨keepY bq hS.1, keepY bq hS.2.1, keepY bq hS.2.2.1, keepY bq hS.2.2.2.1, keepY bq hS.2.2.2.2.1, keepY bq hS.2.2.2.2.2.1, keepY bq hS.2.2.2.2.2.2.1, hS.2.2.2.2.2.2.2.trans (bq.mono hS.2.2.2.2.2.2.2.size)⟩ (fun hS => ?_)
            clear hK bq
            refine wpAnyH_take (i := 7) (v := (.bool true)) rfl (by kernel_rfl) (by kernel_rfl) (by kernel_rfl) (fun _ _ _ h => h) (Or.inl ⟨by kernel_rfl, fun w hS => by obtain ⟨s0, s1, s2, s3, s4, s5, s6, s7⟩ := hS; go_simp⟩) hS ?_
            refine wpAnyH_take (i := 8) (v := (.bool true)) rfl (by kernel_rfl) (by kernel_rfl) (by kernel_rfl) (fun _ _ _ h => h) (Or.inl ⟨by kernel_rfl, fun w hS => by obtain ⟨s0, s1, s2, s3, s4, s5, s6, s7⟩ := hS; go_simp⟩) hS ?_
            refine wpAnyH_take (i := 9) (v := (.bool true)) rfl (by kernel_rfl) (by kernel_rfl) (by kernel_rfl) (fun _ _ _ h => h) (Or.inl ⟨by kernel_rfl, fun w hS => by obtain ⟨s0, s1, s2, s3, s4, s5, s6, s7⟩ := hS; go_simp⟩) hS ?_
            refine wpAnyH_take (i := 10) (v := (.int .i64 (0 : Int))) rfl (by kernel_rfl) (by kernel_rfl) (by kernel_rfl) (fun _ _ _ h => h) (Or.inl ⟨by kernel_rfl, fun w hS => by obtain ⟨s0, s1, s2, s3, s4, s5, s6, s7⟩ := hS; go_simp⟩) hS ?_
            refine wpAnyH_take (i := 11) (v := (.pointer (some ⟨w.heap.size, 4, none⟩))) rfl (by kernel_rfl) (by kernel_rfl) (by kernel_rfl) (fun _ _ _ h => h) (Or.inl ⟨by kernel_rfl, fun w hS => by obtain ⟨s0, s1, s2, s3, s4, s5, s6, s7⟩ := hS; go_simp⟩) hS ?_
            refine wpAnyH_take (i := 12) (v := (.int .i64 o.pl)) rfl (by kernel_rfl) (by kernel_rfl) (by kernel_rfl) (fun _ _ _ h => h) (Or.inl ⟨by kernel_rfl, fun w hS => by obtain ⟨s0, s1, s2, s3, s4, s5, s6, s7⟩ := hS; go_simp⟩) hS ?_
            refine wpAnyH_take (i := 13) (v := (.bool true)) rfl (by kernel_rfl) (by kernel_rfl) (by kernel_rfl) (fun _ _ _ h => h) (Or.inl ⟨by kernel_rfl, fun w hS => by obtain ⟨s0, s1, s2, s3, s4, s5, s6, s7⟩ := hS; go_simp⟩) hS ?_
            refine wpAnyH_take (i := 14) (v := (.bool true)) rfl (by kernel_rfl) (by kernel_rfl) (by kernel_rfl) (fun _ _ _ h => h) (Or.inl ⟨by kernel_rfl, fun w hS => by obtain ⟨s0, s1, s2, s3, s4, s5, s6, s7⟩ := hS; go_simp⟩) hS ?_
            refine wpAnyH_take (i := 15) (v := (.bool true)) rfl (by kernel_rfl) (by kernel_rfl) (by kernel_rfl) (fun _ _ _ h => h) (Or.inl ⟨by kernel_rfl, fun w hS => by obtain ⟨s0, s1, s2, s3, s4, s5, s6, s7⟩ := hS; go_simp⟩) hS ?_
            refine wpAnyH_take (i := 16) (v := (.pointer (some ⟨w.heap.size, 4, none⟩))) rfl (by kernel_rfl) (by kernel_rfl) (by kernel_rfl) (fun _ _ _ h => h) (Or.inl ⟨by kernel_rfl, fun w hS => by obtain ⟨s0, s1, s2, s3, s4, s5, s6, s7⟩ := hS; go_simp⟩) hS ?_
            refine wpAnyH_take (i := 17) (v := (.int .i64 o.pl)) rfl (by kernel_rfl) (by kernel_rfl) (by kernel_rfl) (fun _ _ _ h => h) (Or.inl ⟨by kernel_rfl, fun w hS => by obtain ⟨s0, s1, s2, s3, s4, s5, s6, s7⟩ := hS; go_simp⟩) hS ?_
            refine wpAnyH_take (i := 18) (v := (.pointer (some ⟨p, 0, none⟩))) rfl (by kernel_rfl) (by kernel_rfl) (by kernel_rfl) (fun _ _ _ h => h) (Or.inl ⟨by kernel_rfl, fun w hS => by obtain ⟨s0, s1, s2, s3, s4, s5, s6, s7⟩ := hS; go_simp⟩) hS ?_
            refine wpAnyH_take (i := 19) (v := (.pointer (some ⟨p, 0, none⟩))) rfl (by kernel_rfl) (by kernel_rfl) (by kernel_rfl) (fun _ _ _ h => h) (Or.inl ⟨by kernel_rfl, fun w hS => by obtain ⟨s0, s1, s2, s3, s4, s5, s6, s7⟩ := hS; go_simp⟩) hS ?_
            refine wpAnyH_take (i := 20) (v := (.pointer (some ⟨p, 0, none⟩))) rfl (by kernel_rfl) (by kernel_rfl) (by kernel_rfl) (fun _ _ _ h => h) (Or.inl ⟨by kernel_rfl, fun w hS => by obtain ⟨s0, s1, s2, s3, s4, s5, s6, s7⟩ := hS; go_simp⟩) hS ?_
            refine wpAnyH_take (i := 21) (v := (.int .i64 nx)) rfl (by kernel_rfl) (by kernel_rfl) (by kernel_rfl) (fun _ _ _ h => h) (Or.inl ⟨by kernel_rfl, fun w hS => by obtain ⟨s0, s1, s2, s3, s4, s5, s6, s7⟩ := hS; go_simp⟩) hS ?_
            refine wpAnyH_take (i := 22) (v := (.bool false)) rfl (by kernel_rfl) (by kernel_rfl) (by kernel_rfl) (fun _ _ _ h => h) (Or.inl ⟨by kernel_rfl, fun w hS => by obtain ⟨s0, s1, s2, s3, s4, s5, s6, s7⟩ := hS; go_simp⟩) hS ?_
            refine wpAnyH_take (i := 23) (v := (.bool false)) rfl (by kernel_rfl) (by kernel_rfl) (by kernel_rfl) (fun _ _ _ h => h) (Or.inl ⟨by kernel_rfl, fun w hS => by obtain ⟨s0, s1, s2, s3, s4, s5, s6, s7⟩ := hS; go_simp⟩) hS ?_
            refine wpAnyH_ready (rs := [24]) (by kernel_rfl) (by simp) ?_
            refine AllReadyH.cons rfl (fun K hK => ?_) AllReadyH.nil
            go_simp
            refine hK.out _ _ hS (fun hS => ?_)
            clear hK
            refine wpAnyH_done (by kernel_rfl) ?_ _
            go_wp2
            go_ret
            exact ⟨by rw [HT.out]; rfl, B1.trans (hS.2.2.2.2.2.2.2.mono B1.size)⟩
        · have dp : decide ((0 : Int) < o.pl) = false := decide_eq_false hp
          have HT : Hid (tkB nx l o = false) := by show _ = _; unfold tkB; rw [hm, df, HLP.out, dp]; rfl
          clear hm
          refine wp_region_held_drew (S := (fun wx => wx.cell? ⟨w.heap.size, 0, none⟩ = some (.int .i64 o.id) ∧ wx.cell? ⟨w.heap.size, 1, none⟩ = some (.int .i64 o.own) ∧ wx.cell? ⟨w.heap.size, 2, none⟩ = some (.int .i64 o.pr) ∧ wx.cell? ⟨w.heap.size, 3, none⟩ = some (.int .i64 o.am) ∧ wx.cell? ⟨w.heap.size, 4, none⟩ = some (.int .i64 o.pl) ∧ wx.cell? ⟨w.heap.size, 5, none⟩ = some (.bool o.by) ∧ wx.cell? ⟨p, 0, none⟩ = some (.int .i64 nx) ∧ Below W1.heap.size W1 wx)) (by kernel_rfl) ⟨o0, o1, o2, o3, o4, o5, c0, (Below.refl _ _).drew⟩ (fun hS => ?_)
          refine wpAnyH_take (i := 0) (v := (.agg #[.int .i64 o.id, .int .i64 o.own, .int .i64 o.pr, .int .i64 o.am, .int .i64 o.pl, .bool o.by])) rfl (by kernel_rfl) (by kernel_rfl) (by kernel_rfl) (fun _ _ _ h => h) (Or.inl ⟨by kernel_rfl, fun w hS => by obtain ⟨s0, s1, s2, s3, s4, s5, s6, s7⟩ := hS; go_simp⟩) hS ?_
          refine wpAnyH_ready (rs := [1]) (by kernel_rfl) (by simp) ?_
          refine AllReadyH.cons rfl (fun K hK => ?_) AllReadyH.nil
          go_simp
          refine (HMB.out ⟨_, hS.2.2.2.2.2.2.2⟩).mono ?_
          rintro e q1 ⟨rfl, bq⟩
          refine hK.out _ _ ⟨keepY bq hS.1, keepY bq hS.2.1, keepY bq hS.2.2.1, keepY bq hS.2.2.2.1, keepY bq hS.2.2.2.2.1, keepY bq hS.2.2.2.2.2.1, keepY bq hS.2.2.2.2.2.2.1, hS.2.2.2.2.2.2.2.trans (bq.mono hS.2.2.2.2.2.2.2.size)⟩ (fun hS => ?_)
          clear hK bq
          refine wpAnyH_take (i := 2) (v := (.bool true)) rfl (by kernel_rfl) (by kernel_rfl) (by kernel_rfl) (fun _ _ _ h => h) (Or.inl ⟨by kernel_rfl, fun w hS => by obtain ⟨s0, s1, s2, s3, s4, s5, s6, s7⟩ := hS; go_simp⟩) hS ?_
          refine wpAnyH_take (i := 3) (v := (.pointer (some ⟨p, 0, none⟩))) rfl (by kernel_rfl) (by kernel_rfl) (by kernel_rfl) (fun _ _ _ h => h) (Or.inl ⟨by kernel_rfl, fun w hS => by obtain ⟨s0, s1, s2, s3, s4, s5, s6, s7⟩ := hS; go_simp⟩) hS ?_
          refine wpAnyH_take (i := 4) (v := (.pointer (some ⟨w.heap.size, 0, none⟩))) rfl (by kernel_rfl) (by kernel_rfl) (by kernel_rfl) (fun _ _ _ h => h) (Or.inl ⟨by kernel_rfl, fun w hS => by obtain ⟨s0, s1, s2, s3, s4, s5, s6, s7⟩ := hS; go_simp⟩) hS ?_
          refine wpAnyH_take (i := 5) (v := (.int .i64 o.id)) rfl (by kernel_rfl) (by kernel_rfl) (by kernel_rfl) (fun _ _ _ h => h) (Or.inl ⟨by kernel_rfl, fun w hS => by obtain ⟨s0, s1, s2, s3, s4, s5, s6, s7⟩ := hS; go_simp⟩) hS ?_
          refine wpAnyH_ready (rs := [6]) (by kernel_rfl) (by simp) ?_
          refine readyH_callK (i := 6) rfl (by kernel_rfl) (fun K hK => ?_)
          go_simp
          refine (HFD.out ⟨_, hS.2.2.2.2.2.2.2⟩).mono ?_
          rintro e q2 ⟨rfl, bq⟩
          refine hK.out _ _ ⟨keepY bq hS.1, keepY bq hS.2.1, keepY bq hS.2.2.1, keepY bq hS.2.2.2.1, keepY bq hS.2.2.2.2.1, keepY bq hS.2.2.2.2.2.1, keepY bq hS.2.2.2.2.2.2.1, hS.2.2.2.2.2.2.2.trans (bq.mono hS.2.2.2.2.2.2.2.size)⟩ (fun hS => ?_)
          clear hK bq
          refine wpAnyH_take (i := 7) (v := (.bool true)) rfl (by kernel_rfl) (by kernel_rfl) (by kernel_rfl) (fun _ _ _ h => h) (Or.inl ⟨by kernel_rfl, fun w hS => by obtain ⟨s0, s1, s2, s3, s4, s5, s6, s7⟩ := hS; go_simp⟩) hS ?_
          refine wpAnyH_take (i := 8) (v := (.bool true)) rfl (by kernel_rfl) (by kernel_rfl) (by kernel_rfl) (fun _ _ _ h => h) (Or.inl ⟨by kernel_rfl, fun w hS => by obtain ⟨s0, s1, s2, s3, s4, s5, s6, s7⟩ := hS; go_simp⟩) hS ?_
          refine wpAnyH_take (i := 9) (v := (.bool true)) rfl (by kernel_rfl) (by kernel_rfl) (by kernel_rfl) (fun _ _ _ h => h) (Or.inl ⟨by kernel_rfl, fun w hS => by obtain ⟨s0, s1, s2, s3, s4, s5, s6, s7⟩ := hS; go_simp⟩) hS ?_
          refine wpAnyH_take (i := 10) (v := (.int .i64 (0 : Int))) rfl (by kernel_rfl) (by kernel_rfl) (by kernel_rfl) (fun _ _ _ h => h) (Or.inl ⟨by kernel_rfl, fun w hS => by obtain ⟨s0, s1, s2, s3, s4, s5, s6, s7⟩ := hS; go_simp⟩) hS ?_
          refine wpAnyH_take (i := 11) (v := (.pointer (some ⟨w.heap.size, 4, none⟩))) rfl (by kernel_rfl) (by kernel_rfl) (by kernel_rfl) (fun _ _ _ h => h) (Or.inl ⟨by kernel_rfl, fun w hS => by obtain ⟨s0, s1, s2, s3, s4, s5, s6, s7⟩ := hS; go_simp⟩) hS ?_
          refine wpAnyH_take (i := 12) (v := (.int .i64 o.pl)) rfl (by kernel_rfl) (by kernel_rfl) (by kernel_rfl) (fun _ _ _ h => h) (Or.inl ⟨by kernel_rfl, fun w hS => by obtain ⟨s0, s1, s2, s3, s4, s5, s6, s7⟩ := hS; go_simp⟩) hS ?_
          refine wpAnyH_take (i := 13) (v := (.bool false)) rfl (by kernel_rfl) (by kernel_rfl) (by kernel_rfl) (fun _ _ _ h => h) (Or.inl ⟨by kernel_rfl, fun w hS => by obtain ⟨s0, s1, s2, s3, s4, s5, s6, s7⟩ := hS; go_simp⟩) hS ?_
          refine wpAnyH_take (i := 14) (v := (.bool false)) rfl (by kernel_rfl) (by kernel_rfl) (by kernel_rfl) (fun _ _ _ h => h) (Or.inl ⟨by kernel_rfl, fun w hS => by obtain ⟨s0, s1, s2, s3, s4, s5, s6, s7⟩ := hS; go_simp⟩) hS ?_
          refine wpAnyH_take (i := 15) (v := (.bool false)) rfl (by kernel_rfl) (by kernel_rfl) (by kernel_rfl) (fun _ _ _ h => h) (Or.inl ⟨by kernel_rfl, fun w hS => by obtain ⟨s0, s1, s2, s3, s4, s5, s6, s7⟩ := hS; go_simp⟩) hS ?_
          refine wpAnyH_take (i := 16) (v := undef) rfl (by kernel_rfl) (by kernel_rfl) (by kernel_rfl) (fun _ _ _ h => h) (Or.inr ⟨by kernel_rfl, rfl⟩) hS ?_
          refine wpAnyH_take (i := 17) (v := undef) rfl (by kernel_rfl) (by kernel_rfl) (by kernel_rfl) (fun _ _ _ h => h) (Or.inr ⟨by kernel_rfl, rfl⟩) hS ?_
          refine wpAnyH_take (i := 18) (v := undef) rfl (by kernel_rfl) (by kernel_rfl) (by kernel_rfl) (fun _ _ _ h => h) (Or.inr ⟨by kernel_rfl, rfl⟩) hS ?_
          refine wpAnyH_take (i := 19) (v := undef) rfl (by kernel_rfl) (by kernel_rfl) (by kernel_rfl) (fun _ _ _ h => h) (Or.inr ⟨by kernel_rfl, rfl⟩) hS ?_
          refine wpAnyH_take (i := 20) (v := undef) rfl (by kernel_rfl) (by kernel_rfl) (by kernel_rfl) (fun _ _ _ h => h) (Or.inr ⟨by kernel_rfl, rfl⟩) hS ?_
          refine wpAnyH_take (i := 21) (v := undef) rfl (by kernel_rfl) (by kernel_rfl) (by kernel_rfl) (fun _ _ _ h => h) (Or.inr ⟨by kernel_rfl, rfl⟩) hS ?_
          refine wpAnyH_take (i := 22) (v := undef) rfl (by kernel_rfl) (by kernel_rfl) (by kernel_rfl) (fun _ _ _ h => h) (Or.inr ⟨by kernel_rfl, rfl⟩) hS ?_
          refine wpAnyH_take (i := 23) (v := (.bool false)) rfl (by kernel_rfl) (by kernel_rfl) (by kernel_rfl) (fun _ _ _ h => h) (Or.inl ⟨by kernel_rfl, fun w hS => by obtain ⟨s0, s1, s2, s3, s4, s5, s6, s7⟩ := hS; go_simp⟩) hS ?_
          refine wpAnyH_ready (rs := [24]) (by kernel_rfl) (by simp) ?_
          refine AllReadyH.cons rfl (fun K hK => ?_) AllReadyH.nil
          go_simp
          refine hK.out _ _ hS (fun hS => ?_)
          clear hK
          refine wpAnyH_done (by kernel_rfl) ?_ _
          go_wp2
          go_ret
          exact ⟨by rw [HT.out]; rfl, B1.trans (hS.2.2.2.2.2.2.2.mono B1.size)⟩
      · have df : decide (fnd l o.id < 0) = false := decide_eq_false hf
        have HT : Hid (tkB nx l o = false) := by show _ = _; unfold tkB; rw [hm, df]; rfl
        clear hm
        refine wp_region_held_drew (S := (fun wx => wx.cell? ⟨w.heap.size, 0, none⟩ = some (.int .i64 o.id) ∧ wx.cell? ⟨w.heap.size, 1, none⟩ = some (.int .i64 o.own) ∧ wx.cell? ⟨w.heap.size, 2, none⟩ = some (.int .i64 o.pr) ∧ wx.cell? ⟨w.heap.size, 3, none⟩ = some (.int .i64 o.am) ∧ wx.cell? ⟨w.heap.size, 4, none⟩ = some (.int .i64 o.pl) ∧ wx.cell? ⟨w.heap.size, 5, none⟩ = some (.bool o.by) ∧ wx.cell? ⟨p, 0, none⟩ = some (.int .i64 nx) ∧ Below W1.heap.size W1 wx)) (by kernel_rfl) ⟨o0, o1, o2, o3, o4, o5, c0, (Below.refl _ _).drew⟩ (fun hS => ?_)
        refine wpAnyH_take (i := 0) (v := (.agg #[.int .i64 o.id, .int .i64 o.own, .int .i64 o.pr, .int .i64 o.am, .int .i64 o.pl, .bool o.by])) rfl (by kernel_rfl) (by kernel_rfl) (by kernel_rfl) (fun _ _ _ h => h) (Or.inl ⟨by kernel_rfl, fun w hS => by obtain ⟨s0, s1, s2, s3, s4, s5, s6, s7⟩ := hS; go_simp⟩) hS ?_
        refine wpAnyH_ready (rs := [1]) (by kernel_rfl) (by simp) ?_
        refine AllReadyH.cons rfl (fun K hK => ?_) AllReadyH.nil
        go_simp
        refine (HMB.out ⟨_, hS.2.2.2.2.2.2.2⟩).mono ?_
        rintro e q1 ⟨rfl, bq⟩
        refine hK.out _ _ ⟨keepY bq hS.1, keepY bq hS.2.1, keepY bq hS.2.2.1, keepY bq hS.2.2.2.1, keepY bq hS.2.2.2.2.1, keepY bq hS.2.2.2.2.2.1, keepY bq hS.2.2.2.2.2.2.1, hS.2.2.2.2.2.2.2.trans (bq.mono hS.2.2.2.2.2.2.2.size)⟩ (fun hS => ?_)
        clear hK bq
        refine wpAnyH_take (i := 2) (v := (.bool true)) rfl (by kernel_rfl) (by kernel_rfl) (by kernel_rfl) (fun _ _ _ h => h) (Or.inl ⟨by kernel_rfl, fun w hS => by obtain ⟨s0, s1, s2, s3, s4, s5, s6, s7⟩ := hS; go_simp⟩) hS ?_
        refine wpAnyH_take (i := 3) (v := (.pointer (some ⟨p, 0, none⟩))) rfl (by kernel_rfl) (by kernel_rfl) (by kernel_rfl) (fun _ _ _ h => h) (Or.inl ⟨by kernel_rfl, fun w hS => by obtain ⟨s0, s1, s2, s3, s4, s5, s6, s7⟩ := hS; go_simp⟩) hS ?_
        refine wpAnyH_take (i := 4) (v := (.pointer (some ⟨w.heap.size, 0, none⟩))) rfl (by kernel_rfl) (by kernel_rfl) (by kernel_rfl) (fun _ _ _ h => h) (Or.inl ⟨by kernel_rfl, fun w hS => by obtain ⟨s0, s1, s2, s3, s4, s5, s6, s7⟩ := hS; go_simp⟩) hS ?_
        refine wpAnyH_take (i := 5) (v := (.int .i64 o.id)) rfl (by kernel_rfl) (by kernel_rfl) (by kernel_rfl) (fun _ _ _ h => h) (Or.inl ⟨by kernel_rfl, fun w hS => by obtain ⟨s0, s1, s2, s3, s4, s5, s6, s7⟩ := hS; go_simp⟩) hS ?_
        refine wpAnyH_ready (rs := [6]) (by kernel_rfl) (by simp) ?_
        refine readyH_callK (i := 6) rfl (by kernel_rfl) (fun K hK => ?_)
        go_simp
        refine (HFD.out ⟨_, hS.2.2.2.2.2.2.2⟩).mono ?_
        rintro e q2 ⟨rfl, bq⟩
        refine hK.out _ _ ⟨keepY bq hS.1, keepY bq hS.2.1, keepY bq hS.2.2.1, keepY bq hS.2.2.2.1, keepY bq hS.2.2.2.2.1, keepY bq hS.2.2.2.2.2.1, keepY bq hS.2.2.2.2.2.2.1, hS.2.2.2.2.2.2.2.trans (bq.mono hS.2.2.2.2.2.2.2.size)⟩ (fun hS => ?_)
        clear hK bq
        refine wpAnyH_take (i := 7) (v := (.bool false)) rfl (by kernel_rfl) (by kernel_rfl) (by kernel_rfl) (fun _ _ _ h => h) (Or.inl ⟨by kernel_rfl, fun w hS => by obtain ⟨s0, s1, s2, s3, s4, s5, s6, s7⟩ := hS; go_simp⟩) hS ?_
        refine wpAnyH_take (i := 8) (v := (.bool false)) rfl (by kernel_rfl) (by kernel_rfl) (by kernel_rfl) (fun _ _ _ h => h) (Or.inl ⟨by kernel_rfl, fun w hS => by obtain ⟨s0, s1, s2, s3, s4, s5, s6, s7⟩ := hS; go_simp⟩) hS ?_
        refine wpAnyH_take (i := 9) (v := (.bool false)) rfl (by kernel_rfl) (by kernel_rfl) (by kernel_rfl) (fun _ _ _ h => h) (Or.inl ⟨by kernel_rfl, fun w hS => by obtain ⟨s0, s1, s2, s3, s4, s5, s6, s7⟩ := hS; go_simp⟩) hS ?_
        refine wpAnyH_take (i := 10) (v := undef) rfl (by kernel_rfl) (by kernel_rfl) (by kernel_rfl) (fun _ _ _ h => h) (Or.inr ⟨by kernel_rfl, rfl⟩) hS ?_
        refine wpAnyH_take (i := 11) (v := undef) rfl (by kernel_rfl) (by kernel_rfl) (by kernel_rfl) (fun _ _ _ h => h) (Or.inr ⟨by kernel_rfl, rfl⟩) hS ?_
        refine wpAnyH_take (i := 12) (v := undef) rfl (by kernel_rfl) (by kernel_rfl) (by kernel_rfl) (fun _ _ _ h => h) (Or.inr ⟨by kernel_rfl, rfl⟩) hS ?_
        refine wpAnyH_take (i := 13) (v := undef) rfl (by kernel_rfl) (by kernel_rfl) (by kernel_rfl) (fun _ _ _ h => h) (Or.inr ⟨by kernel_rfl, rfl⟩) hS ?_
        refine wpAnyH_take (i := 14) (v := (.bool false)) rfl (by kernel_rfl) (by kernel_rfl) (by kernel_rfl) (fun _ _ _ h => h) (Or.inl ⟨by kernel_rfl, fun w hS => by obtain ⟨s0, s1, s2, s3, s4, s5, s6, s7⟩ := hS; go_simp⟩) hS ?_
        refine wpAnyH_take (i := 15) (v := (.bool false)) rfl (by kernel_rfl) (by kernel_rfl) (by kernel_rfl) (fun _ _ _ h => h) (Or.inl ⟨by kernel_rfl, fun w hS => by obtain ⟨s0, s1, s2, s3, s4, s5, s6, s7⟩ := hS; go_simp⟩) hS ?_
        refine wpAnyH_take (i := 16) (v := undef) rfl (by kernel_rfl) (by kernel_rfl) (by kernel_rfl) (fun _ _ _ h => h) (Or.inr ⟨by kernel_rfl, rfl⟩) hS ?_
        refine wpAnyH_take (i := 17) (v := undef) rfl (by kernel_rfl) (by kernel_rfl) (by kernel_rfl) (fun _ _ _ h => h) (Or.inr ⟨by kernel_rfl, rfl⟩) hS ?_
        refine wpAnyH_take (i := 18) (v := undef) rfl (by kernel_rfl) (by kernel_rfl) (by kernel_rfl) (fun _ _ _ h => h) (Or.inr ⟨by kernel_rfl, rfl⟩) hS ?_
        refine wpAnyH_take (i := 19) (v := undef) rfl (by kernel_rfl) (by kernel_rfl) (by kernel_rfl) (fun _ _ _ h => h) (Or.inr ⟨by kernel_rfl, rfl⟩) hS ?_
        refine wpAnyH_take (i := 20) (v := undef) rfl (by kernel_rfl) (by kernel_rfl) (by kernel_rfl) (fun _ _ _ h => h) (Or.inr ⟨by kernel_rfl, rfl⟩) hS ?_
        refine wpAnyH_take (i := 21) (v := undef) rfl (by kernel_rfl) (by kernel_rfl) (by kernel_rfl) (fun _ _ _ h => h) (Or.inr ⟨by kernel_rfl, rfl⟩) hS ?_
        refine wpAnyH_take (i := 22) (v := undef) rfl (by kernel_rfl) (by kernel_rfl) (by kernel_rfl) (fun _ _ _ h => h) (Or.inr ⟨by kernel_rfl, rfl⟩) hS ?_
        refine wpAnyH_take (i := 23) (v := (.bool false)) rfl (by kernel_rfl) (by kernel_rfl) (by kernel_rfl) (fun _ _ _ h => h) (Or.inl ⟨by kernel_rfl, fun w hS => by obtain ⟨s0, s1, s2, s3, s4, s5, s6, s7⟩ := hS; go_simp⟩) hS ?_
        refine wpAnyH_ready (rs := [24]) (by kernel_rfl) (by simp) ?_
        refine AllReadyH.cons rfl (fun K hK => ?_) AllReadyH.nil
        go_simp
        refine hK.out _ _ hS (fun hS => ?_)
        clear hK
        refine wpAnyH_done (by kernel_rfl) ?_ _
        go_wp2
        go_ret
        exact ⟨by rw [HT.out]; rfl, B1.trans (hS.2.2.2.2.2.2.2.mono B1.size)⟩
  · obtain ⟨g, off, hg, hq⟩ : ∃ g off, va = some ⟨g, off, none⟩ ∧ W1.cell? ⟨g, off + (l.length - 1) * 6 + 4, none⟩ = some (.int .i64 (lastP l)) := by
      obtain ⟨p', c', e, h⟩ := ods_own HR.out
      injection e with e1 _ _
      rcases h with h | ⟨g, off, hp, hc⟩
      · rw [h] at h0; simp at h0
      · have hlt : l.length - 1 < l.length := by omega
        have hq := hc (l.length - 1) (l[l.length - 1]'hlt) 4 _ (List.getElem?_eq_getElem hlt) rfl
        refine ⟨g, off, e1.trans hp, ?_⟩
        have hll : lastP l = (l[l.length - 1]'hlt).pl := by unfold lastP; rw [List.getLast?_eq_getElem?, List.getElem?_eq_getElem hlt]
        rw [hll]; exact hq
    subst hg
    obtain ⟨lp, HLP⟩ : ∃ lp, Hid (lastP l = lp) := ⟨_, rfl⟩
    rw [HLP.out] at hq
    obtain ⟨n, hn⟩ : ∃ n, l.length = n + 1 := ⟨l.length - 1, by omega⟩
    rw [hn] at hq c1
    rw [Nat.add_sub_cancel] at hq
    have hd0 : decide (0 < (n : Int) + 1) = true := decide_eq_true (by omega)
    have hd1 : 0 < (n : Int) + 1 := by omega
    have hn3 : (n : Int) < (n : Int) + 1 := by omega
    have HHN : Hid _ := hn
    have hn6 : n ≤ 64 := by omega
    clear h0 hl hn
    go_enter Try.func23, Try.ntmps23
    go_wp2_with fail
    clear hd0 hd1 hn3 c1 hW1 hq hn6
    cases hm : mayB o
    · have HT : Hid (tkB nx l o = false) := by show _ = _; unfold tkB; rw [hm]; rfl
      rw [hm] at HMB
      clear hm
      refine wp_region_held_drew (S := (fun wx => wx.cell? ⟨w.heap.size, 0, none⟩ = some (.int .i64 o.id) ∧ wx.cell? ⟨w.heap.size, 1, none⟩ = some (.int .i64 o.own) ∧ wx.cell? ⟨w.heap.size, 2, none⟩ = some (.int .i64 o.pr) ∧ wx.cell? ⟨w.heap.size, 3, none⟩ = some (.int .i64 o.am) ∧ wx.cell? ⟨w.heap.size, 4, none⟩ = some (.int .i64 o.pl) ∧ wx.cell? ⟨w.heap.size, 5, none⟩ = some (.bool o.by) ∧ wx.cell? ⟨p, 0, none⟩ = some (.int .i64 nx) ∧ Below W1.heap.size W1 wx)) (by kernel_rfl) ⟨o0, o1, o2, o3, o4, o5, c0, (Below.refl _ _).drew⟩ (fun hS => ?_)
      refine wpAnyH_take (i := 0) (v := (.agg #[.int .i64 o.id, .int .i64 o.own, .int .i64 o.pr, .int .i64 o.am, .int .i64 o.pl, .bool o.by])) rfl (by kernel_rfl) (by kernel_rfl) (by kernel_rfl) (fun _ _ _ h => h) (Or.inl ⟨by kernel_rfl, fun w hS => by obtain ⟨s0, s1, s2, s3, s4, s5, s6, s7⟩ := hS; go_simp⟩) hS ?_
      refine wpAnyH_ready (rs := [1]) (by kernel_rfl) (by simp) ?_
      refine AllReadyH.cons rfl (fun K hK => ?_) AllReadyH.nil
      go_simp
      refine (HMB.out ⟨_, hS.2.2.2.2.2.2.2⟩).mono ?_
      rintro e q1 ⟨rfl, bq⟩
      refine hK.out _ _ ⟨keepY bq hS.1, keepY bq hS.2.1, keepY bq hS.2.2.1, keepY bq hS.2.2.2.1, keepY bq hS.2.2.2.2.1, keepY bq hS.2.2.2.2.2.1, keepY bq hS.2.2.2.2.2.2.1, hS.2.2.2.2.2.2.2.trans (bq.mono hS.2.2.2.2.2.2.2.size)⟩ (fun hS => ?_)
      clear hK bq
      refine wpAnyH_take (i := 2) (v := (.bool false)) rfl (by kernel_rfl) (by kernel_rfl) (by kernel_rfl) (fun _ _ _ h => h) (Or.inl ⟨by kernel_rfl, fun w hS => by obtain ⟨s0, s1, s2, s3, s4, s5, s6, s7⟩ := hS; go_simp⟩) hS ?_
      refine wpAnyH_take (i := 3) (v := undef) rfl (by kernel_rfl) (by kernel_rfl) (by kernel_rfl) (fun _ _ _ h => h) (Or.inr ⟨by kernel_rfl, rfl⟩) hS ?_
      refine wpAnyH_take (i := 4) (v := undef) rfl (by kernel_rfl) (by kernel_rfl) (by kernel_rfl) (fun _ _ _ h => h) (Or.inr ⟨by kernel_rfl, rfl⟩) hS ?_
      refine wpAnyH_take (i := 5) (v := undef) rfl (by kernel_rfl) (by kernel_rfl) (by kernel_rfl) (fun _ _ _ h => h) (Or.inr ⟨by kernel_rfl, rfl⟩) hS ?_
      refine wpAnyH_take (i := 6) (v := undef) rfl (by kernel_rfl) (by kernel_rfl) (by kernel_rfl) (fun _ _ _ h => h) (Or.inr ⟨by kernel_rfl, rfl⟩) hS ?_
      refine wpAnyH_take (i := 7) (v := undef) rfl (by kernel_rfl) (by kernel_rfl) (by kernel_rfl) (fun _ _ _ h => h) (Or.inr ⟨by kernel_rfl, rfl⟩) hS ?_
      refine wpAnyH_take (i := 8) (v := (.bool false)) rfl (by kernel_rfl) (by kernel_rfl) (by kernel_rfl) (fun _ _ _ h => h) (Or.inl ⟨by kernel_rfl, fun w hS => by obtain ⟨s0, s1, s2, s3, s4, s5, s6, s7⟩ := hS; go_simp⟩) hS ?_
      refine wpAnyH_take (i := 9) (v := (.bool false)) rfl (by kernel_rfl) (by kernel_rfl) (by kernel_rfl) (fun _ _ _ h => h) (Or.inl ⟨by kernel_rfl, fun w hS => by obtain ⟨s0, s1, s2, s3, s4, s5, s6, s7⟩ := hS; go_simp⟩) hS ?_
      refine wpAnyH_take (i := 10) (v := undef) rfl (by kernel_rfl) (by kernel_rfl) (by kernel_rfl) (fun _ _ _ h => h) (Or.inr ⟨by kernel_rfl, rfl⟩) hS ?_
      refine wpAnyH_take (i := 11) (v := undef) rfl (by kernel_rfl) (by kernel_rfl) (by kernel_rfl) (fun _ _ _ h => h) (Or.inr ⟨by kernel_rfl, rfl⟩) hS ?_
      refine wpAnyH_take (i := 12) (v := undef) rfl (by kernel_rfl) (by kernel_rfl) (by kernel_rfl) (fun _ _ _ h => h) (Or.inr ⟨by kernel_rfl, rfl⟩) hS ?_
      refine wpAnyH_take (i := 13) (v := undef) rfl (by kernel_rfl) (by kernel_rfl) (by kernel_rfl) (fun _ _ _ h => h) (Or.inr ⟨by kernel_rfl, rfl⟩) hS ?_
      refine wpAnyH_take (i := 14) (v := (.bool false)) rfl (by kernel_rfl) (by kernel_rfl) (by kernel_rfl) (fun _ _ _ h => h) (Or.inl ⟨by kernel_rfl, fun w hS => by obtain ⟨s0, s1, s2, s3, s4, s5, s6, s7⟩ := hS; go_simp⟩) hS ?_
      refine wpAnyH_take (i := 15) (v := (.bool false)) rfl (by kernel_rfl) (by kernel_rfl) (by kernel_rfl) (fun _ _ _ h => h) (Or.inl ⟨by kernel_rfl, fun w hS => by obtain ⟨s0, s1, s2, s3, s4, s5, s6, s7⟩ := hS; go_simp⟩) hS ?_
      refine wpAnyH_take (i := 16) (v := undef) rfl (by kernel_rfl) (by kernel_rfl) (by kernel_rfl) (fun _ _ _ h => h) (Or.inr ⟨by kernel_rfl, rfl⟩) hS ?_
      refine wpAnyH_take (i := 17) (v := undef) rfl (by kernel_rfl) (by kernel_rfl) (by kernel_rfl) (fun _ _ _ h => h) (Or.inr ⟨by kernel_rfl, rfl⟩) hS ?_
      refine wpAnyH_take (i := 18) (v := undef) rfl (by kernel_rfl) (by kernel_rfl) (by kernel_rfl) (fun _ _ _ h => h) (Or.inr ⟨by kernel_rfl, rfl⟩) hS ?_
      refine wpAnyH_take (i := 19) (v := undef) rfl (by kernel_rfl) (by kernel_rfl) (by kernel_rfl) (fun _ _ _ h => h) (Or.inr ⟨by kernel_rfl, rfl⟩) hS ?_
      refine wpAnyH_take (i := 20) (v := undef) rfl (by kernel_rfl) (by kernel_rfl) (by kernel_rfl) (fun _ _ _ h => h) (Or.inr ⟨by kernel_rfl, rfl⟩) hS ?_
      refine wpAnyH_take (i := 21) (v := undef) rfl (by kernel_rfl) (by kernel_rfl) (by kernel_rfl) (fun _ _ _ h => h) (Or.inr ⟨by kernel_rfl, rfl⟩) hS ?_
      refine wpAnyH_take (i := 22) (v := undef) rfl (by kernel_rfl) (by kernel_rfl) (by kernel_rfl) (fun _ _ _ h => h) (Or.inr ⟨by kernel_rfl, rfl⟩) hS ?_
      refine wpAnyH_take (i := 23) (v := (.bool false)) rfl (by kernel_rfl) (by kernel_rfl) (by kernel_rfl) (fun _ _ _ h => h) (Or.inl ⟨by kernel_rfl, fun w hS => by obtain ⟨s0, s1, s2, s3, s4, s5, s6, s7⟩ := hS; go_simp⟩) hS ?_
      refine wpAnyH_ready (rs := [24]) (by kernel_rfl) (by simp) ?_
      refine AllReadyH.cons rfl (fun K hK => ?_) AllReadyH.nil
      go_simp
      refine hK.out _ _ hS (fun hS => ?_)
      clear hK
      refine wpAnyH_done (by kernel_rfl) ?_ _
      go_wp2
      go_ret
      exact ⟨by rw [HT.out]; rfl, B1.trans (hS.2.2.2.2.2.2.2.mono B1.size)⟩
    · rw [hm] at HMB
      by_cases hf : fnd l o.id < 0
      · have df : decide (fnd l o.id < 0) = true := decide_eq_true hf
        by_cases hp : lp < o.pl
        · have dp : decide (lp < o.pl) = true := decide_eq_true hp
          by_cases hx : o.pl < nx
          · have dx : decide (o.pl < nx) = true := decide_eq_true hx
            have HT : Hid (tkB nx l o = true) := by show _ = _; unfold tkB; rw [hm, df, HLP.out, dp, dx]; rfl
            clear hm
            refine wp_region_held_drew (S := (fun wx => wx.cell? ⟨w.heap.size, 0, none⟩ = some (.int .i64 o.id) ∧ wx.cell? ⟨w.heap.size, 1, none⟩ = some (.int .i64 o.own) ∧ wx.cell? ⟨w.heap.size, 2, none⟩ = some (.int .i64 o.pr) ∧ wx.cell? ⟨w.heap.size, 3, none⟩ = some (.int .i64 o.am) ∧ wx.cell? ⟨w.heap.size, 4, none⟩ = some (.int .i64 o.pl) ∧ wx.cell? ⟨w.heap.size, 5, none⟩ = some (.bool o.by) ∧ wx.cell? ⟨p, 0, none⟩ = some (.int .i64 nx) ∧ Below W1.heap.size W1 wx)) (by kernel_rfl) ⟨o0, o1, o2, o3, o4, o5, c0, (Below.refl _ _).drew⟩ (fun hS => ?_)
            refine wpAnyH_take (i := 0) (v := (.agg #[.int .i64 o.id, .int .i64 o.own, .int .i64 o.pr, .int .i64 o.am, .int .i64 o.pl, .bool o.by])) rfl (by kernel_rfl) (by kernel_rfl) (by kernel_rfl) (fun _ _ _ h => h) (Or.inl ⟨by kernel_rfl, fun w hS => by obtain ⟨s0, s1, s2, s3, s4, s5, s6, s7⟩ := hS; go_simp⟩) hS ?_
            refine wpAnyH_ready (rs := [1]) (by kernel_rfl) (by simp) ?_
            refine AllReadyH.cons rfl (fun K hK => ?_) AllReadyH.nil
            go_simp
            refine (HMB.out ⟨_, hS.2.2.2.2.2.2.2⟩).mono ?_
            rintro e q1 ⟨rfl, bq⟩
            refine hK.out _ _ ⟨keepY bq hS.1, keepY bq hS.2.1, keepY bq hS.2.2.1, keepY bq hS.2.2.2.1, keepY bq hS.2.2.2.2.1, keepY bq hS.2.2.2.2.2.1, keepY bq hS.2.2.2.2.2.2.1, hS.2.2.2.2.2.2.2.trans (bq.mono hS.2.2.2.2.2.2.2.size)⟩ (fun hS => ?_)
            clear hK bq
            refine wpAnyH_take (i := 2) (v := (.bool true)) rfl (by kernel_rfl) (by kernel_rfl) (by kernel_rfl) (fun _ _ _ h => h) (Or.inl ⟨by kernel_rfl, fun w hS => by obtain ⟨s0, s1, s2, s3, s4, s5, s6, s7⟩ := hS; go_simp⟩) hS ?_
            refine wpAnyH_take (i := 3) (v := (.pointer (some ⟨p, 0, none⟩))) rfl (by kernel_rfl) (by kernel_rfl) (by kernel_rfl) (fun _ _ _ h => h) (Or.inl ⟨by kernel_rfl, fun w hS => by obtain ⟨s0, s1, s2, s3, s4, s5, s6, s7⟩ := hS; go_simp⟩) hS ?_
            refine wpAnyH_take (i := 4) (v := (.pointer (some ⟨w.heap.size, 0, none⟩))) rfl (by kernel_rfl) (by kernel_rfl) (by kernel_rfl) (fun _ _ _ h => h) (Or.inl ⟨by kernel_rfl, fun w hS => by obtain ⟨s0, s1, s2, s3, s4, s5, s6, s7⟩ := hS; go_simp⟩) hS ?_
            refine wpAnyH_take (i := 5) (v := (.int .i64 o.id)) rfl (by kernel_rfl) (by kernel_rfl) (by kernel_rfl) (fun _ _ _ h => h) (Or.inl ⟨by kernel_rfl, fun w hS => by obtain ⟨s0, s1, s2, s3, s4, s5, s6, s7⟩ := hS; go_simp⟩) hS ?_
            refine wpAnyH_ready (rs := [6]) (by kernel_rfl) (by simp) ?_
            refine readyH_callK (i := 6) rfl (by kernel_rfl) (fun K hK => ?_)
            go_simp
            refine (HFD.out ⟨_, hS.2.2.2.2.2.2.2⟩).mono ?_
            rintro e q2 ⟨rfl, bq⟩
            refine hK.out _ _ ⟨keepY bq hS.1, keepY bq hS.2.1, keepY bq hS.2.2.1, keepY bq hS.2.2.2.1, keepY bq hS.2.2.2.2.1, keepY bq hS.2.2.2.2.2.1, keepY bq hS.2.2.2.2.2.2.1, hS.2.2.2.2.2.2.2.trans (bq.mono hS.2.2.2.2.2.2.2.size)⟩ (fun hS => ?_)
            clear hK bq
            refine wpAnyH_take (i := 7) (v := (.bool true)) rfl (by kernel_rfl) (by kernel_rfl) (by kernel_rfl) (fun _ _ _ h => h) (Or.inl ⟨by kernel_rfl, fun w hS => by obtain ⟨s0, s1, s2, s3, s4, s5, s6, s7⟩ := hS; go_simp⟩) hS ?_
            refine wpAnyH_take (i := 8) (v := (.bool true)) rfl (by kernel_rfl) (by kernel_rfl) (by kernel_rfl) (fun _ _ _ h => h) (Or.inl ⟨by kernel_rfl, fun w hS => by obtain ⟨s0, s1, s2, s3, s4, s5, s6, s7⟩ := hS; go_simp⟩) hS ?_
            refine wpAnyH_take (i := 9) (v := (.bool true)) rfl (by kernel_rfl) (by kernel_rfl) (by kernel_rfl) (fun _ _ _ h => h) (Or.inl ⟨by kernel_rfl, fun w hS => by obtain ⟨s0, s1, s2, s3, s4, s5, s6, s7⟩ := hS; go_simp⟩) hS ?_
            refine wpAnyH_take (i := 10) (v := (.int .i64 lp)) rfl (by kernel_rfl) (by kernel_rfl) (by kernel_rfl) (fun _ _ _ h => h) (Or.inl ⟨by kernel_rfl, fun w hS => by obtain ⟨s0, s1, s2, s3, s4, s5, s6, s7⟩ := hS; go_simp⟩) hS ?_
            refine wpAnyH_take (i := 11) (v := (.pointer (some ⟨w.heap.size, 4, none⟩))) rfl (by kernel_rfl) (by kernel_rfl) (by kernel_rfl) (fun _ _ _ h => h) (Or.inl ⟨by kernel_rfl, fun w hS => by obtain ⟨s0, s1, s2, s3, s4, s5, s6, s7⟩ := hS; go_simp⟩) hS ?_
            refine wpAnyH_take (i := 12) (v := (.int .i64 o.pl)) rfl (by kernel_rfl) (by kernel_rfl) (by kernel_rfl) (fun _ _ _ h => h) (Or.inl ⟨by kernel_rfl, fun w hS => by obtain ⟨s0, s1, s2, s3, s4, s5, s6, s7⟩ := hS; go_simp⟩) hS ?_
            refine wpAnyH_take (i := 13) (v := (.bool true)) rfl (by kernel_rfl) (by kernel_rfl) (by kernel_rfl) (fun _ _ _ h => h) (Or.inl ⟨by kernel_rfl, fun w hS => by obtain ⟨s0, s1, s2, s3, s4, s5, s6, s7⟩ := hS; go_simp⟩) hS ?_
            refine wpAnyH_take (i := 14) (v := (.bool true)) rfl (by kernel_rfl) (by kernel_rfl) (by kernel_rfl) (fun _ _ _ h => h) (Or.inl ⟨by kernel_rfl, fun w hS => by obtain ⟨s0, s1, s2, s3, s4, s5, s6, s7⟩ := hS; go_simp⟩) hS ?_
            refine wpAnyH_take (i := 15) (v := (.bool true)) rfl (by kernel_rfl) (by kernel_rfl) (by kernel_rfl) (fun _ _ _ h => h) (Or.inl ⟨by kernel_rfl, fun w hS => by obtain ⟨s0, s1, s2, s3, s4, s5, s6, s7⟩ := hS; go_simp⟩) hS ?_
            refine wpAnyH_take (i := 16) (v := (.pointer (some ⟨w.heap.size, 4, none⟩))) rfl (by kernel_rfl) (by kernel_rfl) (by kernel_rfl) (fun _ _ _ h => h) (Or.inl ⟨by kernel_rfl, fun w hS => by obtain ⟨s0, s1, s2, s3, s4, s5, s6, s7⟩ := hS; go_simp⟩) hS ?_
            refine wpAnyH_take (i := 17) (v := (.int .i64 o.pl)) rfl (by kernel_rfl) (by kernel_rfl) (by kernel_rfl) (fun _ _ _ h => h) (Or.inl ⟨by kernel_rfl, fun w hS => by obtain ⟨s0, s1, s2, s3, s4, s5, s6, s7⟩ := hS; go_simp⟩) hS ?_
            refine wpAnyH_take (i := 18) (v := (.pointer (some ⟨p, 0, none⟩))) rfl (by kernel_rfl) (by kernel_rfl) (by kernel_rfl) (fun _ _ _ h => h) (Or.inl ⟨by kernel_rfl, fun w hS => by obtain ⟨s0, s1, s2, s3, s4, s5, s6, s7⟩ := hS; go_simp⟩) hS ?_
            refine wpAnyH_take (i := 19) (v := (.pointer (some ⟨p, 0, none⟩))) rfl (by kernel_rfl) (by kernel_rfl) (by kernel_rfl) (fun _ _ _ h => h) (Or.inl ⟨by kernel_rfl, fun w hS => by obtain ⟨s0, s1, s2, s3, s4, s5, s6, s7⟩ := hS; go_simp⟩) hS ?_
            refine wpAnyH_take (i := 20) (v := (.pointer (some ⟨p, 0, none⟩))) rfl (by kernel_rfl) (by kernel_rfl) (by kernel_rfl) (fun _ _ _ h => h) (Or.inl ⟨by kernel_rfl, fun w hS => by obtain ⟨s0, s1, s2, s3, s4, s5, s6, s7⟩ := hS; go_simp⟩) hS ?_
            refine wpAnyH_take (i := 21) (v := (.int .i64 nx)) rfl (by kernel_rfl) (by kernel_rfl) (by kernel_rfl) (fun _ _ _ h => h) (Or.inl ⟨by kernel_rfl, fun w hS => by obtain ⟨s0, s1, s2, s3, s4, s5, s6, s7⟩ := hS; go_simp⟩) hS ?_
            refine wpAnyH_take (i := 22) (v := (.bool true)) rfl (by kernel_rfl) (by kernel_rfl) (by kernel_rfl) (fun _ _ _ h => h) (Or.inl ⟨by kernel_rfl, fun w hS => by obtain ⟨s0, s1, s2, s3, s4, s5, s6, s7⟩ := hS; go_simp⟩) hS ?_
            refine wpAnyH_take (i := 23) (v := (.bool true)) rfl (by kernel_rfl) (by kernel_rfl) (by kernel_rfl) (fun _ _ _ h => h) (Or.inl ⟨by kernel_rfl, fun w hS => by obtain ⟨s0, s1, s2, s3, s4, s5, s6, s7⟩ := hS; go_simp⟩) hS ?_
            refine wpAnyH_ready (rs := [24]) (by kernel_rfl) (by simp) ?_
            refine AllReadyH.cons rfl (fun K hK => ?_) AllReadyH.nil
            go_simp
            refine hK.out _ _ hS (fun hS => ?_)
            clear hK
            refine wpAnyH_done (by kernel_rfl) ?_ _
            go_wp2
            go_ret
            exact ⟨by rw [HT.out]; rfl, B1.trans (hS.2.2.2.2.2.2.2.mono B1.size)⟩
          · have dx : decide (o.pl < nx) = false := decide_eq_false hx
            have HT : Hid (tkB nx l o = false) := by show _ = _; unfold tkB; rw [hm, df, HLP.out, dp, dx]; rfl
            clear hm
            refine wp_region_held_drew (S := (fun wx => wx.cell? ⟨w.heap.size, 0, none⟩ = some (.int .i64 o.id) ∧ wx.cell? ⟨w.heap.size, 1, none⟩ = some (.int .i64 o.own) ∧ wx.cell? ⟨w.heap.size, 2, none⟩ = some (.int .i64 o.pr) ∧ wx.cell? ⟨w.heap.size, 3, none⟩ = some (.int .i64 o.am) ∧ wx.cell? ⟨w.heap.size, 4, none⟩ = some (.int .i64 o.pl) ∧ wx.cell? ⟨w.heap.size, 5, none⟩ = some (.bool o.by) ∧ wx.cell? ⟨p, 0, none⟩ = some (.int .i64 nx) ∧ Below W1.heap.size W1 wx)) (by kernel_rfl) ⟨o0, o1, o2, o3, o4, o5, c0, (Below.refl _ _).drew⟩ (fun hS => ?_)
            refine wpAnyH_take (i := 0) (v := (.agg #[.int .i64 o.id, .int .i64 o.own, .int .i64 o.pr, .int .i64 o.am, .int .i64 o.pl, .bool o.by])) rfl (by kernel_rfl) (by kernel_rfl) (by kernel_rfl) (fun _ _ _ h => h) (Or.inl ⟨by kernel_rfl, fun w hS => by obtain ⟨s0, s1, s2, s3, s4, s5, s6, s7⟩ := hS; go_simp⟩) hS ?_
            refine wpAnyH_ready (rs := [1]) (by kernel_rfl) (by simp) ?_
            refine AllReadyH.cons rfl (fun K hK => ?_) AllReadyH.nil
            go_simp
            refine (HMB.out ⟨_, hS.2.2.2.2.2.2.2⟩).mono ?_
            rintro e q1 ⟨rfl, bq⟩
            refine hK.out _ _ ⟨keepY bq hS.1, keepY bq hS.2.1, keepY bq hS.2.2.1, keepY bq hS.2.2.2.1, keepY bq hS.2.2.2.2.1, keepY bq hS.2.2.2.2.2.1, keepY bq hS.2.2.2.2.2.2.1, hS.2.2.2.2.2.2.2.trans (bq.mono hS.2.2.2.2.2.2.2.size)⟩ (fun hS => ?_)
            clear hK bq
            refine wpAnyH_take (i := 2) (v := (.bool true)) rfl (by kernel_rfl) (by kernel_rfl) (by kernel_rfl) (fun _ _ _ h => h) (Or.inl ⟨by kernel_rfl, fun w hS => by obtain ⟨s0, s1, s2, s3, s4, s5, s6, s7⟩ := hS; go_simp⟩) hS ?_
            refine wpAnyH_take (i := 3) (v := (.pointer (some ⟨p, 0, none⟩))) rfl (by kernel_rfl) (by kernel_rfl) (by kernel_rfl) (fun _ _ _ h => h) (Or.inl ⟨by kernel_rfl, fun w hS => by obtain ⟨s0, s1, s2, s3, s4, s5, s6, s7⟩ := hS; go_simp⟩) hS ?_
            refine wpAnyH_take (i := 4) (v := (.pointer (some ⟨w.heap.size, 0, none⟩))) rfl (by kernel_rfl) (by kernel_rfl) (by kernel_rfl) (fun _ _ _ h => h) (Or.inl ⟨by kernel_rfl, fun w hS => by obtain ⟨s0, s1, s2, s3, s4, s5, s6, s7⟩ := hS; go_simp⟩) hS ?_
            refine wpAnyH_take (i := 5) (v := (.int .i64 o.id)) rfl (by kernel_rfl) (by kernel_rfl) (by kernel_rfl) (fun _ _ _ h => h) (Or.inl ⟨by kernel_rfl, fun w hS => by obtain ⟨s0, s1, s2, s3, s4, s5, s6, s7⟩ := hS; go_simp⟩) hS ?_
            refine wpAnyH_ready (rs := [6]) (by kernel_rfl) (by simp) ?_
            refine readyH_callK (i := 6) rfl (by kernel_rfl) (fun K hK => ?_)
            go_simp
            refine (HFD.out ⟨_, hS.2.2.2.2.2.2.2⟩).mono ?_
            rintro e q2 ⟨rfl, bq⟩
            refine hK.out _ _ ⟨keepY bq hS.1, keepY bq hS.2.1, keepY bq hS.2.2.1, keepY bq hS.2.2.2.1, keepY bq hS.2.2.2.2.1, keepY bq hS.2.2.2.2.2.1, keepY bq hS.2.2.2.2.2.2.1, hS.2.2.2.2.2.2.2.trans (bq.mono hS.2.2.2.2.2.2.2.size)⟩ (fun hS => ?_)
            clear hK bq
            refine wpAnyH_take (i := 7) (v := (.bool true)) rfl (by kernel_rfl) (by kernel_rfl) (by kernel_rfl) (fun _ _ _ h => h) (Or.inl ⟨by kernel_rfl, fun w hS => by obtain ⟨s0, s1, s2, s3, s4, s5, s6, s7⟩ := hS; go_simp⟩) hS ?_
            refine wpAnyH_take (i := 8) (v := (.bool true)) rfl (by kernel_rfl) (by kernel_rfl) (by kernel_rfl) (fun _ _ _ h => h) (Or.inl ⟨by kernel_rfl, fun w hS => by obtain ⟨s0, s1, s2, s3, s4, s5, s6, s7⟩ := hS; go_simp⟩) hS ?_
            refine wpAnyH_take (i := 9) (v := (.bool true)) rfl (by kernel_rfl) (by kernel_rfl) (by kernel_rfl) (fun _ _ _ h => h) (Or.inl ⟨by kernel_rfl, fun w hS => by obtain ⟨s0, s1, s2, s3, s4, s5, s6, s7⟩ := hS; go_simp⟩) hS ?_
            refine wpAnyH_take (i := 10) (v := (.int .i64 lp)) rfl (by kernel_rfl) (by kernel_rfl) (by kernel_rfl) (fun _ _ _ h => h) (Or.inl ⟨by kernel_rfl, fun w hS => by obtain ⟨s0, s1, s2, s3, s4, s5, s6, s7⟩ := hS; go_simp⟩) hS ?_
            refine wpAnyH_take (i := 11) (v := (.pointer (some ⟨w.heap.size, 4, none⟩))) rfl (by kernel_rfl) (by kernel_rfl) (by kernel_rfl) (fun _ _ _ h => h) (Or.inl ⟨by kernel_rfl, fun w hS => by obtain ⟨s0, s1, s2, s3, s4, s5, s6, s7⟩ := hS; go_simp⟩) hS ?_
            refine wpAnyH_take (i := 12) (v := (.int .i64 o.pl)) rfl (by kernel_rfl) (by kernel_rfl) (by kernel_rfl) (fun _ _ _ h => h) (Or.inl ⟨by kernel_rfl, fun w hS => by obtain ⟨s0, s1, s2, s3, s4, s5, s6, s7⟩ := hS; go_simp⟩) hS ?_
            refine wpAnyH_take (i := 13) (v := (.bool true)) rfl (by kernel_rfl) (by kernel_rfl) (by kernel_rfl) (fun _ _ _ h => h) (Or.inl ⟨by kernel_rfl, fun w hS => by obtain ⟨s0, s1, s2, s3, s4, s5, s6, s7⟩ := hS; go_simp⟩) hS ?_
            refine wpAnyH_take (i := 14) (v := (.bool true)) rfl (by kernel_rfl) (by kernel_rfl) (by kernel_rfl) (fun _ _ _ h => h) (Or.inl ⟨by kernel_rfl, fun w hS => by obtain ⟨s0, s1, s2, s3, s4, s5, s6, s7⟩ := hS; go_simp⟩) hS ?_
            refine wpAnyH_take (i := 15) (v := (.bool true)) rfl (by kernel_rfl) (by kernel_rfl) (by kernel_rfl) (fun _ _ _ h => h) (Or.inl ⟨by kernel_rfl, fun w hS => by obtain ⟨s0, s1, s2, s3, s4, s5, s6, s7⟩ := hS; go_simp⟩) hS ?_
            refine wpAnyH_take (i := 16) (v := (.pointer (some ⟨w.heap.size, 4, none⟩))) rfl (by kernel_rfl) (by kernel_rfl) (by kernel_rfl) (fun _ _ _ h => h) (Or.inl ⟨by kernel_rfl, fun w hS => by obtain ⟨s0, s1, s2, s3, s4, s5, s6, s7⟩ := hS; go_simp⟩) hS ?_
            refine wpAnyH_take (i := 17) (v := (.int .i64 o.pl)) rfl (by kernel_rfl) (by kernel_rfl) (by kernel_rfl) (fun _ _ _ h => h) (Or.inl ⟨by kernel_rfl, fun w hS => by obtain ⟨s0, s1, s2, s3, s4, s5, s6, s7⟩ := hS; go_simp⟩) hS ?_
            refine wpAnyH_take (i := 18) (v := (.pointer (some ⟨p, 0, none⟩))) rfl (by kernel_rfl) (by kernel_rfl) (by kernel_rfl) (fun _ _ _ h => h) (Or.inl ⟨by kernel_rfl, fun w hS => by obtain ⟨s0, s1, s2, s3, s4, s5, s6, s7⟩ := hS; go_simp⟩) hS ?_
            refine wpAnyH_take (i := 19) (v := (.pointer (some ⟨p, 0, none⟩))) rfl (by kernel_rfl) (by kernel_rfl) (by kernel_rfl) (fun _ _ _ h => h) (Or.inl ⟨by kernel_rfl, fun w hS => by obtain ⟨s0, s1, s2, s3, s4, s5, s6, s7⟩ := hS; go_simp⟩) hS ?_
            refine wpAnyH_take (i := 20) (v := (.pointer (some ⟨p, 0, none⟩))) rfl (by kernel_rfl) (by kernel_rfl) (by kernel_rfl) (fun _ _ _ h => h) (Or.inl ⟨by kernel_rfl, fun w hS => by obtain ⟨s0, s1, s2, s3, s4, s5, s6, s7⟩ := hS; go_simp⟩) hS ?_
            refine wpAnyH_take (i := 21) (v := (.int .i64 nx)) rfl (by kernel_rfl) (by kernel_rfl) (by kernel_rfl) (fun _ _ _ h => h) (Or.inl ⟨by kernel_rfl, fun w hS => by obtain ⟨s0, s1, s2, s3, s4, s5, s6, s7⟩ := hS; go_simp⟩) hS ?_
            refine wpAnyH_take (i := 22) (v := (.bool false)) rfl (by kernel_rfl) (by kernel_rfl) (by kernel_rfl) (fun _ _ _ h => h) (Or.inl ⟨by kernel_rfl, fun w hS => by obtain ⟨s0, s1, s2, s3, s4, s5, s6, s7⟩ := hS; go_simp⟩) hS ?_
            refine wpAnyH_take (i := 23) (v := (.bool false)) rfl (by kernel_rfl) (by kernel_rfl) (by kernel_rfl) (fun _ _ _ h => h) (Or.inl ⟨by kernel_rfl, fun w hS => by obtain ⟨s0, s1, s2, s3, s4, s5, s6, s7⟩ := hS; go_simp⟩) hS ?_
            refine wpAnyH_ready (rs := [24]) (by kernel_rfl) (by simp) ?_
            refine AllReadyH.cons rfl (fun K hK => ?_) AllReadyH.nil
            go_simp
            refine hK.out _ _ hS (fun hS => ?_)
            clear hK
            refine wpAnyH_done (by kernel_rfl) ?_ _
            go_wp2
            go_ret
            exact ⟨by rw [HT.out]; rfl, B1.trans (hS.2.2.2.2.2.2.2.mono B1.size)⟩
        · have dp : decide (lp < o.pl) = false := decide_eq_false hp
          have HT : Hid (tkB nx l o = false) := by show _ = _; unfold tkB; rw [hm, df, HLP.out, dp]; rfl
          clear hm
          refine wp_region_held_drew (S := (fun wx => wx.cell? ⟨w.heap.size, 0, none⟩ = some (.int .i64 o.id) ∧ wx.cell? ⟨w.heap.size, 1, none⟩ = some (.int .i64 o.own) ∧ wx.cell? ⟨w.heap.size, 2, none⟩ = some (.int .i64 o.pr) ∧ wx.cell? ⟨w.heap.size, 3, none⟩ = some (.int .i64 o.am) ∧ wx.cell? ⟨w.heap.size, 4, none⟩ = some (.int .i64 o.pl) ∧ wx.cell? ⟨w.heap.size, 5, none⟩ = some (.bool o.by) ∧ wx.cell? ⟨p, 0, none⟩ = some (.int .i64 nx) ∧ Below W1.heap.size W1 wx)) (by kernel_rfl) ⟨o0, o1, o2, o3, o4, o5, c0, (Below.refl _ _).drew⟩ (fun hS => ?_)
          refine wpAnyH_take (i := 0) (v := (.agg #[.int .i64 o.id, .int .i64 o.own, .int .i64 o.pr, .int .i64 o.am, .int .i64 o.pl, .bool o.by])) rfl (by kernel_rfl) (by kernel_rfl) (by kernel_rfl) (fun _ _ _ h => h) (Or.inl ⟨by kernel_rfl, fun w hS => by obtain ⟨s0, s1, s2, s3, s4, s5, s6, s7⟩ := hS; go_simp⟩) hS ?_
          refine wpAnyH_ready (rs := [1]) (by kernel_rfl) (by simp) ?_
          refine AllReadyH.cons rfl (fun K hK => ?_) AllReadyH.nil
          go_simp
          refine (HMB.out ⟨_, hS.2.2.2.2.2.2.2⟩).mono ?_
          rintro e q1 ⟨rfl, bq⟩
          refine hK.out _ _ ⟨keepY bq hS.1, keepY bq hS.2.1, keepY bq hS.2.2.1, keepY bq hS.2.2.2.1, keepY bq hS.2.2.2.2.1, keepY bq hS.2.2.2.2.2.1, keepY bq hS.2.2.2.2.2.2.1, hS.2.2.2.2.2.2.2.trans (bq.mono hS.2.2.2.2.2.2.2.size)⟩ (fun hS => ?_)
          clear hK bq
          refine wpAnyH_take (i := 2) (v := (.bool true)) rfl (by kernel_rfl) (by kernel_rfl) (by kernel_rfl) (fun _ _ _ h => h) (Or.inl ⟨by kernel_rfl, fun w hS => by obtain ⟨s0, s1, s2, s3, s4, s5, s6, s7⟩ := hS; go_simp⟩) hS ?_
          refine wpAnyH_take (i := 3) (v := (.pointer (some ⟨p, 0, none⟩))) rfl (by kernel_rfl) (by kernel_rfl) (by kernel_rfl) (fun _ _ _ h => h) (Or.inl ⟨by kernel_rfl, fun w hS => by obtain ⟨s0, s1, s2, s3, s4, s5, s6, s7⟩ := hS; go_simp⟩) hS ?_
          refine wpAnyH_take (i := 4) (v := (.pointer (some ⟨w.heap.size, 0, none⟩))) rfl (by kernel_rfl) (by kernel_rfl) (by kernel_rfl) (fun _ _ _ h => h) (Or.inl ⟨by kernel_rfl, fun w hS => by obtain ⟨s0, s1, s2, s3, s4, s5, s6, s7⟩ := hS; go_simp⟩) hS ?_
          refine wpAnyH_take (i := 5) (v := (.int .i64 o.id)) rfl (by kernel_rfl) (by kernel_rfl) (by kernel_rfl) (fun _ _ _ h => h) (Or.inl ⟨by kernel_rfl, fun w hS => by obtain ⟨s0, s1, s2, s3, s4, s5, s6, s7⟩ := hS; go_simp⟩) hS ?_
          refine wpAnyH_ready (rs := [6]) (by kernel_rfl) (by simp) ?_
          refine readyH_callK (i := 6) rfl (by kernel_rfl) (fun K hK => ?_)
          go_simp
          refine (HFD.out ⟨_, hS.2.2.2.2.2.2.2⟩).mono ?_
          rintro e q2 ⟨rfl, bq⟩
          refine hK.out _ _ ⟨keepY bq hS.1, keepY bq hS.2.1, keepY bq hS.2.2.1, keepY bq hS.2.2.2.1, keepY bq hS.2.2.2.2.1, keepY bq hS.2.2.2.2.2.1, keepY bq hS.2.2.2.2.2.2.1, hS.2.2.2.2.2.2.2.trans (bq.mono hS.2.2.2.2.2.2.2.size)⟩ (fun hS => ?_)
          clear hK bq
          refine wpAnyH_take (i := 7) (v := (.bool true)) rfl (by kernel_rfl) (by kernel_rfl) (by kernel_rfl) (fun _ _ _ h => h) (Or.inl ⟨by kernel_rfl, fun w hS => by obtain ⟨s0, s1, s2, s3, s4, s5, s6, s7⟩ := hS; go_simp⟩) hS ?_
          refine wpAnyH_take (i := 8) (v := (.bool true)) rfl (by kernel_rfl) (by kernel_rfl) (by kernel_rfl) (fun _ _ _ h => h) (Or.inl ⟨by kernel_rfl, fun w hS => by obtain ⟨s0, s1, s2, s3, s4, s5, s6, s7⟩ := hS; go_simp⟩) hS ?_
          refine wpAnyH_take (i := 9) (v := (.bool true)) rfl (by kernel_rfl) (by kernel_rfl) (by kernel_rfl) (fun _ _ _ h => h) (Or.inl ⟨by kernel_rfl, fun w hS => by obtain ⟨s0, s1, s2, s3, s4, s5, s6, s7⟩ := hS; go_simp⟩) hS ?_
          refine wpAnyH_take (i := 10) (v := (.int .i64 lp)) rfl (by kernel_rfl) (by kernel_rfl) (by kernel_rfl) (fun _ _ _ h => h) (Or.inl ⟨by kernel_rfl, fun w hS => by obtain ⟨s0, s1, s2, s3, s4, s5, s6, s7⟩ := hS; go_simp⟩) hS ?_
          refine wpAnyH_take (i := 11) (v := (.pointer (some ⟨w.heap.size, 4, none⟩))) rfl (by kernel_rfl) (by kernel_rfl) (by kernel_rfl) (fun _ _ _ h => h) (Or.inl ⟨by kernel_rfl, fun w hS => by obtain ⟨s0, s1, s2, s3, s4, s5, s6, s7⟩ := hS; go_simp⟩) hS ?_
          refine wpAnyH_take (i := 12) (v := (.int .i64 o.pl)) rfl (by kernel_rfl) (by kernel_rfl) (by kernel_rfl) (fun _ _ _ h => h) (Or.inl ⟨by kernel_rfl, fun w hS => by obtain ⟨s0, s1, s2, s3, s4, s5, s6, s7⟩ := hS; go_simp⟩) hS ?_
          refine wpAnyH_take (i := 13) (v := (.bool false)) rfl (by kernel_rfl) (by kernel_rfl) (by kernel_rfl) (fun _ _ _ h => h) (Or.inl ⟨by kernel_rfl, fun w hS => by obtain ⟨s0, s1, s2, s3, s4, s5, s6, s7⟩ := hS; go_simp⟩) hS ?_
          refine wpAnyH_take (i := 14) (v := (.bool false)) rfl (by kernel_rfl) (by kernel_rfl) (by kernel_rfl) (fun _ _ _ h => h) (Or.inl ⟨by kernel_rfl, fun w hS => by obtain ⟨s0, s1, s2, s3, s4, s5, s6, s7⟩ := hS; go_simp⟩) hS ?_
          refine wpAnyH_take (i := 15) (v := (.bool false)) rfl (by kernel_rfl) (by kernel_rfl) (by kernel_rfl) (fun _ _ _ h => h) (Or.inl ⟨by kernel_rfl, fun w hS => by obtain ⟨s0, s1, s2, s3, s4, s5, s6, s7⟩ := hS; go_simp⟩) hS ?_
          refine wpAnyH_take (i := 16) (v := undef) rfl (by kernel_rfl) (by kernel_rfl) (by kernel_rfl) (fun _ _ _ h => h) (Or.inr ⟨by kernel_rfl, rfl⟩) hS ?_
          refine wpAnyH_take (i := 17) (v := undef) rfl (by kernel_rfl) (by kernel_rfl) (by kernel_rfl) (fun _ _ _ h => h) (Or.inr ⟨by kernel_rfl, rfl⟩) hS ?_
          refine wpAnyH_take (i := 18) (v := undef) rfl (by kernel_rfl) (by kernel_rfl) (by kernel_rfl) (fun _ _ _ h => h) (Or.inr ⟨by kernel_rfl, rfl⟩) hS ?_
          refine wpAnyH_take (i := 19) (v := undef) rfl (by kernel_rfl) (by kernel_rfl) (by kernel_rfl) (fun _ _ _ h => h) (Or.inr ⟨by kernel_rfl, rfl⟩) hS ?_
          refine wpAnyH_take (i := 20) (v := undef) rfl (by kernel_rfl) (by kernel_rfl) (by kernel_rfl) (fun _ _ _ h => h) (Or.inr ⟨by kernel_rfl, rfl⟩) hS ?_
          refine wpAnyH_take (i := 21) (v := undef) rfl (by kernel_rfl) (by kernel_rfl) (by kernel_rfl) (fun _ _ _ h => h) (Or.inr ⟨by kernel_rfl, rfl⟩) hS ?_
          refine wpAnyH_take (i := 22) (v := undef) rfl (by kernel_rfl) (by kernel_rfl) (by kernel_rfl) (fun _ _ _ h => h) (Or.inr ⟨by kernel_rfl, rfl⟩) hS ?_
          refine wpAnyH_take (i := 23) (v := (.bool false)) rfl (by kernel_rfl) (by kernel_rfl) (by kernel_rfl) (fun _ _ _ h => h) (Or.inl ⟨by kernel_rfl, fun w hS => by obtain ⟨s0, s1, s2, s3, s4, s5, s6, s7⟩ := hS; go_simp⟩) hS ?_
          refine wpAnyH_ready (rs := [24]) (by kernel_rfl) (by simp) ?_
          refine AllReadyH.cons rfl (fun K hK => ?_) AllReadyH.nil
          go_simp
          refine hK.out _ _ hS (fun hS => ?_)
          clear hK
          refine wpAnyH_done (by kernel_rfl) ?_ _
          go_wp2
          go_ret
          exact ⟨by rw [HT.out]; rfl, B1.trans (hS.2.2.2.2.2.2.2.mono B1.size)⟩
      · have df : decide (fnd l o.id < 0) = false := decide_eq_false hf
        have HT : Hid (tkB nx l o = false) := by show _ = _; unfold tkB; rw [hm, df]; rfl
        clear hm
        refine wp_region_held_drew (S := (fun wx => wx.cell? ⟨w.heap.size, 0, none⟩ = some (.int .i64 o.id) ∧ wx.cell? ⟨w.heap.size, 1, none⟩ = some (.int .i64 o.own) ∧ wx.cell? ⟨w.heap.size, 2, none⟩ = some (.int .i64 o.pr) ∧ wx.cell? ⟨w.heap.size, 3, none⟩ = some (.int .i64 o.am) ∧ wx.cell? ⟨w.heap.size, 4, none⟩ = some (.int .i64 o.pl) ∧ wx.cell? ⟨w.heap.size, 5, none⟩ = some (.bool o.by) ∧ wx.cell? ⟨p, 0, none⟩ = some (.int .i64 nx) ∧ Below W1.heap.size W1 wx)) (by kernel_rfl) ⟨o0, o1, o2, o3, o4, o5, c0, (Below.refl _ _).drew⟩ (fun hS => ?_)
        refine wpAnyH_take (i := 0) (v := (.agg #[.int .i64 o.id, .int .i64 o.own, .int .i64 o.pr, .int .i64 o.am, .int .i64 o.pl, .bool o.by])) rfl (by kernel_rfl) (by kernel_rfl) (by kernel_rfl) (fun _ _ _ h => h) (Or.inl ⟨by kernel_rfl, fun w hS => by obtain ⟨s0, s1, s2, s3, s4, s5, s6, s7⟩ := hS; go_simp⟩) hS ?_
        refine wpAnyH_ready (rs := [1]) (by kernel_rfl) (by simp) ?_
        refine AllReadyH.cons rfl (fun K hK => ?_) AllReadyH.nil
        go_simp
        refine (HMB.out ⟨_, hS.2.2.2.2.2.2.2⟩).mono ?_
        rintro e q1 ⟨rfl, bq⟩
        refine hK.out _ _ ⟨keepY bq hS.1, keepY bq hS.2.1, keepY bq hS.2.2.1, keepY bq hS.2.2.2.1, keepY bq hS.2.2.2.2.1, keepY bq hS.2.2.2.2.2.1, keepY bq hS.2.2.2.2.2.2.1, hS.2.2.2.2.2.2.2.trans (bq.mono hS.2.2.2.2.2.2.2.size)⟩ (fun hS => ?_)
        clear hK bq
        refine wpAnyH_take (i := 2) (v := (.bool true)) rfl (by kernel_rfl) (by kernel_rfl) (by kernel_rfl) (fun _ _ _ h => h) (Or.inl ⟨by kernel_rfl, fun w hS => by obtain ⟨s0, s1, s2, s3, s4, s5, s6, s7⟩ := hS; go_simp⟩) hS ?_
        refine wpAnyH_take (i := 3) (v := (.pointer (some ⟨p, 0, none⟩))) rfl (by kernel_rfl) (by kernel_rfl) (by kernel_rfl) (fun _ _ _ h => h) (Or.inl ⟨by kernel_rfl, fun w hS => by obtain ⟨s0, s1, s2, s3, s4, s5, s6, s7⟩ := hS; go_simp⟩) hS ?_
        refine wpAnyH_take (i := 4) (v := (.pointer (some ⟨w.heap.size, 0, none⟩))) rfl (by kernel_rfl) (by kernel_rfl) (by kernel_rfl) (fun _ _ _ h => h) (Or.inl ⟨by kernel_rfl, fun w hS => by obtain ⟨s0, s1, s2, s3, s4, s5, s6, s7⟩ := hS; go_simp⟩) hS ?_
        refine wpAnyH_take (i := 5) (v := (.int .i64 o.id)) rfl (by kernel_rfl) (by kernel_rfl) (by kernel_rfl) (fun _ _ _ h => h) (Or.inl ⟨by kernel_rfl, fun w hS => by obtain ⟨s0, s1, s2, s3, s4, s5, s6, s7⟩ := hS; go_simp⟩) hS ?_
        refine wpAnyH_ready (rs := [6]) (by kernel_rfl) (by simp) ?_
        refine readyH_callK (i := 6) rfl (by kernel_rfl) (fun K hK => ?_)
        go_simp
        refine (HFD.out ⟨_, hS.2.2.2.2.2.2.2⟩).mono ?_
        rintro e q2 ⟨rfl, bq⟩
        refine hK.out _ _ ⟨keepY bq hS.1, keepY bq hS.2.1, keepY bq hS.2.2.1, keepY bq hS.2.2.2.1, keepY bq hS.2.2.2.2.1, keepY bq hS.2.2.2.2.2.1, keepY bq hS.2.2.2.2.2.2.1, hS.2.2.2.2.2.2.2.trans (bq.mono hS.2.2.2.2.2.2.2.size)⟩ (fun hS => ?_)
        clear hK bq
        refine wpAnyH_take (i := 7) (v := (.bool false)) rfl (by kernel_rfl) (by kernel_rfl) (by kernel_rfl) (fun _ _ _ h => h) (Or.inl ⟨by kernel_rfl, fun w hS => by obtain ⟨s0, s1, s2, s3, s4, s5, s6, s7⟩ := hS; go_simp⟩) hS ?_
        refine wpAnyH_take (i := 8) (v := (.bool false)) rfl (by kernel_rfl) (by kernel_rfl) (by kernel_rfl) (fun _ _ _ h => h) (Or.inl ⟨by kernel_rfl, fun w hS => by obtain ⟨s0, s1, s2, s3, s4, s5, s6, s7⟩ := hS; go_simp⟩) hS ?_
        refine wpAnyH_take (i := 9) (v := (.bool false)) rfl (by kernel_rfl) (by kernel_rfl) (by kernel_rfl) (fun _ _ _ h => h) (Or.inl ⟨by kernel_rfl, fun w hS => by obtain ⟨s0, s1, s2, s3, s4, s5, s6, s7⟩ := hS; go_simp⟩) hS ?_
        refine wpAnyH_take (i := 10) (v := undef) rfl (by kernel_rfl) (by kernel_rfl) (by kernel_rfl) (fun _ _ _ h => h) (Or.inr ⟨by kernel_rfl, rfl⟩) hS ?_
        refine wpAnyH_take (i := 11) (v := undef) rfl (by kernel_rfl) (by kernel_rfl) (by kernel_rfl) (fun _ _ _ h => h) (Or.inr ⟨by kernel_rfl, rfl⟩) hS ?_
        refine wpAnyH_take (i := 12) (v := undef) rfl (by kernel_rfl) (by kernel_rfl) (by kernel_rfl) (fun _ _ _ h => h) (Or.inr ⟨by kernel_rfl, rfl⟩) hS ?_
        refine wpAnyH_take (i := 13) (v := undef) rfl (by kernel_rfl) (by kernel_rfl) (by kernel_rfl) (fun _ _ _ h => h) (Or.inr ⟨by kernel_rfl, rfl⟩) hS ?_
        refine wpAnyH_take (i := 14) (v := (.bool false)) rfl (by kernel_rfl) (by kernel_rfl) (by kernel_rfl) (fun _ _ _ h => h) (Or.inl ⟨by kernel_rfl, fun w hS => by obtain ⟨s0, s1, s2, s3, s4, s5, s6, s7⟩ := hS; go_simp⟩) hS ?_
        refine wpAnyH_take (i := 15) (v := (.bool false)) rfl (by kernel_rfl) (by kernel_rfl) (by kernel_rfl) (fun _ _ _ h => h) (Or.inl ⟨by kernel_rfl, fun w hS => by obtain ⟨s0, s1, s2, s3, s4, s5, s6, s7⟩ := hS; go_simp⟩) hS ?_
        refine wpAnyH_take (i := 16) (v := undef) rfl (by kernel_rfl) (by kernel_rfl) (by kernel_rfl) (fun _ _ _ h => h) (Or.inr ⟨by kernel_rfl, rfl⟩) hS ?_
        refine wpAnyH_take (i := 17) (v := undef) rfl (by kernel_rfl) (by kernel_rfl) (by kernel_rfl) (fun _ _ _ h => h) (Or.inr ⟨by kernel_rfl, rfl⟩) hS ?_
        refine wpAnyH_take (i := 18) (v := undef) rfl (by kernel_rfl) (by kernel_rfl) (by kernel_rfl) (fun _ _ _ h => h) (Or.inr ⟨by kernel_rfl, rfl⟩) hS ?_
        refine wpAnyH_take (i := 19) (v := undef) rfl (by kernel_rfl) (by kernel_rfl) (by kernel_rfl) (fun _ _ _ h => h) (Or.inr ⟨by kernel_rfl, rfl⟩) hS ?_
        refine wpAnyH_take (i := 20) (v := undef) rfl (by kernel_rfl) (by kernel_rfl) (by kernel_rfl) (fun _ _ _ h => h) (Or.inr ⟨by kernel_rfl, rfl⟩) hS ?_
        refine wpAnyH_take (i := 21) (v := undef) rfl (by kernel_rfl) (by kernel_rfl) (by kernel_rfl) (fun _ _ _ h => h) (Or.inr ⟨by kernel_rfl, rfl⟩) hS ?_
        refine wpAnyH_take (i := 22) (v := undef) rfl (by kernel_rfl) (by kernel_rfl) (by kernel_rfl) (fun _ _ _ h => h) (Or.inr ⟨by kernel_rfl, rfl⟩) hS ?_
        refine wpAnyH_take (i := 23) (v := (.bool false)) rfl (by kernel_rfl) (by kernel_rfl) (by kernel_rfl) (fun _ _ _ h => h) (Or.inl ⟨by kernel_rfl, fun w hS => by obtain ⟨s0, s1, s2, s3, s4, s5, s6, s7⟩ := hS; go_simp⟩) hS ?_
        refine wpAnyH_ready (rs := [24]) (by kernel_rfl) (by simp) ?_
        refine AllReadyH.cons rfl (fun K hK => ?_) AllReadyH.nil
        go_simp
        refine hK.out _ _ hS (fun hS => ?_)
        clear hK
        refine wpAnyH_done (by kernel_rfl) ?_ _
        go_wp2
        go_ret
        exact ⟨by rw [HT.out]; rfl, B1.trans (hS.2.2.2.2.2.2.2.mono B1.size)⟩
end Go.Proofs.Ytlhfdgeknpmdfaa
