/- ClientLies for every input: what it answers. -/
import Derived.Test.YtgjcdlifgaclmaaClX
namespace Go.Proofs.Ytgjcdlifgaclmaa
open Go.RowKit
set_option linter.unusedSimpArgs false
set_option linter.unusedVariables false

variable {p b x y : Nat} {T : List ByteArray} {S : List (Int × ByteArray)} {q tm tc : Nat} {av : Value} {C : Cs} {w0 : World}
/-- A client that waits, and has heard of replicas below n alone, m of whom at least told the truth. -/
structure Lied (C : Cs) (f n m : Nat) (t : ByteArray) : Prop where
  fix : C.cf = f ∧ C.id = 0 ∧ C.stamp = 1
  fit : 1 ≤ f ∧ f ≤ 4
  asked : ¬ C.asked = ⟨#[]⟩
  ans : C.ans = []
  keys : (C.told.map fun z => z.1.toNat).Nodup
  rng : ∀ z ∈ C.told, 0 ≤ z.1 ∧ z.1 < n
  top : n ≤ 3 * f + 1
  most : ∀ u, alk C.told u ≤ f
  least : m ≤ alk C.told t
theorem Lied.waits {f n m : Nat} {t : ByteArray} (h : Lied C f n m t) : C.waits = true := by unfold Cs.waits; exact decide_eq_true h.asked
theorem Lied.inv {f n m : Nat} {t : ByteArray} (h : Lied C f n m t) : CInv C :=
  ⟨h.keys, fun z hz => by have := h.rng z hz; have := h.top; rw [h.fix.1]; omega, by rw [h.fix.1]; have := h.fit; omega⟩
theorem Lied.len {f n m : Nat} {t : ByteArray} (h : Lied C f n m t) : C.told.length ≤ n := by
  have h1 := nodup_short (m := n) h.keys (fun i hi => by
    obtain ⟨z, hz, rfl⟩ := List.mem_map.1 hi
    have := h.rng z hz
    omega)
  simpa using h1
theorem alk_le (l : Rps) (u : ByteArray) : alk l u ≤ l.length := List.countP_le_length
theorem alk_snoc (l : Rps) (z : Int × ByteArray) (u : ByteArray) : alk (l ++ [z]) u = alk l u + if z.2 = u then 1 else 0 := by
  unfold alk
  rw [List.countP_append]
  by_cases h : z.2 = u <;> simp [h]
/-- A lie of one of the first f: whatever it is, the client waits on. -/
theorem Lied.lie {f m : Nat} {t : ByteArray} (h : Lied C f f m t) (who : Int) (h0 : 0 ≤ who) (h1 : who < f) (u : ByteArray) : Lied (C.hears who 0 1 u) f f 0 t := by
  unfold Cs.hears
  split
  · rename_i ht
    unfold Cs.takes at ht
    simp only [Bool.and_eq_true, decide_eq_true_eq] at ht
    have hg := rgot_false ht.2.2.2
    have hk : ((C.told ++ [(who, u)]).map fun z => z.1.toNat).Nodup := by
      simp only [List.map_append, List.map_cons, List.map_nil]
      rw [List.nodup_append]
      refine ⟨h.keys, by simp, fun a ha d hd e => ?_⟩
      obtain ⟨z, hz, rfl⟩ := List.mem_map.1 ha
      simp at hd
      have h1 := hg z hz
      have h2 := h.rng z hz
      omega
    have hr : ∀ z ∈ C.told ++ [(who, u)], 0 ≤ z.1 ∧ z.1 < (f : Int) := by
      intro z hz
      rcases List.mem_append.1 hz with h2 | h2
      · exact h.rng z h2
      · simp at h2; subst h2; exact ⟨h0, h1⟩
    have hl : (C.told ++ [(who, u)]).length ≤ f := by
      have h2 := nodup_short (m := f) hk (fun i hi => by
        obtain ⟨z, hz, rfl⟩ := List.mem_map.1 hi
        have := hr z hz
        omega)
      simpa using h2
    have hm : ∀ v, alk (C.told ++ [(who, u)]) v ≤ f := fun v => Nat.le_trans (alk_le _ _) hl
    rw [hear_no C (who, u) (by have := hm u; rw [h.fix.1]; simp only []; omega)]
    exact ⟨h.fix, h.fit, h.asked, h.ans, hk, hr, h.top, hm, Nat.zero_le _⟩
  · exact ⟨h.fix, h.fit, h.asked, h.ans, h.keys, h.rng, h.top, h.most, Nat.zero_le _⟩
/-- Behind the answer. -/
structure Told1 (C : Cs) (t : ByteArray) : Prop where
  asked : C.asked = ⟨#[]⟩
  ans : C.ans = [(1, t)]
  inv : CInv C
theorem Told1.waits {t : ByteArray} (h : Told1 C t) : C.waits = false := by unfold Cs.waits; rw [h.asked]; decide
theorem Told1.deaf {t : ByteArray} (h : Told1 C t) (who c st : Int) (u : ByteArray) : C.hears who c st u = C := by
  have e : C.takes who c st = false := by unfold Cs.takes; rw [h.waits]; rfl
  unfold Cs.hears; rw [e]; rfl
/-- The truth of one more. -/
theorem Lied.truth {f n m : Nat} {t : ByteArray} (h : Lied C f n m t) (hn : n < 3 * f + 1) : Lied (C.hears n 0 1 t) f (n + 1) (m + 1) t ∨ Told1 (C.hears n 0 1 t) t := by
  have hg : rgot C.told n = false := by
    unfold rgot
    rw [List.any_eq_false]
    intro z hz
    have := h.rng z hz
    simp
    omega
  have e : C.takes n 0 1 = true := by
    unfold Cs.takes
    rw [h.waits, Bool.true_and]
    exact decide_eq_true ⟨by rw [h.fix.1]; omega, ⟨h.fix.2.1.symm, h.fix.2.2.symm⟩, hg⟩
  have ha : alk (C.told ++ [((n : Int), t)]) t = alk C.told t + 1 := by rw [alk_snoc, if_pos rfl]
  unfold Cs.hears
  rw [e, if_pos rfl]
  by_cases hgt : C.cf < (alk (C.told ++ [((n : Int), t)]) t : Int)
  · right
    rw [hear_yes C ((n : Int), t) hgt]
    exact ⟨rfl, by show C.ans ++ [(C.stamp, t)] = _; rw [h.ans, h.fix.2.2]; rfl, ⟨by simp, fun z hz => absurd hz List.not_mem_nil, by show 1 ≤ C.cf ∧ C.cf ≤ 4; rw [h.fix.1]; have := h.fit; omega⟩⟩
  · left
    rw [hear_no C ((n : Int), t) hgt]
    have hm : ∀ u, alk (C.told ++ [((n : Int), t)]) u ≤ f := fun u => by
      by_cases hu : t = u
      · subst hu; rw [h.fix.1] at hgt; omega
      · rw [alk_snoc, if_neg hu]; exact h.most u
    refine ⟨h.fix, h.fit, h.asked, h.ans, ?_, ?_, by omega, hm, ?_⟩
    · simp only [List.map_append, List.map_cons, List.map_nil]
      rw [List.nodup_append]
      refine ⟨h.keys, by simp, fun a ha d hd e => ?_⟩
      obtain ⟨z, hz, rfl⟩ := List.mem_map.1 ha
      simp at hd
      have h2 := h.rng z hz
      omega
    · intro z hz
      rcases List.mem_append.1 hz with h2 | h2
      · have := h.rng z h2; omega
      · simp at h2; subst h2; simp only []; omega
    · have := h.least
      show m + 1 ≤ alk (C.told ++ [((n : Int), t)]) t
      omega
theorem Lied.not_all {f n m : Nat} {t : ByteArray} (h : Lied C f n m t) (hm : f < m) : False := by
  have := h.least
  have := h.most t
  omega
-- THE WALK
set_option maxHeartbeats 8000000 in
set_option maxRecDepth 100000 in
theorem lies_calls (faults : Int) (v : Value) (l : List Ac) (truth : ByteArray) (w : World) (hl : Acs w v l) (hz : l.length * 40 ≤ 140737488351232) (htz : truth.size ≤ 140737488351232) : Calls Try.prog 3 #[.int .i64 faults, v, .string truth] w fun e w' => e = .returned (.bool true) ∧ Below w.heap.size w w' := by
  obtain ⟨a, cap, rfl, hc⟩ := hl.any
  have HC : Hid _ := hc
  have HNB : Hid _ := newBook_calls w
  have HAw : Hid _ := awake_calls
  have HCf : Hid _ := fun wx => config_calls faults wx
  have har := arn_range faults 4 (by omega)
  obtain ⟨f, hf⟩ : ∃ f : Nat, 1 + arn faults 4 = (f : Int) := ⟨(1 + arn faults 4).toNat, by omega⟩
  rw [hf] at HCf
  have hf1 : 1 ≤ f ∧ f ≤ 4 := by omega
  have hz2 : l.length ≤ 3518437208781 := by omega
  clear hl hc hz har hf
  go_enter Try.func3, Try.ntmps3
  go_wp2_with fail
  refine Calls.mono HNB.out ?_
  rintro e w1 ⟨p, b, x, y, rfl, K1, b1, hp, hb, hx, hy⟩
  go_wp2_with fail
  refine (HCf.out _).mono ?_
  rintro e w2 ⟨rfl, b2⟩
  obtain ⟨W3, hW3, X3, B3⟩ : ∃ W3, w2.alloc (.cells #[.int .i64 (f : Int), .int .i64 3, .int .i64 2, .int .i64 5] 26) = W3 ∧ Blk W3 w2.heap.size #[.int .i64 (f : Int), .int .i64 3, .int .i64 2, .int .i64 5] 26 ∧ Below w2.heap.size w2 W3 := ⟨_, rfl, blk_new _ _ _ _ rfl, by go_grown⟩
  have hGi : (Try.prog.info? 26).map (·.size) = some (#[.int .i64 (f : Int), .int .i64 3, .int .i64 2, .int .i64 5] : Array Value).size := by kernel_rfl
  have hfit : fitsB f 3 2 5 = true := by unfold fitsB inB; simp; omega
  have HNw : Hid _ := new_ok f 3 2 5 0 w W3 (chain (chain b1 b2) B3) ⟨hp, hb, hx, hy⟩ ((K1.below b2).below B3) (by decide) hfit (by decide) (by decide)
  obtain ⟨cb, hcb⟩ : ∃ cb, w2.heap.size = cb := ⟨_, rfl⟩
  rw [hcb] at X3
  have HCB : Hid _ := hcb
  go_wp2_with ((with_reducible refine rd_row (ty := 26) X3 Try.underlying26 rfl hGi ?_ ?_); rfl)
  refine Calls.mono HNw.out ?_
  rintro e w3 ⟨q, tm, rfl, H3, b3⟩
  have X4 := X3.below b3
  have HB3 : Hid _ := H3.below
  clear HNw HNB HCf X3
  by_cases ht : 256 < truth.size
  · have hd : decide (256 < (truth.size : Int)) = true := decide_eq_true (by omega)
    go_wp2_with fail
    refine Calls.mono (HAw.out _) ?_
    rintro e w9 ⟨rfl, b9⟩
    go_wp2
    go_ret
    exact ⟨rfl, HB3.out.trans (b9.mono HB3.out.size)⟩
  · have hd : decide (256 < (truth.size : Int)) = false := decide_eq_false (by omega)
    have HRq : Hid _ := request_ok exOp w3 H3 (by decide) f rfl (by omega) (by simp [cs0]) (by simp [cs0]) (by decide) rfl
    generalize hs : (⟨(sgB (sgM [] (100 + (cs0 f 3 2 5 0).id) (smB 1 (cs0 f 3 2 5 0).id ((cs0 f 3 2 5 0).stamp + 1) exOp))).toArray⟩ : ByteArray) = s at HRq
    have hsn : ¬ s = ⟨#[]⟩ := by rw [← hs]; exact sgB_full _
    have hsl := note_len ([] : List (Int × ByteArray)) (100 + (cs0 f 3 2 5 0).id, byS (smB 1 (cs0 f 3 2 5 0).id ((cs0 f 3 2 5 0).stamp + 1) exOp))
    generalize note ([] : List (Int × ByteArray)) (100 + (cs0 f 3 2 5 0).id, byS (smB 1 (cs0 f 3 2 5 0).id ((cs0 f 3 2 5 0).stamp + 1) exOp)) = S1 at HRq hsl
    have HL1 : Hid (S1.length ≤ 1) := hsl
    have HL0 : Hid (Lied ((cs0 f 3 2 5 0).ask s) f f 0 truth) := ⟨⟨rfl, rfl, rfl⟩, hf1, hsn, rfl, by simp [cs0, Cs.ask], fun z hz => by simp [cs0, Cs.ask] at hz, by omega, fun u => Nat.zero_le _, Nat.zero_le _⟩
    generalize (cs0 f 3 2 5 0).ask s = C0 at *
    clear hs hsl hsn
    go_wp2_with fail
    refine Calls.mono HRq.out ?_
    rintro e w4 ⟨v, rfl, -, H4, k4⟩
    have X5 := k4.blk _ _ _ (by decide) (by simp [Value.ownBlock]) X4
    clear HRq X4
    go_wp2
    go_loopw [11] (fun iv wr => ∃ (k : Nat) (S : List (Int × ByteArray)) (tc : Nat) (av : Value) (C : Cs), k ≤ l.length ∧ k ≤ 60 ∧ iv = .int .i64 k ∧ Hid (S.length ≤ k + 1) ∧ Hid (Lied C f f 0 truth) ∧ Hid (St w wr p b x y [] S q tm tc av C) ∧ Blk wr cb #[.int .i64 (f : Int), .int .i64 3, .int .i64 2, .int .i64 5] 26) (fun iv _ => l.length - (intOf iv).toNat)
    case atStart => exact ⟨0, S1, 0, .slice none 0 0, _, Nat.zero_le _, Nat.zero_le _, rfl, HL1, HL0, H4, X5⟩
    case round =>
      obtain ⟨k, S, tc, av, C, hk, hk60, rfl, HSl, HL, HS, XC⟩ := hrel
      by_cases hin : k < l.length ∧ k < 60
      · have hlt := hin.1
        have hlt6 := hin.2
        have hd1 : decide ((k : Int) < l.length) = true := decide_eq_true (by omega)
        have hd2 : decide ((k : Int) < 60) = true := decide_eq_true (by omega)
        obtain ⟨g, off, rfl, hcap, hg, hcell, hfit⟩ := HC.out k hlt
        obtain ⟨ac, hac⟩ : ∃ ac, l[k] = ac := ⟨_, rfl⟩
        rw [hac] at hcell hfit
        have hfit' : ac.text.size ≤ 140737488351232 := hfit
        have hB : Below w.heap.size w wr := HS.out.below
        have t3 : wr.cell? ⟨g, off + k * 4 + 3, none⟩ = some (.string ac.text) := (hB.cell (p := ⟨g, off + k * 4 + 3, none⟩) hg).trans (hcell 3 _ rfl)
        have HCE : Hid (∀ j u, (Ac.cells ac)[j]? = some u → w.cell? ⟨g, off + k * 4 + j, none⟩ = some u) := hcell
        clear hcell hin hac hfit
        by_cases ho : ac.text.size ≤ 256
        · have hd3 : decide ((ac.text.size : Int) ≤ 256) = true := decide_eq_true (by omega)
          have hrg := arn_range ac.frm f (by omega)
          have HRg : Hid (0 ≤ arn ac.frm f ∧ arn ac.frm f < f) := hrg
          have HSG : Hid (isSg (arn ac.frm f) = true) := by show _ = _; unfold isSg; simp only [decide_eq_true_eq]; omega
          have HR : Hid _ := fun wx (hx : Book wx p b x y [] S) => reply_calls (arn ac.frm f) 0 1 ac.text wx hx (by have := HSl.out; omega) HSG.out (by decide) (by decide) ho
          clear hrg
          go_wp2_with fail
          clear t3
          have HSC : Hid (∀ wx, Below w.heap.size w wx → Blk wx cb #[.int .i64 (f : Int), .int .i64 3, .int .i64 2, .int .i64 5] 26 → (fun wx => wx.cell? ⟨g, off + k * 4 + 1, none⟩ = some (.int .i64 ac.frm) ∧ wx.cell? ⟨g, off + k * 4 + 3, none⟩ = some (.string ac.text) ∧ wx.cell? ⟨cb, 0, none⟩ = some (.int .i64 (f : Int))) wx) := fun wx hb X => ⟨(hb.cell (p := ⟨g, off + k * 4 + 1, none⟩) hg).trans (HCE.out 1 _ rfl), (hb.cell (p := ⟨g, off + k * 4 + 3, none⟩) hg).trans (HCE.out 3 _ rfl), X.cell rfl⟩
          refine wp_region_held_drew (S := (fun wx => wx.cell? ⟨g, off + k * 4 + 1, none⟩ = some (.int .i64 ac.frm) ∧ wx.cell? ⟨g, off + k * 4 + 3, none⟩ = some (.string ac.text) ∧ wx.cell? ⟨cb, 0, none⟩ = some (.int .i64 (f : Int)))) (by kernel_rfl) (HSC.out _ (HS.out.below.trans (Below.refl _ _).drew) XC.drew) (fun hS => ?_)
          refine wpAnyH_take (i := 0) (v := (.pointer (some ⟨q, 0, none⟩))) rfl (by kernel_rfl) (by kernel_rfl) (by kernel_rfl) (fun _ _ _ h => h) (Or.inl ⟨by kernel_rfl, fun w hS => by obtain ⟨s0, s1, s2⟩ := hS; go_simp⟩) hS ?_
          refine wpAnyH_take (i := 1) (v := (.pointer (some ⟨p, 0, none⟩))) rfl (by kernel_rfl) (by kernel_rfl) (by kernel_rfl) (fun _ _ _ h => h) (Or.inl ⟨by kernel_rfl, fun w hS => by obtain ⟨s0, s1, s2⟩ := hS; go_simp⟩) hS ?_
          refine wpAnyH_take (i := 2) (v := (.slice (some ⟨g, off, none⟩) l.length cap)) rfl (by kernel_rfl) (by kernel_rfl) (by kernel_rfl) (fun _ _ _ h => h) (Or.inl ⟨by kernel_rfl, fun w hS => by obtain ⟨s0, s1, s2⟩ := hS; go_simp⟩) hS ?_
          refine wpAnyH_take (i := 3) (v := (.int .i64 (k : Int))) rfl (by kernel_rfl) (by kernel_rfl) (by kernel_rfl) (fun _ _ _ h => h) (Or.inl ⟨by kernel_rfl, fun w hS => by obtain ⟨s0, s1, s2⟩ := hS; go_simp⟩) hS ?_
          refine wpAnyH_take (i := 4) (v := (.pointer (some ⟨g, off + k * 4, none⟩))) rfl (by kernel_rfl) (by kernel_rfl) (by kernel_rfl) (fun _ _ _ h => h) (Or.inl ⟨by kernel_rfl, fun w hS => by obtain ⟨s0, s1, s2⟩ := hS; go_simp⟩) hS ?_
          refine wpAnyH_take (i := 5) (v := (.pointer (some ⟨g, off + k * 4 + 1, none⟩))) rfl (by kernel_rfl) (by kernel_rfl) (by kernel_rfl) (fun _ _ _ h => h) (Or.inl ⟨by kernel_rfl, fun w hS => by obtain ⟨s0, s1, s2⟩ := hS; go_simp⟩) hS ?_
          refine wpAnyH_take (i := 6) (v := (.int .i64 ac.frm)) rfl (by kernel_rfl) (by kernel_rfl) (by kernel_rfl) (fun _ _ _ h => h) (Or.inl ⟨by kernel_rfl, fun w hS => by obtain ⟨s0, s1, s2⟩ := hS; go_simp⟩) hS ?_
          refine wpAnyH_take (i := 7) (v := (.pointer (some ⟨cb, 0, none⟩))) rfl (by kernel_rfl) (by kernel_rfl) (by kernel_rfl) (fun _ _ _ h => h) (Or.inl ⟨by kernel_rfl, fun w hS => by obtain ⟨s0, s1, s2⟩ := hS; go_simp⟩) hS ?_
          refine wpAnyH_take (i := 8) (v := (.int .i64 (f : Int))) rfl (by kernel_rfl) (by kernel_rfl) (by kernel_rfl) (fun _ _ _ h => h) (Or.inl ⟨by kernel_rfl, fun w hS => by obtain ⟨s0, s1, s2⟩ := hS; go_simp⟩) hS ?_
          refine wpAnyH_take (i := 10) (v := (.slice (some ⟨g, off, none⟩) l.length cap)) rfl (by kernel_rfl) (by kernel_rfl) (by kernel_rfl) (fun _ _ _ h => h) (Or.inl ⟨by kernel_rfl, fun w hS => by obtain ⟨s0, s1, s2⟩ := hS; go_simp⟩) hS ?_
          refine wpAnyH_take (i := 11) (v := (.int .i64 (k : Int))) rfl (by kernel_rfl) (by kernel_rfl) (by kernel_rfl) (fun _ _ _ h => h) (Or.inl ⟨by kernel_rfl, fun w hS => by obtain ⟨s0, s1, s2⟩ := hS; go_simp⟩) hS ?_
          refine wpAnyH_take (i := 12) (v := (.pointer (some ⟨g, off + k * 4, none⟩))) rfl (by kernel_rfl) (by kernel_rfl) (by kernel_rfl) (fun _ _ _ h => h) (Or.inl ⟨by kernel_rfl, fun w hS => by obtain ⟨s0, s1, s2⟩ := hS; go_simp⟩) hS ?_
          refine wpAnyH_take (i := 13) (v := (.pointer (some ⟨g, off + k * 4 + 3, none⟩))) rfl (by kernel_rfl) (by kernel_rfl) (by kernel_rfl) (fun _ _ _ h => h) (Or.inl ⟨by kernel_rfl, fun w hS => by obtain ⟨s0, s1, s2⟩ := hS; go_simp⟩) hS ?_
          refine wpAnyH_take (i := 14) (v := (.string ac.text)) rfl (by kernel_rfl) (by kernel_rfl) (by kernel_rfl) (fun _ _ _ h => h) (Or.inl ⟨by kernel_rfl, fun w hS => by obtain ⟨s0, s1, s2⟩ := hS; go_simp⟩) hS ?_
          refine wpAnyH_ready (rs := [9]) (by kernel_rfl) (by simp) ?_
          refine AllReadyH.cons rfl (fun K hK => ?_) AllReadyH.nil
          go_simp
          refine Calls.mono (around_calls ac.frm f _ (by omega) (by omega)) ?_
          rintro e wa ⟨rfl, rfl⟩
          refine hK.out _ _ (HSC.out _ (HS.out.below.trans (Below.refl _ _).drew) XC.drew) (fun hS => ?_)
          clear hK
          refine wpAnyH_ready (rs := [15]) (by kernel_rfl) (by simp) ?_
          refine AllReadyH.cons rfl (fun K hK => ?_) AllReadyH.nil
          go_simp
          refine Calls.mono (HR.out _ (HS.out.book.below (Below.refl _ _).drew)) ?_
          rintro e w5 ⟨rfl, K5, o5⟩
          have od : Off2 x y wr w5 := (Off2.of_below (Below.refl _ _).drew).trans o5
          have H5 := HS.out.off2 K5 od
          have X5 : Blk w5 cb #[.int .i64 (f : Int), .int .i64 3, .int .i64 2, .int .i64 5] 26 := (Kpt.of_off2 (v := .slice none 0 0) HS.out.book od).blk _ _ _ (by decide) (by simp [Value.ownBlock]) XC
          refine hK.out _ _ (HSC.out _ H5.below X5) (fun hS => ?_)
          clear hK
          refine wpAnyH_ready (rs := [16]) (by kernel_rfl) (by simp) ?_
          refine AllReadyH.cons rfl (fun K hK => ?_) AllReadyH.nil
          go_simp
          refine Calls.mono (rcv_reply (arn ac.frm f) 0 1 ac.text w5 H5 (by have := HSl.out; omega) HSG.out (by decide) (by decide) (by omega) HL.out.inv (by rw [HL.out.ans]; decide)) ?_
          rintro e w6 ⟨rfl, tc6, av6, H6, k6⟩
          have X6 := k6.1.blk _ _ _ (by decide) (H5.apart X5 (fun cur e => by cases e)) X5
          refine hK.out _ _ (HSC.out _ H6.below X6) (fun hS => ?_)
          clear hK
          refine wpAnyH_done (by kernel_rfl) ?_ _
          clear hS HSC
          have HN6 : Hid (Lied (C.hears (arn ac.frm f) 0 1 ac.text) f f 0 truth) := HL.out.lie (arn ac.frm f) HRg.out.1 HRg.out.2 ac.text
          have hl6 := note_len S (arn ac.frm f, byS (smB 10 0 1 ac.text))
          have HL6 : Hid ((note S (arn ac.frm f, byS (smB 10 0 1 ac.text))).length ≤ k + 1 + 1) := by show _ ≤ _; have := HSl.out; omega
          have HH6 : Hid _ := H6
          clear hl6 H6 H5 K5 o5 od
          go_simp
          go_wp2
          exact ⟨⟨k + 1, _, tc6, av6, _, by omega, by omega, by norm_cast, HL6, HN6, HH6, X6⟩, by simp [intOf]; omega⟩
        · have hd3 : decide ((ac.text.size : Int) ≤ 256) = false := decide_eq_false (by omega)
          go_wp2
          exact ⟨⟨k + 1, S, tc, av, C, by omega, by omega, by norm_cast, by show _ ≤ _; have := HSl.out; omega, HL, HS, XC⟩, by simp [intOf]; omega⟩
      · have HA : Hid _ := answers_calls wr HS.out (by rw [HL.out.ans]; decide)
        rw [HL.out.ans] at HA
        have HWt : Hid _ := fun wx (hx : St w wx p b x y [] S q tm tc av C) => waits_calls wx hx
        rw [HL.out.waits] at HWt
        have hk2 : ¬ k < l.length ∨ ¬ k < 60 := by omega
        by_cases hlt : k < l.length
        · have hd1 : decide ((k : Int) < l.length) = true := decide_eq_true (by omega)
          have hd2 : decide ((k : Int) < 60) = false := decide_eq_false (by omega)
          go_wp2_with fail
          refine Calls.mono HA.out ?_
          rintro e w5 ⟨v5, rfl, ho5, b5⟩
          have H5 := HS.out.keep b5
          have X6 := XC.below b5
          obtain ⟨a5, c5, rfl⟩ : ∃ a5 c5, v5 = .slice a5 0 c5 := by
            rcases ho5.2 with ⟨rfl, _⟩ | ⟨g, cap, cur, rfl, _⟩
            · exact ⟨_, _, rfl⟩
            · exact ⟨_, _, rfl⟩
          clear HA ho5
          go_wp2_with fail
          refine Calls.mono (HWt.out _ H5) ?_
          rintro e w5 ⟨rfl, rfl⟩
          have q0 : w5.cell? ⟨cb, 0, none⟩ = some (.int .i64 (f : Int)) := X6.cell rfl
          have H5' : Hid _ := H5
          have HSL5 : Hid (S.length ≤ 61) := by show _ ≤ _; have := HSl.out; omega
          have HL5 : Hid (Lied C f f 0 truth ∨ Told1 C truth) := Or.inl HL.out
          clear HWt H5
          go_wp2
          go_loopw [12] (fun iv wr => ∃ (n m : Nat) (S : List (Int × ByteArray)) (tc : Nat) (av : Value) (C : Cs), iv = .int .i64 n ∧ n = f + m ∧ m ≤ f + 1 ∧ Hid (S.length ≤ 61 + m) ∧ Hid (Lied C f n m truth ∨ Told1 C truth) ∧ Hid (St w wr p b x y [] S q tm tc av C) ∧ Blk wr cb #[.int .i64 (f : Int), .int .i64 3, .int .i64 2, .int .i64 5] 26) (fun iv _ => 2 * f + 1 - (intOf iv).toNat)
          case atStart => exact ⟨f, 0, S, tc, av, C, rfl, by omega, by omega, HSL5, HL5, H5', X6⟩
          case round =>
            obtain ⟨n, m, S2, tc2, av2, C2, rfl, hnm, hm, HSl2, HL2, HS2, XC2⟩ := hrel
            have q2 : wr.cell? ⟨cb, 0, none⟩ = some (.int .i64 (f : Int)) := XC2.cell rfl
            have ew : IntKind.i64.wrap (2 * (f : Int)) = 2 * (f : Int) := wrapC (by omega) (by omega)
            have HNM : Hid _ := hnm
            have hn9 : n ≤ 9 := by omega
            have ew2 : IntKind.i64.wrap ((n : Int) + 1) = (n : Int) + 1 := wrapC (by omega) (by omega)
            by_cases hle : n ≤ 2 * f
            · have hd5 : decide ((n : Int) ≤ 2 * (f : Int)) = true := decide_eq_true (by omega)
              have hinv : CInv C2 := by rcases HL2.out with h | h; exact h.inv; exact h.inv
              have hans : C2.ans.length < 100000 := by rcases HL2.out with h | h; (rw [h.ans]; simp); (rw [h.ans]; simp)
              have hsg : isSg (n : Int) = true := by unfold isSg; simp only [decide_eq_true_eq]; omega
              have HR : Hid _ := reply_calls (n : Int) 0 1 truth wr HS2.out.book (by have := HSl2.out; omega) hsg (by decide) (by decide) (by omega)
              have HN : Hid (Lied (C2.hears n 0 1 truth) f (n + 1) (m + 1) truth ∨ Told1 (C2.hears n 0 1 truth) truth) := by
                rcases HL2.out with h | h
                · exact h.truth (by omega)
                · right; rw [h.deaf]; exact h
              clear hnm
              go_wp2_with fail
              refine Calls.mono HR.out ?_
              rintro e w6 ⟨rfl, K6, o6⟩
              have H6 := HS2.out.off2 K6 o6
              have X7 := (Kpt.of_off2 (v := .slice none 0 0) HS2.out.book o6).blk _ _ _ (by decide) (by simp [Value.ownBlock]) XC2
              have HV : Hid _ := rcv_reply (n : Int) 0 1 truth w6 H6 (by have := HSl2.out; omega) hsg (by decide) (by decide) (by omega) hinv hans
              clear HR
              go_wp2_with fail
              refine Calls.mono HV.out ?_
              rintro e w7 ⟨rfl, tc7, av7, H7, k7⟩
              have X8 := k7.1.blk _ _ _ (by decide) (H6.apart X7 (fun cur e => by cases e)) X7
              have hl7 := note_len S2 ((n : Int), byS (smB 10 0 1 truth))
              have HL7 : Hid ((note S2 ((n : Int), byS (smB 10 0 1 truth))).length ≤ 61 + (m + 1)) := by show _ ≤ _; have := HSl2.out; omega
              have HH7 : Hid _ := H7
              clear hl7 HV H6 H7 K6 o6
              go_wp2
              exact ⟨⟨n + 1, m + 1, _, tc7, av7, _, by norm_cast, by have := HNM.out; omega, by have := HNM.out; omega, HL7, HN, HH7, X8⟩, by simp [intOf]; omega⟩
            · have hd5 : decide ((n : Int) ≤ 2 * (f : Int)) = false := decide_eq_false (by omega)
              have hT : Told1 C2 truth := by
                rcases HL2.out with h | h
                · exact (h.not_all (by omega)).elim
                · exact h
              have HA : Hid _ := answers_calls wr HS2.out (by rw [hT.ans]; simp)
              rw [hT.ans] at HA
              have HWt : Hid _ := fun wx (hx : St w wx p b x y [] S2 q tm tc2 av2 C2) => waits_calls wx hx
              rw [hT.waits] at HWt
              clear hnm
              go_wp2_with fail
              refine Calls.mono HA.out ?_
              rintro e w6 ⟨v6, rfl, ho6, b6⟩
              have H6 := HS2.out.keep b6
              have hlen : ([((1 : Int), truth)] : Rps).length = 1 := rfl
              rw [hlen] at ho6
              obtain ⟨g6, cap6, rfl, hg6, hcap6, hcell6⟩ := own_at ho6 (by decide)
              have r0 : w6.cell? ⟨g6, 0, none⟩ = some (.int .i64 1) := hcell6 0 _ rfl
              have r1 : w6.cell? ⟨g6, 1, none⟩ = some (.string truth) := hcell6 1 _ rfl
              have req : (truth.toList == truth.toList) = true := by simp
              have HB6 : Hid _ := H6.below
              clear hcell6 ho6 HA
              go_wp2_with fail
              refine Calls.mono (HWt.out _ H6) ?_
              rintro e w6 ⟨rfl, rfl⟩
              go_wp2_with fail
              refine Calls.mono (HAw.out _) ?_
              rintro e w9 ⟨rfl, b9⟩
              go_wp2
              go_ret
              exact ⟨rfl, HB6.out.trans (b9.mono HB6.out.size)⟩
        · have hd1 : decide ((k : Int) < l.length) = false := decide_eq_false (by omega)
          go_wp2_with fail
          refine Calls.mono HA.out ?_
          rintro e w5 ⟨v5, rfl, ho5, b5⟩
          have H5 := HS.out.keep b5
          have X6 := XC.below b5
          obtain ⟨a5, c5, rfl⟩ : ∃ a5 c5, v5 = .slice a5 0 c5 := by
            rcases ho5.2 with ⟨rfl, _⟩ | ⟨g, cap, cur, rfl, _⟩
            · exact ⟨_, _, rfl⟩
            · exact ⟨_, _, rfl⟩
          clear HA ho5
          go_wp2_with fail
          refine Calls.mono (HWt.out _ H5) ?_
          rintro e w5 ⟨rfl, rfl⟩
          have q0 : w5.cell? ⟨cb, 0, none⟩ = some (.int .i64 (f : Int)) := X6.cell rfl
          have H5' : Hid _ := H5
          have HSL5 : Hid (S.length ≤ 61) := by show _ ≤ _; have := HSl.out; omega
          have HL5 : Hid (Lied C f f 0 truth ∨ Told1 C truth) := Or.inl HL.out
          clear HWt H5
          go_wp2
          go_loopw [12] (fun iv wr => ∃ (n m : Nat) (S : List (Int × ByteArray)) (tc : Nat) (av : Value) (C : Cs), iv = .int .i64 n ∧ n = f + m ∧ m ≤ f + 1 ∧ Hid (S.length ≤ 61 + m) ∧ Hid (Lied C f n m truth ∨ Told1 C truth) ∧ Hid (St w wr p b x y [] S q tm tc av C) ∧ Blk wr cb #[.int .i64 (f : Int), .int .i64 3, .int .i64 2, .int .i64 5] 26) (fun iv _ => 2 * f + 1 - (intOf iv).toNat)
          case atStart => exact ⟨f, 0, S, tc, av, C, rfl, by omega, by omega, HSL5, HL5, H5', X6⟩
          case round =>
            obtain ⟨n, m, S2, tc2, av2, C2, rfl, hnm, hm, HSl2, HL2, HS2, XC2⟩ := hrel
            have q2 : wr.cell? ⟨cb, 0, none⟩ = some (.int .i64 (f : Int)) := XC2.cell rfl
            have ew : IntKind.i64.wrap (2 * (f : Int)) = 2 * (f : Int) := wrapC (by omega) (by omega)
            have HNM : Hid _ := hnm
            have hn9 : n ≤ 9 := by omega
            have ew2 : IntKind.i64.wrap ((n : Int) + 1) = (n : Int) + 1 := wrapC (by omega) (by omega)
            by_cases hle : n ≤ 2 * f
            · have hd5 : decide ((n : Int) ≤ 2 * (f : Int)) = true := decide_eq_true (by omega)
              have hinv : CInv C2 := by rcases HL2.out with h | h; exact h.inv; exact h.inv
              have hans : C2.ans.length < 100000 := by rcases HL2.out with h | h; (rw [h.ans]; simp); (rw [h.ans]; simp)
              have hsg : isSg (n : Int) = true := by unfold isSg; simp only [decide_eq_true_eq]; omega
              have HR : Hid _ := reply_calls (n : Int) 0 1 truth wr HS2.out.book (by have := HSl2.out; omega) hsg (by decide) (by decide) (by omega)
              have HN : Hid (Lied (C2.hears n 0 1 truth) f (n + 1) (m + 1) truth ∨ Told1 (C2.hears n 0 1 truth) truth) := by
                rcases HL2.out with h | h
                · exact h.truth (by omega)
                · right; rw [h.deaf]; exact h
              clear hnm
              go_wp2_with fail
              refine Calls.mono HR.out ?_
              rintro e w6 ⟨rfl, K6, o6⟩
              have H6 := HS2.out.off2 K6 o6
              have X7 := (Kpt.of_off2 (v := .slice none 0 0) HS2.out.book o6).blk _ _ _ (by decide) (by simp [Value.ownBlock]) XC2
              have HV : Hid _ := rcv_reply (n : Int) 0 1 truth w6 H6 (by have := HSl2.out; omega) hsg (by decide) (by decide) (by omega) hinv hans
              clear HR
              go_wp2_with fail
              refine Calls.mono HV.out ?_
              rintro e w7 ⟨rfl, tc7, av7, H7, k7⟩
              have X8 := k7.1.blk _ _ _ (by decide) (H6.apart X7 (fun cur e => by cases e)) X7
              have hl7 := note_len S2 ((n : Int), byS (smB 10 0 1 truth))
              have HL7 : Hid ((note S2 ((n : Int), byS (smB 10 0 1 truth))).length ≤ 61 + (m + 1)) := by show _ ≤ _; have := HSl2.out; omega
              have HH7 : Hid _ := H7
              clear hl7 HV H6 H7 K6 o6
              go_wp2
              exact ⟨⟨n + 1, m + 1, _, tc7, av7, _, by norm_cast, by have := HNM.out; omega, by have := HNM.out; omega, HL7, HN, HH7, X8⟩, by simp [intOf]; omega⟩
            · have hd5 : decide ((n : Int) ≤ 2 * (f : Int)) = false := decide_eq_false (by omega)
              have hT : Told1 C2 truth := by
                rcases HL2.out with h | h
                · exact (h.not_all (by omega)).elim
                · exact h
              have HA : Hid _ := answers_calls wr HS2.out (by rw [hT.ans]; simp)
              rw [hT.ans] at HA
              have HWt : Hid _ := fun wx (hx : St w wx p b x y [] S2 q tm tc2 av2 C2) => waits_calls wx hx
              rw [hT.waits] at HWt
              clear hnm
              go_wp2_with fail
              refine Calls.mono HA.out ?_
              rintro e w6 ⟨v6, rfl, ho6, b6⟩
              have H6 := HS2.out.keep b6
              have hlen : ([((1 : Int), truth)] : Rps).length = 1 := rfl
              rw [hlen] at ho6
              obtain ⟨g6, cap6, rfl, hg6, hcap6, hcell6⟩ := own_at ho6 (by decide)
              have r0 : w6.cell? ⟨g6, 0, none⟩ = some (.int .i64 1) := hcell6 0 _ rfl
              have r1 : w6.cell? ⟨g6, 1, none⟩ = some (.string truth) := hcell6 1 _ rfl
              have req : (truth.toList == truth.toList) = true := by simp
              have HB6 : Hid _ := H6.below
              clear hcell6 ho6 HA
              go_wp2_with fail
              refine Calls.mono (HWt.out _ H6) ?_
              rintro e w6 ⟨rfl, rfl⟩
              go_wp2_with fail
              refine Calls.mono (HAw.out _) ?_
              rintro e w9 ⟨rfl, b9⟩
              go_wp2
              go_ret
              exact ⟨rfl, HB6.out.trans (b9.mono HB6.out.size)⟩
end Go.Proofs.Ytgjcdlifgaclmaa
