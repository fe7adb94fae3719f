/- The walk of ClockPlays. -/
import Derived.Test.YteinfckkpkbnlaaCkPb
import Derived.Test.YteinfckkpkbnlaaCkRl
namespace Go.Proofs.Yteinfckkpkbnlaa
open Go.RowKit
set_option linter.unusedSimpArgs false
set_option linter.unusedVariables false
/-- What stays at hand in the loop. -/
def Cor (w : World) (bb ga o : Nat) (A : Au) (R g cap : Nat) (x : Ac) (wx : World) : Prop :=
  Blk wx bb (rfA A R g cap) 30 ∧ (∀ j u, (Ac.cells x)[j]? = some u → wx.cell? ⟨ga, o + j, none⟩ = some u) ∧ Below w.heap.size w wx
variable {w : World} {p b bb ga o : Nat} {A : Au} {R g cap : Nat} {x : Ac} {rs : Nat → Value}
theorem Cor.keep {wx wy : World} (h : Cor w bb ga o A R g cap x wx) (hb : Below wx.heap.size wx wy) (hg : ga < w.heap.size) : Cor w bb ga o A R g cap x wy :=
  ⟨h.1.below hb, fun j u hu => (hb.cell (p := ⟨ga, o + j, none⟩) (Nat.lt_of_lt_of_le hg h.2.2.size)).trans (h.2.1 j u hu), h.2.2.trans (hb.mono h.2.2.size)⟩
theorem Cor.ofc {wx wy : World} (h : Cor w bb ga o A R g cap x wx) (ho : Ofc p b wx wy) (hg : ga < w.heap.size) (hp : w.heap.size ≤ p) (hb : w.heap.size ≤ b) (h1 : bb ≠ p) (h2 : bb ≠ b) : Cor w bb ga o A R g cap x wy :=
  ⟨h.1.ofc ho h1 h2, fun j u hu => keepOfc ho (h.2.1 j u hu) (Nat.lt_of_lt_of_le hg h.2.2.size) (by omega) (by omega), ho.below hp hb h.2.2 h.2.2.size⟩
theorem Cor.row {wx W : World} {k : Nat} {cs : Array Value} (h : Cor w bb ga o A R g cap x wx) (hW : wx.setRow k cs = W) (hk : w.heap.size ≤ k) (hg : ga < w.heap.size) (h1 : bb ≠ k) : Cor w bb ga o A R g cap x W := by
  have hb : ∀ j, j ≠ k → W.heap[j]? = wx.heap[j]? := fun j hj => by rw [← hW]; exact setRow_other wx k j cs hj
  refine ⟨(hb bb h1).trans h.1, fun j u hu => (World.cell?_of_block (w := wx) (a := ⟨ga, o + j, none⟩) (hb ga (by omega))).trans (h.2.1 j u hu), ?_⟩
  rw [← hW]
  exact below_setRow h.2.2 _ _ hk
theorem zero_box (w : World) : ∃ W, w.alloc (.cells #[.int .i64 0, .int .i64 0, .int .i64 0, .int .i64 0, .slice none 0 0] 30) = W ∧ Blk W w.heap.size #[.int .i64 0, .int .i64 0, .int .i64 0, .int .i64 0, .slice none 0 0] 30 ∧ Below w.heap.size w W :=
  ⟨_, rfl, blk_new _ _ _ _ rfl, by go_grown⟩
theorem lot_box (w : World) (s q d n : Int) : ∃ W, w.alloc (.cells #[.int .i64 s, .int .i64 q, .int .i64 d, .int .i64 n] 22) = W ∧ Blk W w.heap.size #[.int .i64 s, .int .i64 q, .int .i64 d, .int .i64 n] 22 ∧ Below w.heap.size w W :=
  ⟨_, rfl, blk_new _ _ _ _ rfl, by go_grown⟩
set_option maxRecDepth 100000 in
set_option maxHeartbeats 4000000 in
theorem plays_calls (v : Value) (ls : List Ac) (s q d n : Int) (w : World) (hl : Acs w v ls) (hz : ls.length * 24 ≤ 140737488351232) :
    Calls Try.prog 3 #[.agg #[.int .i64 s, .int .i64 q, .int .i64 d, .int .i64 n], v] w fun e w' => e = .returned (.bool true) ∧ Below w.heap.size w w' := by
  obtain ⟨W0, hW0, X0, B0⟩ := lot_box w s q d n
  have c0 : W0.cell? ⟨w.heap.size, 0, none⟩ = some (.int .i64 s) := X0.cell rfl
  have c1 : W0.cell? ⟨w.heap.size, 1, none⟩ = some (.int .i64 q) := X0.cell rfl
  have c2 : W0.cell? ⟨w.heap.size, 2, none⟩ = some (.int .i64 d) := X0.cell rfl
  have c3 : W0.cell? ⟨w.heap.size, 3, none⟩ = some (.int .i64 n) := X0.cell rfl
  obtain ⟨c, cap, rfl, hc⟩ := hl.any
  have HC : Hid _ := hc
  clear hc hl
  have hz0 : w.heap.size < W0.heap.size := X0.lt
  have HX0 : Hid _ := X0
  have HB0 : Hid _ := B0
  clear X0 B0
  by_cases hf : Au.fits s q d n
  · have HN : Hid _ := new_ok s q d n W0 hf
    have HR : Hid _ := fun wx => refnew_ok s q d n wx hf
    have HF : Hid (Au.new s q d n.toNat = runs (Au.new s q d n.toNat) (ls.take 0)) := rfl
    generalize Au.new s q d n.toNat = A0 at *
    clear hf
    go_enter Try.func3, Try.ntmps3
    go_wp2_with fail
    refine Calls.mono HN.out ?_
    rintro e w1 ⟨p, b, rfl, L1, b1, hp, hb⟩
    have z1 := b1.size
    have X1 := Blk.below HX0.out b1
    have d0 : w1.cell? ⟨w.heap.size, 0, none⟩ = some (.int .i64 s) := X1.cell rfl
    have d1 : w1.cell? ⟨w.heap.size, 1, none⟩ = some (.int .i64 q) := X1.cell rfl
    have d2 : w1.cell? ⟨w.heap.size, 2, none⟩ = some (.int .i64 d) := X1.cell rfl
    have d3 : w1.cell? ⟨w.heap.size, 3, none⟩ = some (.int .i64 n) := X1.cell rfl
    have HL1 : Hid _ := L1
    have HB1 : Hid (Below w.heap.size w w1) := HB0.out.trans (b1.mono (by omega))
    clear L1 b1 X1 c0 c1 c2 c3
    go_wp2_with fail
    refine Calls.mono (HR.out _) ?_
    rintro e w2 ⟨g, cp, rs, rfl, R2, b2⟩
    obtain ⟨W2, hW2, N2, B2⟩ := rf_box w2 A0 1 g cp
    have HN2 : Hid _ := N2
    have z2 := b2.size
    have hpl : p < w1.heap.size := HL1.out.blk.lt
    have hbl : b < w1.heap.size := HL1.out.row.lt
    have HL2 : Hid _ := Lc.below (Lc.below HL1.out b2) B2
    have HR2 : Hid _ := Rf.below R2 B2
    have HB2 : Hid (Below w.heap.size w W2) := HB1.out.trans ((b2.mono (by omega)).trans (B2.mono (by omega)))
    clear R2 b2 B2 N2 d0 d1 d2 d3 HL1 HB1 HN HR
    unfold rfV rfA at *
    go_wp2_with fail
    go_loopw [9] (fun i wr => ∃ (k R g cap : Nat) (rs : Nat → Value), k ≤ ls.length ∧ k ≤ 100 ∧ i = .int .i64 k ∧ Hid (Lc wr p b (runs A0 (ls.take k)) ∧ Rf wr (runs A0 (ls.take k)) R g cap rs ∧ Blk wr w2.heap.size (rfA (runs A0 (ls.take k)) R g cap) 30 ∧ Below w.heap.size w wr)) (fun i _ => ls.length - (intOf i).toNat)
    case atStart => exact ⟨0, 1, g, cp, rs, Nat.zero_le _, by omega, rfl, by rw [← HF.out]; exact ⟨HL2.out, HR2.out, HN2.out, HB2.out⟩⟩
    case round =>
      obtain ⟨k, R, g', cap', rs', hk, hk1, rfl, HI⟩ := hrel
      by_cases hgo : k < ls.length ∧ k < 100
      · obtain ⟨hlt, hlt1⟩ := hgo
        have hd1 : decide ((k : Int) < ls.length) = true := by simp only [decide_eq_true_eq]; omega
        have hd2 : decide ((k : Int) < 100) = true := by simp only [decide_eq_true_eq]; omega
        obtain ⟨ga, off, hga, _, hg, hcel, _⟩ := HC.out k hlt
        subst hga
        have HRT : Hid _ := runs_take A0 ls k hlt
        have hki : (k : Int) < ls.length := by omega
        generalize ls[k] = x at *
        generalize runs A0 (ls.take k) = A at *
        have HZp : Hid (w.heap.size ≤ wr.heap.size ∧ p < wr.heap.size ∧ b < wr.heap.size ∧ w2.heap.size < wr.heap.size ∧ ga < w.heap.size ∧ w.heap.size < p ∧ w.heap.size < b ∧ p < w2.heap.size ∧ b < w2.heap.size) := ⟨HI.out.2.2.2.size, HI.out.1.blk.lt, HI.out.1.row.lt, Blk.lt HI.out.2.2.1, hg, by omega, by omega, by omega, by omega⟩
        have HAll : Hid (∀ wx, Below wr.heap.size wr wx → Cor w w2.heap.size ga (off + k * 3) A R g' cap' x wx ∧ Lc wx p b A ∧ Rf wx A R g' cap' rs') := fun wx hb => by
          have hI := HI.out
          exact ⟨Cor.keep ⟨hI.2.2.1, fun j u hu => keepCell hI.2.2.2 (hcel j u hu) hg, hI.2.2.2⟩ hb hg, hI.1.below hb, hI.2.1.below hb⟩
        have HSC : Hid (∀ wx, Cor w w2.heap.size ga (off + k * 3) A R g' cap' x wx → wx.cell? ⟨w2.heap.size, 0, none⟩ = some (.int .i64 A.supply) ∧ wx.cell? ⟨w2.heap.size, 1, none⟩ = some (.int .i64 A.start) ∧ wx.cell? ⟨w2.heap.size, 2, none⟩ = some (.int .i64 A.step) ∧ wx.cell? ⟨w2.heap.size, 3, none⟩ = some (.int .i64 A.state) ∧ wx.cell? ⟨w2.heap.size, 4, none⟩ = some (.slice (some ⟨g', 0, none⟩) R cap') ∧ wx.cell? ⟨ga, off + k * 3, none⟩ = some (.int .i64 x.kind) ∧ wx.cell? ⟨ga, off + k * 3 + 1, none⟩ = some (.int .i64 x.who) ∧ wx.cell? ⟨ga, off + k * 3 + 2, none⟩ = some (.int .i64 x.n)) := fun wx h => ⟨Blk.cell h.1 rfl, Blk.cell h.1 rfl, Blk.cell h.1 rfl, Blk.cell h.1 rfl, Blk.cell h.1 rfl, h.2.1 0 _ rfl, h.2.1 1 _ rfl, h.2.1 2 _ rfl⟩
        have HST : Hid (∀ wx, Cor w w2.heap.size ga (off + k * 3) A R g' cap' x wx ∧ Lc wx p b A ∧ Rf wx A R g' cap' rs' → Calls Try.prog 7 #[.pointer (some ⟨p, 0, none⟩), .agg #[.int .i64 A.supply, .int .i64 A.start, .int .i64 A.step, .int .i64 A.state, .slice (some ⟨g', 0, none⟩) R cap'], .agg #[.int .i64 x.kind, .int .i64 x.who, .int .i64 x.n]] wx fun e w' => ∃ R5 g5 cap5 rs5, e = .returned (.tuple #[.agg #[.int .i64 (A.act x).supply, .int .i64 (A.act x).start, .int .i64 (A.act x).step, .int .i64 (A.act x).state, .slice (some ⟨g5, 0, none⟩) R5 cap5], .bool true]) ∧ Rf w' (A.act x) R5 g5 cap5 rs5 ∧ Lc w' p b (A.act x) ∧ Ofc p b wx w') := fun wx h => step_calls wx h.2.1 h.2.2 x
        clear hcel
        go_wp2_with fail
        refine wp_region_held_drew (S := (fun wx => wx.cell? ⟨w2.heap.size, 0, none⟩ = some (.int .i64 A.supply) ∧ wx.cell? ⟨w2.heap.size, 1, none⟩ = some (.int .i64 A.start) ∧ wx.cell? ⟨w2.heap.size, 2, none⟩ = some (.int .i64 A.step) ∧ wx.cell? ⟨w2.heap.size, 3, none⟩ = some (.int .i64 A.state) ∧ wx.cell? ⟨w2.heap.size, 4, none⟩ = some (.slice (some ⟨g', 0, none⟩) R cap') ∧ wx.cell? ⟨ga, off + k * 3, none⟩ = some (.int .i64 x.kind) ∧ wx.cell? ⟨ga, off + k * 3 + 1, none⟩ = some (.int .i64 x.who) ∧ wx.cell? ⟨ga, off + k * 3 + 2, none⟩ = some (.int .i64 x.n))) (by kernel_rfl) (HSC.out _ (HAll.out _ (Below.refl _ _).drew).1) (fun hS => ?_)
        refine wpAnyH_take (i := 0) (v := (.pointer (some ⟨p, 0, none⟩))) rfl (by kernel_rfl) (by kernel_rfl) (by kernel_rfl) (fun _ _ _ h => h) (Or.inl ⟨by kernel_rfl, fun w hS => by obtain ⟨s0, s1, s2, s3, s4, s5, s6, s7⟩ := hS; go_simp⟩) hS ?_
        refine wpAnyH_take (i := 1) (v := (.agg #[.int .i64 A.supply, .int .i64 A.start, .int .i64 A.step, .int .i64 A.state, .slice (some ⟨g', 0, none⟩) R cap'])) rfl (by kernel_rfl) (by kernel_rfl) (by kernel_rfl) (fun _ _ _ h => h) (Or.inl ⟨by kernel_rfl, fun w hS => by obtain ⟨s0, s1, s2, s3, s4, s5, s6, s7⟩ := hS; go_simp⟩) hS ?_
        refine wpAnyH_take (i := 2) (v := (.slice (some ⟨ga, off, none⟩) ls.length cap)) rfl (by kernel_rfl) (by kernel_rfl) (by kernel_rfl) (fun _ _ _ h => h) (Or.inl ⟨by kernel_rfl, fun w hS => by obtain ⟨s0, s1, s2, s3, s4, s5, s6, s7⟩ := hS; go_simp⟩) hS ?_
        refine wpAnyH_take (i := 3) (v := (.int .i64 k)) rfl (by kernel_rfl) (by kernel_rfl) (by kernel_rfl) (fun _ _ _ h => h) (Or.inl ⟨by kernel_rfl, fun w hS => by obtain ⟨s0, s1, s2, s3, s4, s5, s6, s7⟩ := hS; go_simp⟩) hS ?_
        refine wpAnyH_take (i := 4) (v := (.pointer (some ⟨ga, off + k * 3, none⟩))) rfl (by kernel_rfl) (by kernel_rfl) (by kernel_rfl) (fun _ _ _ h => h) (Or.inl ⟨by kernel_rfl, fun w hS => by obtain ⟨s0, s1, s2, s3, s4, s5, s6, s7⟩ := hS; go_simp⟩) hS ?_
        refine wpAnyH_take (i := 5) (v := (.agg #[.int .i64 x.kind, .int .i64 x.who, .int .i64 x.n])) rfl (by kernel_rfl) (by kernel_rfl) (by kernel_rfl) (fun _ _ _ h => h) (Or.inl ⟨by kernel_rfl, fun w hS => by obtain ⟨s0, s1, s2, s3, s4, s5, s6, s7⟩ := hS; go_simp⟩) hS ?_
        refine wpAnyH_ready (rs := [6, 10]) (by kernel_rfl) (by simp) ?_
        refine AllReadyH.cons rfl (fun K hK => ?_) (AllReadyH.cons rfl (fun K hK => ?_) AllReadyH.nil)
        · go_simp
          refine Calls.mono (HST.out _ (HAll.out _ (Below.refl _ _).drew)) ?_
          rintro e w5 ⟨R5, g5, cap5, rs5, rfl, f5, l5, o5⟩
          have HC5 : Hid (Cor w w2.heap.size ga (off + k * 3) A R g' cap' x w5) := Cor.ofc (HAll.out _ (Below.refl _ _).drew).1 o5 hg (by have := HZp.out; omega) (by have := HZp.out; omega) (by have := HZp.out; omega) (by have := HZp.out; omega)
          have HF5 : Hid (Rf w5 (A.act x) R5 g5 cap5 rs5 ∧ Lc w5 p b (A.act x)) := ⟨f5, l5⟩
          have HZ5 : Hid (w2.heap.size < w5.heap.size) := Nat.lt_of_lt_of_le HZp.out.2.2.2.1 o5.size
          clear f5 l5 o5
          refine hK.out _ _ (HSC.out _ HC5.out) (fun hS => ?_)
          clear hK
          refine wpAnyH_take (i := 7) (v := (.tuple #[.agg #[.int .i64 (A.act x).supply, .int .i64 (A.act x).start, .int .i64 (A.act x).step, .int .i64 (A.act x).state, .slice (some ⟨g5, 0, none⟩) R5 cap5], .bool true])) rfl (by kernel_rfl) (by kernel_rfl) (by kernel_rfl) (fun _ _ _ h => h) (Or.inl ⟨by kernel_rfl, fun w hS => by obtain ⟨s0, s1, s2, s3, s4, s5, s6, s7⟩ := hS; go_simp⟩) hS ?_
          refine wpAnyH_take (i := 8) (v := (.agg #[.int .i64 (A.act x).supply, .int .i64 (A.act x).start, .int .i64 (A.act x).step, .int .i64 (A.act x).state, .slice (some ⟨g5, 0, none⟩) R5 cap5])) rfl (by kernel_rfl) (by kernel_rfl) (by kernel_rfl) (fun _ _ _ h => h) (Or.inl ⟨by kernel_rfl, fun w hS => by obtain ⟨s0, s1, s2, s3, s4, s5, s6, s7⟩ := hS; go_simp⟩) hS ?_
          refine wpAnyH_take (i := 9) (v := (.bool true)) rfl (by kernel_rfl) (by kernel_rfl) (by kernel_rfl) (fun _ _ _ h => h) (Or.inl ⟨by kernel_rfl, fun w hS => by obtain ⟨s0, s1, s2, s3, s4, s5, s6, s7⟩ := hS; go_simp⟩) hS ?_
          refine wpAnyH_ready (rs := [10]) (by kernel_rfl) (by simp) ?_
          refine AllReadyH.cons rfl (fun K hK => ?_) AllReadyH.nil
          obtain ⟨WA, hWA, NA, bA⟩ := zero_box w5
          go_simp
          refine hK.out _ _ (HSC.out _ (HC5.out.keep bA hg)) (fun hS => ?_)
          clear hK
          refine wpAnyH_ready (rs := [11]) (by kernel_rfl) (by simp) ?_
          obtain ⟨W6, hW6, N6, _, _, _, _, _⟩ := setRow_named (w := WA) NA (rfA (A.act x) R5 g5 cap5)
          have HNb : Hid (Blk W6 w5.heap.size (rfA (A.act x) R5 g5 cap5) 30) := N6
          have HC6 : Hid (Cor w w2.heap.size ga (off + k * 3) A R g' cap' x W6) := Cor.row (HC5.out.keep bA hg) hW6 (by have := HZ5.out; have := HZp.out; omega) hg (by have := HZ5.out; have := HZp.out; omega)
          have HF6 : Hid (Rf W6 (A.act x) R5 g5 cap5 rs5 ∧ Lc W6 p b (A.act x)) := both_row (And.intro (HF5.out.1.below bA) (HF5.out.2.below bA)).1 (And.intro (HF5.out.1.below bA) (HF5.out.2.below bA)).2 NA (z := 0) (Blk.cell NA rfl) hW6
          clear N6
          refine readyH_rowC 11 rfl rfl rfl rfl (w5.heap.size) (rfA (A.act x) R5 g5 cap5) (by kernel_rfl) (by kernel_rfl) 30 #[.int .i64 0, .int .i64 0, .int .i64 0, .int .i64 0, .slice none 0 0] NA (rf_info _ _ _ _) rfl (rf_one _ _ _ _) (by rw [hW6]; exact ⟨Blk.cell HC6.out.1 rfl, Blk.cell HC6.out.1 rfl, Blk.cell HC6.out.1 rfl, Blk.cell HC6.out.1 rfl, Blk.cell HC6.out.1 rfl, HC6.out.2.1 0 _ rfl, HC6.out.2.1 1 _ rfl, HC6.out.2.1 2 _ rfl⟩) (fun hS => ?_)
          rw [hW6]
          rw [hW6] at hS
          refine wpAnyH_take (i := 12) (v := (.bool true)) rfl (by kernel_rfl) (by kernel_rfl) (by kernel_rfl) (fun _ _ _ h => h) (Or.inl ⟨by kernel_rfl, fun w hS => by obtain ⟨s0, s1, s2, s3, s4, s5, s6, s7⟩ := hS; go_simp⟩) hS ?_
          refine wpAnyH_done (by kernel_rfl) ?_ _
          clear hS
          have HLi : Hid _ := fun wx (h1 : Lc wx p b (A.act x)) (h2 : Rf wx (A.act x) R5 g5 cap5 rs5) => like_calls wx h1 h2
          generalize hAA : A.act x = AA at *
          have HAA : Hid _ := hAA
          clear hAA
          have e0 : W6.cell? ⟨w5.heap.size, 0, none⟩ = some (.int .i64 AA.supply) := Blk.cell HNb.out rfl
          have e1 : W6.cell? ⟨w5.heap.size, 1, none⟩ = some (.int .i64 AA.start) := Blk.cell HNb.out rfl
          have e2 : W6.cell? ⟨w5.heap.size, 2, none⟩ = some (.int .i64 AA.step) := Blk.cell HNb.out rfl
          have e3 : W6.cell? ⟨w5.heap.size, 3, none⟩ = some (.int .i64 AA.state) := Blk.cell HNb.out rfl
          have e4 : W6.cell? ⟨w5.heap.size, 4, none⟩ = some (.slice (some ⟨g5, 0, none⟩) R5 cap5) := Blk.cell HNb.out rfl
          obtain ⟨W7, hW7, X7, W7b, W7s, W7o, W7t, W7u⟩ := setRow_named HC6.out.1 (rfA AA R5 g5 cap5)
          have HB7 : Hid _ := both_row HF6.out.1 HF6.out.2 HC6.out.1 (z := A.supply) (Blk.cell HC6.out.1 rfl) hW7
          have HBl7 : Hid (Below w.heap.size w W7) := by show Below _ _ _; rw [← hW7]; exact below_setRow HC6.out.2.2 _ _ (by have := HZp.out; omega)
          have f0 : W7.cell? ⟨w2.heap.size, 0, none⟩ = some (.int .i64 AA.supply) := Blk.cell X7 rfl
          have f1 : W7.cell? ⟨w2.heap.size, 1, none⟩ = some (.int .i64 AA.start) := Blk.cell X7 rfl
          have f2 : W7.cell? ⟨w2.heap.size, 2, none⟩ = some (.int .i64 AA.step) := Blk.cell X7 rfl
          have f3 : W7.cell? ⟨w2.heap.size, 3, none⟩ = some (.int .i64 AA.state) := Blk.cell X7 rfl
          have f4 : W7.cell? ⟨w2.heap.size, 4, none⟩ = some (.slice (some ⟨g5, 0, none⟩) R5 cap5) := Blk.cell X7 rfl
          have HX7 : Hid _ := X7
          clear X7 W7b W7s W7o W7t W7u
          unfold rfV rfA at HLi
          have HB6 : Hid (Blk W6 w2.heap.size (rfA A R g' cap') 30) := HC6.out.1
          have HSz : Hid ((rfA A R g' cap').size = (rfA AA R5 g5 cap5).size) := rfl
          go_simp
          go_wp2_with ((with_reducible refine st_row (ty := 30) (cs' := rfA AA R5 g5 cap5) HB6.out (rf_info _ _ _ _) HSz.out (rf_one _ _ _ _) hW7 ?_ ?_ ?_); rfl; rfl)
          go_wp2_with fail
          refine Calls.mono (HLi.out _ HB7.out.2 HB7.out.1) ?_
          rintro e w8 ⟨rfl, b8⟩
          go_wp2
          refine ⟨⟨k + 1, R5, g5, cap5, rs5, by omega, by omega, by norm_cast, ?_⟩, by simp [intOf]; omega⟩
          rw [HRT.out]
          exact ⟨HB7.out.2.below b8, HB7.out.1.below b8, Blk.below HX7.out b8, HBl7.out.trans (b8.mono HBl7.out.size)⟩
        · obtain ⟨WB, hWB, NB, bB⟩ := zero_box wr.drew
          have HAB : Hid _ := HAll.out _ ((Below.refl _ _).drew.trans bB)
          go_simp
          refine hK.out _ _ (HSC.out _ HAB.out.1) (fun hS => ?_)
          clear hK
          refine wpAnyH_ready (rs := [6]) (by kernel_rfl) (by simp) ?_
          refine AllReadyH.cons rfl (fun K hK => ?_) AllReadyH.nil
          go_simp
          refine Calls.mono (HST.out _ HAB.out) ?_
          rintro e w5 ⟨R5, g5, cap5, rs5, rfl, f5, l5, o5⟩
          have HC5 : Hid (Cor w w2.heap.size ga (off + k * 3) A R g' cap' x w5) := Cor.ofc HAB.out.1 o5 hg (by have := HZp.out; omega) (by have := HZp.out; omega) (by have := HZp.out; omega) (by have := HZp.out; omega)
          have HF5 : Hid (Rf w5 (A.act x) R5 g5 cap5 rs5 ∧ Lc w5 p b (A.act x)) := ⟨f5, l5⟩
          have N5 : Blk w5 wr.heap.size #[.int .i64 0, .int .i64 0, .int .i64 0, .int .i64 0, .slice none 0 0] 30 := Blk.ofc NB o5 (by have := HZp.out; show wr.heap.size ≠ p; omega) (by have := HZp.out; show wr.heap.size ≠ b; omega)
          clear f5 l5 o5
          refine hK.out _ _ (HSC.out _ HC5.out) (fun hS => ?_)
          clear hK
          refine wpAnyH_take (i := 7) (v := (.tuple #[.agg #[.int .i64 (A.act x).supply, .int .i64 (A.act x).start, .int .i64 (A.act x).step, .int .i64 (A.act x).state, .slice (some ⟨g5, 0, none⟩) R5 cap5], .bool true])) rfl (by kernel_rfl) (by kernel_rfl) (by kernel_rfl) (fun _ _ _ h => h) (Or.inl ⟨by kernel_rfl, fun w hS => by obtain ⟨s0, s1, s2, s3, s4, s5, s6, s7⟩ := hS; go_simp⟩) hS ?_
          refine wpAnyH_take (i := 8) (v := (.agg #[.int .i64 (A.act x).supply, .int .i64 (A.act x).start, .int .i64 (A.act x).step, .int .i64 (A.act x).state, .slice (some ⟨g5, 0, none⟩) R5 cap5])) rfl (by kernel_rfl) (by kernel_rfl) (by kernel_rfl) (fun _ _ _ h => h) (Or.inl ⟨by kernel_rfl, fun w hS => by obtain ⟨s0, s1, s2, s3, s4, s5, s6, s7⟩ := hS; go_simp⟩) hS ?_
          refine wpAnyH_take (i := 9) (v := (.bool true)) rfl (by kernel_rfl) (by kernel_rfl) (by kernel_rfl) (fun _ _ _ h => h) (Or.inl ⟨by kernel_rfl, fun w hS => by obtain ⟨s0, s1, s2, s3, s4, s5, s6, s7⟩ := hS; go_simp⟩) hS ?_
          refine wpAnyH_ready (rs := [11]) (by kernel_rfl) (by simp) ?_
          obtain ⟨W6, hW6, N6, _, _, _, _, _⟩ := setRow_named (w := w5) N5 (rfA (A.act x) R5 g5 cap5)
          have HNb : Hid (Blk W6 wr.heap.size (rfA (A.act x) R5 g5 cap5) 30) := N6
          have HC6 : Hid (Cor w w2.heap.size ga (off + k * 3) A R g' cap' x W6) := Cor.row HC5.out hW6 (by have := HZp.out; omega) hg (by have := HZp.out; omega)
          have HF6 : Hid (Rf W6 (A.act x) R5 g5 cap5 rs5 ∧ Lc W6 p b (A.act x)) := both_row HF5.out.1 HF5.out.2 N5 (z := 0) (Blk.cell N5 rfl) hW6
          clear N6
          refine readyH_rowC 11 rfl rfl rfl rfl (wr.heap.size) (rfA (A.act x) R5 g5 cap5) (by kernel_rfl) (by kernel_rfl) 30 #[.int .i64 0, .int .i64 0, .int .i64 0, .int .i64 0, .slice none 0 0] N5 (rf_info _ _ _ _) rfl (rf_one _ _ _ _) (by rw [hW6]; exact ⟨Blk.cell HC6.out.1 rfl, Blk.cell HC6.out.1 rfl, Blk.cell HC6.out.1 rfl, Blk.cell HC6.out.1 rfl, Blk.cell HC6.out.1 rfl, HC6.out.2.1 0 _ rfl, HC6.out.2.1 1 _ rfl, HC6.out.2.1 2 _ rfl⟩) (fun hS => ?_)
          rw [hW6]
          rw [hW6] at hS
          refine wpAnyH_take (i := 12) (v := (.bool true)) rfl (by kernel_rfl) (by kernel_rfl) (by kernel_rfl) (fun _ _ _ h => h) (Or.inl ⟨by kernel_rfl, fun w hS => by obtain ⟨s0, s1, s2, s3, s4, s5, s6, s7⟩ := hS; go_simp⟩) hS ?_
          refine wpAnyH_done (by kernel_rfl) ?_ _
          clear hS
          have HLi : Hid _ := fun wx (h1 : Lc wx p b (A.act x)) (h2 : Rf wx (A.act x) R5 g5 cap5 rs5) => like_calls wx h1 h2
          generalize hAA : A.act x = AA at *
          have HAA : Hid _ := hAA
          clear hAA
          have e0 : W6.cell? ⟨wr.heap.size, 0, none⟩ = some (.int .i64 AA.supply) := Blk.cell HNb.out rfl
          have e1 : W6.cell? ⟨wr.heap.size, 1, none⟩ = some (.int .i64 AA.start) := Blk.cell HNb.out rfl
          have e2 : W6.cell? ⟨wr.heap.size, 2, none⟩ = some (.int .i64 AA.step) := Blk.cell HNb.out rfl
          have e3 : W6.cell? ⟨wr.heap.size, 3, none⟩ = some (.int .i64 AA.state) := Blk.cell HNb.out rfl
          have e4 : W6.cell? ⟨wr.heap.size, 4, none⟩ = some (.slice (some ⟨g5, 0, none⟩) R5 cap5) := Blk.cell HNb.out rfl
          obtain ⟨W7, hW7, X7, W7b, W7s, W7o, W7t, W7u⟩ := setRow_named HC6.out.1 (rfA AA R5 g5 cap5)
          have HB7 : Hid _ := both_row HF6.out.1 HF6.out.2 HC6.out.1 (z := A.supply) (Blk.cell HC6.out.1 rfl) hW7
          have HBl7 : Hid (Below w.heap.size w W7) := by show Below _ _ _; rw [← hW7]; exact below_setRow HC6.out.2.2 _ _ (by have := HZp.out; omega)
          have f0 : W7.cell? ⟨w2.heap.size, 0, none⟩ = some (.int .i64 AA.supply) := Blk.cell X7 rfl
          have f1 : W7.cell? ⟨w2.heap.size, 1, none⟩ = some (.int .i64 AA.start) := Blk.cell X7 rfl
          have f2 : W7.cell? ⟨w2.heap.size, 2, none⟩ = some (.int .i64 AA.step) := Blk.cell X7 rfl
          have f3 : W7.cell? ⟨w2.heap.size, 3, none⟩ = some (.int .i64 AA.state) := Blk.cell X7 rfl
          have f4 : W7.cell? ⟨w2.heap.size, 4, none⟩ = some (.slice (some ⟨g5, 0, none⟩) R5 cap5) := Blk.cell X7 rfl
          have HX7 : Hid _ := X7
          clear X7 W7b W7s W7o W7t W7u
          unfold rfV rfA at HLi
          have HB6 : Hid (Blk W6 w2.heap.size (rfA A R g' cap') 30) := HC6.out.1
          have HSz : Hid ((rfA A R g' cap').size = (rfA AA R5 g5 cap5).size) := rfl
          go_simp
          go_wp2_with ((with_reducible refine st_row (ty := 30) (cs' := rfA AA R5 g5 cap5) HB6.out (rf_info _ _ _ _) HSz.out (rf_one _ _ _ _) hW7 ?_ ?_ ?_); rfl; rfl)
          go_wp2_with fail
          refine Calls.mono (HLi.out _ HB7.out.2 HB7.out.1) ?_
          rintro e w8 ⟨rfl, b8⟩
          go_wp2
          refine ⟨⟨k + 1, R5, g5, cap5, rs5, by omega, by omega, by norm_cast, ?_⟩, by simp [intOf]; omega⟩
          rw [HRT.out]
          exact ⟨HB7.out.2.below b8, HB7.out.1.below b8, Blk.below HX7.out b8, HBl7.out.trans (b8.mono HBl7.out.size)⟩
      · have htk : ls.take k = ls.take 100 := by
          by_cases h1 : k < ls.length
          · have : k = 100 := by omega
            rw [this]
          · rw [List.take_of_length_le (by omega), List.take_of_length_le (by omega)]
        have HLi : Hid _ := like_calls wr HI.out.1 HI.out.2.1
        have hB := HI.out.2.2.2
        generalize runs A0 (ls.take k) = A at *
        have e0 : wr.cell? ⟨w2.heap.size, 0, none⟩ = some (.int .i64 A.supply) := Blk.cell HI.out.2.2.1 rfl
        have e1 : wr.cell? ⟨w2.heap.size, 1, none⟩ = some (.int .i64 A.start) := Blk.cell HI.out.2.2.1 rfl
        have e2 : wr.cell? ⟨w2.heap.size, 2, none⟩ = some (.int .i64 A.step) := Blk.cell HI.out.2.2.1 rfl
        have e3 : wr.cell? ⟨w2.heap.size, 3, none⟩ = some (.int .i64 A.state) := Blk.cell HI.out.2.2.1 rfl
        have e4 : wr.cell? ⟨w2.heap.size, 4, none⟩ = some (.slice (some ⟨g', 0, none⟩) R cap') := Blk.cell HI.out.2.2.1 rfl
        unfold rfV rfA at HLi
        have HBr : Hid (Below w.heap.size w wr) := hB
        clear hB htk
        by_cases h1 : k < ls.length
        · have hd1 : decide ((k : Int) < ls.length) = true := by simp only [decide_eq_true_eq]; omega
          have hd2 : decide ((k : Int) < 100) = false := by simp only [decide_eq_false_iff_not]; omega
          go_wp2_with fail
          refine Calls.mono HLi.out ?_
          rintro e w8 ⟨rfl, b8⟩
          go_wp2_with fail
          refine (awake_calls _).mono ?_
          rintro e w9 ⟨rfl, b9⟩
          go_wp2
          go_ret
          exact ⟨rfl, HBr.out.trans ((b8.mono HBr.out.size).trans (b9.mono (Nat.le_trans HBr.out.size b8.size)))⟩
        · have hd1 : decide ((k : Int) < ls.length) = false := by simp only [decide_eq_false_iff_not]; omega
          go_wp2_with fail
          refine Calls.mono HLi.out ?_
          rintro e w8 ⟨rfl, b8⟩
          go_wp2_with fail
          refine (awake_calls _).mono ?_
          rintro e w9 ⟨rfl, b9⟩
          go_wp2
          go_ret
          exact ⟨rfl, HBr.out.trans ((b8.mono HBr.out.size).trans (b9.mono (Nat.le_trans HBr.out.size b8.size)))⟩
  · have HN : Hid _ := new_bad s q d n W0 hf
    have HR : Hid _ := fun wx => refnew_bad s q d n wx hf
    clear hf
    go_enter Try.func3, Try.ntmps3
    go_wp2_with fail
    refine Calls.mono HN.out ?_
    rintro e w1 ⟨rfl, hw1⟩
    obtain rfl := hw1.symm
    go_wp2_with fail
    refine Calls.mono (HR.out _) ?_
    rintro e w2 ⟨rfl, b2⟩
    go_wp2_with fail
    refine (awake_calls _).mono ?_
    rintro e w3 ⟨rfl, b3⟩
    go_wp2
    go_ret
    exact ⟨rfl, ((HB0.out.trans (b2.mono (by omega))).alloc (by have := b2.size; omega) _).trans (b3.mono (by simp; have := b2.size; omega))⟩
end Go.Proofs.Yteinfckkpkbnlaa
