/- ClockBytes: it answers true. -/
import Derived.Test.YtgbcbjfaplogaaaCkO3
import Derived.Test.YtgbcbjfaplogaaaCkE
import Derived.Deep.RegionHeldLaw
import Derived.Deep.RegionHeld3
namespace Go.Proofs.Ytgbcbjfaplogaaa
open Go.RowKit
set_option linter.unusedSimpArgs false
set_option linter.unusedVariables false
variable {p b : Nat} {a : Au}

theorem auB_size (a : Au) (H : Inv a) : (auB a).size ≤ 1000 := by
  have h := encs_len (nums a)
  have h2 : (nums a).length = 6 + 2 * a.ds.length := numsK_len a _
  have h3 := H.len
  have e : (auB a).size = (encs (nums a)).length := by show (encs (nums a)).toArray.size = _; simp
  rw [e]; omega
set_option maxRecDepth 100000 in
set_option maxHeartbeats 4000000 in
theorem clockBytes_calls (s : Int) (v u : Value) (ls ms : List Ac) (w : World) (hl : Acs w v ls) (hm : Acs w u ms) (hz : ls.length * 24 ≤ 140737488351232) (hy : ms.length * 24 ≤ 140737488351232) :
    Calls Try.prog 3 #[.int .i64 s, v, u] w fun e w' => e = .returned (.bool true) ∧ Below w.heap.size w w' := by
  have HA : Hid _ := awake_calls
  have HK : Hid _ := fun z wx => around_calls z 3 wx (by omega) (by omega)
  have HB : Hid _ := begun_calls s v ls w hl hz
  have HBy : Hid _ := fun wx p b A (hx : Lc wx p b A) => bytes_calls wx hx
  obtain ⟨c, cap, hue, hd⟩ := hm.any
  subst hue
  have HC : Hid _ := hd
  clear hd hl hm
  generalize runs (Au.four s) (ls.take 100) = A0 at *
  go_enter Try.func3, Try.ntmps3
  go_wp2_with fail
  refine Calls.mono HB.out ?_
  rintro e w1 ⟨p, b, rfl, L1, b1, hp, hb⟩
  clear HB
  have HI : Hid _ := L1.inv
  have Y1 := HBy.out _ _ _ _ L1
  have HOf : Hid _ := fun wx => of_good (auB A0) (nums A0) wx (by have := auB_size A0 HI.out; omega) (nm_auB HI.out) (good_nums HI.out)
  rw [auOf_nums] at HOf
  go_wp2_with fail
  refine Y1.mono ?_
  rintro e w2 ⟨rfl, b2⟩
  clear Y1
  have L2 := L1.below b2
  have q1 := L2.blk.lt
  have q2 := L2.row.lt
  go_wp2_with fail
  refine Calls.mono (HOf.out w2) ?_
  rintro e w3 ⟨p2, b2', rfl, M3, b3, hp2, hb2⟩
  have L3 := L2.below b3
  have z1 := b1.size
  have z2 := b2.size
  have B3 : Below w.heap.size w w3 := (b1.trans (b2.mono z1)).trans (b3.mono (by omega))
  have n1 : p ≠ p2 := by omega
  have n2 : p ≠ b2' := by omega
  have n3 : b ≠ p2 := by omega
  have n4 : b ≠ b2' := by omega
  have hp2' : w.heap.size ≤ p2 := by omega
  have hb2'' : w.heap.size ≤ b2' := by omega
  clear HOf L1 L2 b1 b2 b3 q1 q2
  have Y3 := HBy.out _ _ _ _ M3
  generalize hbA : auB A0 = bA0 at *
  go_wp2_with fail
  refine Y3.mono ?_
  rintro e w4 ⟨rfl, b4⟩
  clear Y3
  have Y4 := HBy.out _ _ _ _ (L3.below b4)
  rw [hbA] at Y4
  go_wp2_with fail
  refine Y4.mono ?_
  rintro e w5 ⟨rfl, b5⟩
  clear Y4
  have L5 := (L3.below b4).below b5
  have M5 := (M3.below b4).below b5
  have z3 := B3.size
  have z4 := b4.size
  have B5 := (B3.trans (b4.mono z3)).trans (b5.mono (by omega))
  clear L3 M3 B3 b4 b5 hbA HI
  go_wp2
  go_loopw [10] (fun i wr => ∃ (k : Nat) (A : Au), k ≤ ms.length ∧ k ≤ 20 ∧ i = .int .i64 k ∧ Lc wr p b A ∧ Lc wr p2 b2' A ∧ Below w.heap.size w wr) (fun i _ => ms.length - (intOf i).toNat)
  case atStart => exact ⟨0, A0, Nat.zero_le _, by omega, rfl, L5, M5, B5⟩
  case round =>
    clear L5 M5 B5
    obtain ⟨k, A, hk, hk1, rfl, Lr, Mr, br⟩ := hrel
    by_cases hgo : k < ms.length ∧ k < 20
    · obtain ⟨hlt, hlt1⟩ := hgo
      have hd1 : decide ((k : Int) < ms.length) = true := by simp only [decide_eq_true_eq]; omega
      have hd2 : decide ((k : Int) < 20) = true := by simp only [decide_eq_true_eq]; omega
      obtain ⟨q, off, hga, _, hg, hcel, _⟩ := HC.out k hlt
      subst hga
      have d0 := keepCell br (hcel 0 _ rfl) hg
      have d1 := keepCell br (hcel 1 _ rfl) hg
      have d2 := keepCell br (hcel 2 _ rfl) hg
      rw [Nat.add_zero] at d0
      generalize ms[k] = ac at *
      clear hcel
      have HAk : Hid _ := HK.out ac.kind wr
      have hqw : q < wr.heap.size := Nat.lt_of_lt_of_le hg br.size
      have hqp : q ≠ p := by omega
      have hqb : q ≠ b := by omega
      have hqp2 : q ≠ p2 := by omega
      have hqb2 : q ≠ b2' := by omega
      have hki : (k : Int) < ms.length := by omega
      by_cases hkind : arn ac.kind 3 = 2
      · have hde : (arn ac.kind 3 == 2) = true := by simpa using hkind
        have HNx : Hid _ := fun wx p b (hx : Lc wx p b A) => next_calls wx hx _ rfl
        clear hkind
        go_wp2_with fail
        refine Calls.mono HAk.out ?_
        rintro e w3 ⟨rfl, rfl⟩
        go_wp2_with fail
        refine Calls.mono (HNx.out _ _ _ Lr) ?_
        rintro e w4 ⟨rfl, L4, O4⟩
        have M4 := Mr.ofc O4 n1.symm n3.symm n2.symm n4.symm
        go_wp2_with fail
        refine Calls.mono (HNx.out _ _ _ M4) ?_
        rintro e w5 ⟨rfl, M5, O5⟩
        have B4 := O4.below hp hb br br.size
        have HL5 : Hid _ := L4.ofc O5 n1 n2 n3 n4
        have HB5 : Hid _ := O5.below hp2' hb2'' B4 B4.size
        have HM5 : Hid _ := M5
        clear L4 M4 M5 O4 O5 B4 HNx HAk
        generalize A.next = AN at *
        go_wp2
        refine ⟨⟨k + 1, AN.2.2, by omega, by omega, by norm_cast, HL5.out, HM5.out, HB5.out⟩, ?_⟩
        simp [intOf]; omega
      · have hde : (arn ac.kind 3 == 2) = false := by simpa using hkind
        have HBid : Hid _ := fun wx p b (hx : Lc wx p b A) => bid_calls wx hx ac.who ac.n _ rfl
        clear hkind
        go_wp2_with fail
        refine Calls.mono HAk.out ?_
        rintro e w3 ⟨rfl, rfl⟩
        have Ld := Lr.drew
        have Md := Mr.drew
        have hqs : q < w3.drew.heap.size := hqw
        go_wp2_with fail
        refine wp_region_held_drew (S := (fun wx => wx.cell? ⟨q, off + k * 3 + 1, none⟩ = some (.int .i64 ac.who) ∧ wx.cell? ⟨q, off + k * 3 + 2, none⟩ = some (.int .i64 ac.n))) (by kernel_rfl) ⟨d1, d2⟩ (fun hS => ?_)
        refine wpAnyH_take (i := 0) (v := (.pointer (some ⟨p, 0, none⟩))) rfl (by kernel_rfl) (by kernel_rfl) (by kernel_rfl) (fun _ _ _ h => h) (Or.inl ⟨by rfl, fun w hS => by obtain ⟨s0, s1⟩ := hS; go_simp⟩) hS ?_
        refine wpAnyH_take (i := 1) (v := (.slice (some ⟨q, off, none⟩) ms.length cap)) rfl (by kernel_rfl) (by kernel_rfl) (by kernel_rfl) (fun _ _ _ h => h) (Or.inl ⟨by rfl, fun w hS => by obtain ⟨s0, s1⟩ := hS; go_simp⟩) hS ?_
        refine wpAnyH_take (i := 2) (v := (.int .i64 (k : Int))) rfl (by kernel_rfl) (by kernel_rfl) (by kernel_rfl) (fun _ _ _ h => h) (Or.inl ⟨by rfl, fun w hS => by obtain ⟨s0, s1⟩ := hS; go_simp⟩) hS ?_
        refine wpAnyH_take (i := 3) (v := (.pointer (some ⟨q, off + k * 3, none⟩))) rfl (by kernel_rfl) (by kernel_rfl) (by kernel_rfl) (fun _ _ _ h => h) (Or.inl ⟨by rfl, fun w hS => by obtain ⟨s0, s1⟩ := hS; go_simp⟩) hS ?_
        refine wpAnyH_take (i := 4) (v := (.pointer (some ⟨q, off + k * 3 + 1, none⟩))) rfl (by kernel_rfl) (by kernel_rfl) (by kernel_rfl) (fun _ _ _ h => h) (Or.inl ⟨by rfl, fun w hS => by obtain ⟨s0, s1⟩ := hS; go_simp⟩) hS ?_
        refine wpAnyH_take (i := 5) (v := (.int .i64 ac.who)) rfl (by kernel_rfl) (by kernel_rfl) (by kernel_rfl) (fun _ _ _ h => h) (Or.inl ⟨by rfl, fun w hS => by obtain ⟨s0, s1⟩ := hS; go_simp⟩) hS ?_
        refine wpAnyH_take (i := 6) (v := (.slice (some ⟨q, off, none⟩) ms.length cap)) rfl (by kernel_rfl) (by kernel_rfl) (by kernel_rfl) (fun _ _ _ h => h) (Or.inl ⟨by rfl, fun w hS => by obtain ⟨s0, s1⟩ := hS; go_simp⟩) hS ?_
        refine wpAnyH_take (i := 7) (v := (.int .i64 (k : Int))) rfl (by kernel_rfl) (by kernel_rfl) (by kernel_rfl) (fun _ _ _ h => h) (Or.inl ⟨by rfl, fun w hS => by obtain ⟨s0, s1⟩ := hS; go_simp⟩) hS ?_
        refine wpAnyH_take (i := 8) (v := (.pointer (some ⟨q, off + k * 3, none⟩))) rfl (by kernel_rfl) (by kernel_rfl) (by kernel_rfl) (fun _ _ _ h => h) (Or.inl ⟨by rfl, fun w hS => by obtain ⟨s0, s1⟩ := hS; go_simp⟩) hS ?_
        refine wpAnyH_take (i := 9) (v := (.pointer (some ⟨q, off + k * 3 + 2, none⟩))) rfl (by kernel_rfl) (by kernel_rfl) (by kernel_rfl) (fun _ _ _ h => h) (Or.inl ⟨by rfl, fun w hS => by obtain ⟨s0, s1⟩ := hS; go_simp⟩) hS ?_
        refine wpAnyH_take (i := 10) (v := (.int .i64 ac.n)) rfl (by kernel_rfl) (by kernel_rfl) (by kernel_rfl) (fun _ _ _ h => h) (Or.inl ⟨by rfl, fun w hS => by obtain ⟨s0, s1⟩ := hS; go_simp⟩) hS ?_
        refine wpAnyH_take (i := 12) (v := (.pointer (some ⟨p2, 0, none⟩))) rfl (by kernel_rfl) (by kernel_rfl) (by kernel_rfl) (fun _ _ _ h => h) (Or.inl ⟨by rfl, fun w hS => by obtain ⟨s0, s1⟩ := hS; go_simp⟩) hS ?_
        refine wpAnyH_take (i := 13) (v := (.slice (some ⟨q, off, none⟩) ms.length cap)) rfl (by kernel_rfl) (by kernel_rfl) (by kernel_rfl) (fun _ _ _ h => h) (Or.inl ⟨by rfl, fun w hS => by obtain ⟨s0, s1⟩ := hS; go_simp⟩) hS ?_
        refine wpAnyH_take (i := 14) (v := (.int .i64 (k : Int))) rfl (by kernel_rfl) (by kernel_rfl) (by kernel_rfl) (fun _ _ _ h => h) (Or.inl ⟨by rfl, fun w hS => by obtain ⟨s0, s1⟩ := hS; go_simp⟩) hS ?_
        refine wpAnyH_take (i := 15) (v := (.pointer (some ⟨q, off + k * 3, none⟩))) rfl (by kernel_rfl) (by kernel_rfl) (by kernel_rfl) (fun _ _ _ h => h) (Or.inl ⟨by rfl, fun w hS => by obtain ⟨s0, s1⟩ := hS; go_simp⟩) hS ?_
        refine wpAnyH_take (i := 16) (v := (.pointer (some ⟨q, off + k * 3 + 1, none⟩))) rfl (by kernel_rfl) (by kernel_rfl) (by kernel_rfl) (fun _ _ _ h => h) (Or.inl ⟨by rfl, fun w hS => by obtain ⟨s0, s1⟩ := hS; go_simp⟩) hS ?_
        refine wpAnyH_take (i := 17) (v := (.int .i64 ac.who)) rfl (by kernel_rfl) (by kernel_rfl) (by kernel_rfl) (fun _ _ _ h => h) (Or.inl ⟨by rfl, fun w hS => by obtain ⟨s0, s1⟩ := hS; go_simp⟩) hS ?_
        refine wpAnyH_take (i := 18) (v := (.slice (some ⟨q, off, none⟩) ms.length cap)) rfl (by kernel_rfl) (by kernel_rfl) (by kernel_rfl) (fun _ _ _ h => h) (Or.inl ⟨by rfl, fun w hS => by obtain ⟨s0, s1⟩ := hS; go_simp⟩) hS ?_
        refine wpAnyH_take (i := 19) (v := (.int .i64 (k : Int))) rfl (by kernel_rfl) (by kernel_rfl) (by kernel_rfl) (fun _ _ _ h => h) (Or.inl ⟨by rfl, fun w hS => by obtain ⟨s0, s1⟩ := hS; go_simp⟩) hS ?_
        refine wpAnyH_take (i := 20) (v := (.pointer (some ⟨q, off + k * 3, none⟩))) rfl (by kernel_rfl) (by kernel_rfl) (by kernel_rfl) (fun _ _ _ h => h) (Or.inl ⟨by rfl, fun w hS => by obtain ⟨s0, s1⟩ := hS; go_simp⟩) hS ?_
        refine wpAnyH_take (i := 21) (v := (.pointer (some ⟨q, off + k * 3 + 2, none⟩))) rfl (by kernel_rfl) (by kernel_rfl) (by kernel_rfl) (fun _ _ _ h => h) (Or.inl ⟨by rfl, fun w hS => by obtain ⟨s0, s1⟩ := hS; go_simp⟩) hS ?_
        refine wpAnyH_take (i := 22) (v := (.int .i64 ac.n)) rfl (by kernel_rfl) (by kernel_rfl) (by kernel_rfl) (fun _ _ _ h => h) (Or.inl ⟨by rfl, fun w hS => by obtain ⟨s0, s1⟩ := hS; go_simp⟩) hS ?_
        refine wpAnyH_ready (rs := [11]) (by kernel_rfl) (by simp) ?_
        refine AllReadyH.cons rfl (fun K hK => ?_) AllReadyH.nil
        go_simp
        refine Calls.mono (HBid.out _ _ _ Ld) ?_
        rintro e w4 ⟨rfl, L4, O4⟩
        have M4 := Md.ofc O4 n1.symm n3.symm n2.symm n4.symm
        have zO4 := O4.size
        have hq4 : q < w4.heap.size := Nat.lt_of_lt_of_le hqs zO4
        refine hK.out _ _ ⟨keepOfc O4 hS.1 hqs hqp hqb, keepOfc O4 hS.2 hqs hqp hqb⟩ (fun hS => ?_)
        clear hK
        refine wpAnyH_ready (rs := [23]) (by kernel_rfl) (by simp) ?_
        refine AllReadyH.cons rfl (fun K hK => ?_) AllReadyH.nil
        go_simp
        refine Calls.mono (HBid.out _ _ _ M4) ?_
        rintro e w5 ⟨rfl, M5, O5⟩
        refine hK.out _ _ ⟨keepOfc O5 hS.1 hq4 hqp2 hqb2, keepOfc O5 hS.2 hq4 hqp2 hqb2⟩ (fun hS => ?_)
        clear hK
        refine wpAnyH_take (i := 24) (v := (.bool false)) rfl (by kernel_rfl) (by kernel_rfl) (by kernel_rfl) (fun _ _ _ h => h) (Or.inl ⟨by rfl, fun w hS => by obtain ⟨s0, s1⟩ := hS; go_simp⟩) hS ?_
        refine wpAnyH_done (by kernel_rfl) ?_ _
        have B4 := O4.below hp hb (br.trans (Below.refl _ _).drew) br.size
        have HL5 : Hid _ := L4.ofc O5 n1 n2 n3 n4
        have HB5 : Hid _ := O5.below hp2' hb2'' B4 B4.size
        have HM5 : Hid _ := M5
        clear L4 M4 M5 O4 O5 B4 HAk Ld Md
        go_wp2
        refine ⟨⟨k + 1, (A.bid ac.who ac.n).2, by omega, by omega, by norm_cast, HL5.out, HM5.out, HB5.out⟩, ?_⟩
        simp [intOf]; omega
    · by_cases h1 : k < ms.length
      · have hd1 : decide ((k : Int) < ms.length) = true := by simp only [decide_eq_true_eq]; omega
        have hd2 : decide ((k : Int) < 20) = false := by simp only [decide_eq_false_iff_not]; omega
        by_cases h0 : A.state = 0
        · have HS1 : Hid _ := sale_open wr Lr h0
          go_wp2_with fail
          refine Calls.mono HS1.out ?_
          rintro e w6 ⟨rfl, b6⟩
          have HS2 : Hid _ := sale_open w6 (Mr.below b6) h0
          go_wp2_with fail
          refine Calls.mono HS2.out ?_
          rintro e w7 ⟨rfl, b7⟩
          have X7 := (Lr.below b6).below b7
          have Z7 := (Mr.below b6).below b7
          have z5 := br.size
          have z6 := b6.size
          have B7 := (br.trans (b6.mono z5)).trans (b7.mono (by omega))
          clear HS1 HS2 b6 b7 Lr Mr br
          generalize auB A = bA at *
          have HN : Hid _ := numbers_true (.slice none 0 0) (.slice none 0 0) [] w7 (rd_nil _) (rd_nil _) (by simp)
          go_wp2_with fail
          refine Calls.mono HN.out ?_
          rintro e w8 ⟨rfl, b8⟩
          have Y1 := HBy.out _ _ _ _ (X7.below b8)
          go_wp2_with fail
          refine Y1.mono ?_
          rintro e w9 ⟨rfl, b9⟩
          clear Y1
          have Y2 := HBy.out _ _ _ _ ((Z7.below b8).below b9)
          go_wp2_with fail
          refine Y2.mono ?_
          rintro e w10 ⟨rfl, b10⟩
          clear Y2
          have z7 := B7.size
          have z8 := b8.size
          have z9 := b9.size
          have B10 := ((B7.trans (b8.mono z7)).trans (b9.mono (by omega))).trans (b10.mono (by omega))
          go_wp2_with fail
          refine (HA.out _).mono ?_
          rintro e w13 ⟨rfl, b13⟩
          go_wp2
          go_ret
          exact ⟨rfl, B10.trans (b13.mono B10.size)⟩
        · have HS1 : Hid _ := sale_over wr Lr h0
          have hln := Lr.inv.len
          go_wp2_with fail
          refine Calls.mono HS1.out ?_
          rintro e w6 ⟨rfl, S6, b6⟩
          have HS2 : Hid _ := sale_over w6 (Mr.below b6) h0
          go_wp2_with fail
          refine Calls.mono HS2.out ?_
          rintro e w7 ⟨rfl, T7, b7⟩
          have S7 := S6.below b7
          have X7 := (Lr.below b6).below b7
          have Z7 := (Mr.below b6).below b7
          have z5 := br.size
          have z6 := b6.size
          have B7 := (br.trans (b6.mono z5)).trans (b7.mono (by omega))
          have R1 := rd_blk S7 A.ds.length
          have R2 := rd_blk T7 A.ds.length
          have hsl := saleL_len A
          rw [hsl] at R1 R2
          have HR1 : Hid _ := R1
          have HR2 : Hid _ := R2
          have HSL : Hid (A.saleL.length ≤ 140737488351232) := by show _ ≤ _; rw [hsl]; omega
          clear HS1 HS2 b6 b7 Lr Mr br S6 T7 S7 R1 R2 hsl
          generalize auB A = bA at *
          generalize A.saleL = SL at *
          generalize A.ds.length = nn at *
          generalize A.saleP = PP at *
          have HN : Hid _ := numbers_true _ _ SL w7 HR1.out HR2.out HSL.out
          go_wp2_with fail
          refine Calls.mono HN.out ?_
          rintro e w8 ⟨rfl, b8⟩
          have Y1 := HBy.out _ _ _ _ (X7.below b8)
          go_wp2_with fail
          refine Y1.mono ?_
          rintro e w9 ⟨rfl, b9⟩
          clear Y1
          have Y2 := HBy.out _ _ _ _ ((Z7.below b8).below b9)
          go_wp2_with fail
          refine Y2.mono ?_
          rintro e w10 ⟨rfl, b10⟩
          clear Y2
          have z7 := B7.size
          have z8 := b8.size
          have z9 := b9.size
          have B10 := ((B7.trans (b8.mono z7)).trans (b9.mono (by omega))).trans (b10.mono (by omega))
          go_wp2_with fail
          refine (HA.out _).mono ?_
          rintro e w13 ⟨rfl, b13⟩
          go_wp2
          go_ret
          exact ⟨rfl, B10.trans (b13.mono B10.size)⟩
      · have hd1 : decide ((k : Int) < ms.length) = false := by simp only [decide_eq_false_iff_not]; omega
        by_cases h0 : A.state = 0
        · have HS1 : Hid _ := sale_open wr Lr h0
          go_wp2_with fail
          refine Calls.mono HS1.out ?_
          rintro e w6 ⟨rfl, b6⟩
          have HS2 : Hid _ := sale_open w6 (Mr.below b6) h0
          go_wp2_with fail
          refine Calls.mono HS2.out ?_
          rintro e w7 ⟨rfl, b7⟩
          have X7 := (Lr.below b6).below b7
          have Z7 := (Mr.below b6).below b7
          have z5 := br.size
          have z6 := b6.size
          have B7 := (br.trans (b6.mono z5)).trans (b7.mono (by omega))
          clear HS1 HS2 b6 b7 Lr Mr br
          generalize auB A = bA at *
          have HN : Hid _ := numbers_true (.slice none 0 0) (.slice none 0 0) [] w7 (rd_nil _) (rd_nil _) (by simp)
          go_wp2_with fail
          refine Calls.mono HN.out ?_
          rintro e w8 ⟨rfl, b8⟩
          have Y1 := HBy.out _ _ _ _ (X7.below b8)
          go_wp2_with fail
          refine Y1.mono ?_
          rintro e w9 ⟨rfl, b9⟩
          clear Y1
          have Y2 := HBy.out _ _ _ _ ((Z7.below b8).below b9)
          go_wp2_with fail
          refine Y2.mono ?_
          rintro e w10 ⟨rfl, b10⟩
          clear Y2
          have z7 := B7.size
          have z8 := b8.size
          have z9 := b9.size
          have B10 := ((B7.trans (b8.mono z7)).trans (b9.mono (by omega))).trans (b10.mono (by omega))
          go_wp2_with fail
          refine (HA.out _).mono ?_
          rintro e w13 ⟨rfl, b13⟩
          go_wp2
          go_ret
          exact ⟨rfl, B10.trans (b13.mono B10.size)⟩
        · have HS1 : Hid _ := sale_over wr Lr h0
          have hln := Lr.inv.len
          go_wp2_with fail
          refine Calls.mono HS1.out ?_
          rintro e w6 ⟨rfl, S6, b6⟩
          have HS2 : Hid _ := sale_over w6 (Mr.below b6) h0
          go_wp2_with fail
          refine Calls.mono HS2.out ?_
          rintro e w7 ⟨rfl, T7, b7⟩
          have S7 := S6.below b7
          have X7 := (Lr.below b6).below b7
          have Z7 := (Mr.below b6).below b7
          have z5 := br.size
          have z6 := b6.size
          have B7 := (br.trans (b6.mono z5)).trans (b7.mono (by omega))
          have R1 := rd_blk S7 A.ds.length
          have R2 := rd_blk T7 A.ds.length
          have hsl := saleL_len A
          rw [hsl] at R1 R2
          have HR1 : Hid _ := R1
          have HR2 : Hid _ := R2
          have HSL : Hid (A.saleL.length ≤ 140737488351232) := by show _ ≤ _; rw [hsl]; omega
          clear HS1 HS2 b6 b7 Lr Mr br S6 T7 S7 R1 R2 hsl
          generalize auB A = bA at *
          generalize A.saleL = SL at *
          generalize A.ds.length = nn at *
          generalize A.saleP = PP at *
          have HN : Hid _ := numbers_true _ _ SL w7 HR1.out HR2.out HSL.out
          go_wp2_with fail
          refine Calls.mono HN.out ?_
          rintro e w8 ⟨rfl, b8⟩
          have Y1 := HBy.out _ _ _ _ (X7.below b8)
          go_wp2_with fail
          refine Y1.mono ?_
          rintro e w9 ⟨rfl, b9⟩
          clear Y1
          have Y2 := HBy.out _ _ _ _ ((Z7.below b8).below b9)
          go_wp2_with fail
          refine Y2.mono ?_
          rintro e w10 ⟨rfl, b10⟩
          clear Y2
          have z7 := B7.size
          have z8 := b8.size
          have z9 := b9.size
          have B10 := ((B7.trans (b8.mono z7)).trans (b9.mono (by omega))).trans (b10.mono (by omega))
          go_wp2_with fail
          refine (HA.out _).mono ?_
          rintro e w13 ⟨rfl, b13⟩
          go_wp2
          go_ret
          exact ⟨rfl, B10.trans (b13.mono B10.size)⟩
end Go.Proofs.Ytgbcbjfaplogaaa
