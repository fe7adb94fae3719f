/- ClockApart: it answers true. -/
import Derived.Test.YtdlobjmmlaocaaaCkY
import Derived.Test.YtdlobjmmlaocaaaCkE
import Derived.Deep.DeepCutAuto
import Derived.Deep.CutBlock
import Derived.Deep.RegionHeldLaw
import Derived.Deep.RegionHeld3
namespace Go.Proofs.Ytdlobjmmlaocaaa
open Go.RowKit
set_option linter.unusedSimpArgs false
set_option linter.unusedVariables false
variable {p b : Nat} {a : Au}

theorem acs_cut {w : World} {v : Value} {ls : List Ac} (h : Acs w v ls) {a : Option Addr} {cap n : Nat} (m : Nat) (hv : v = .slice a n cap) (hm : m ≤ ls.length) : Acs w (.slice a m cap) (ls.take m) := by
  subst hv
  rcases h with ⟨⟨p, c, e⟩, rfl⟩ | ⟨g, off, cap', e, hl, hlc, hc⟩
  · have : m = 0 := by simpa using hm
    subst this
    exact Or.inl ⟨⟨_, _, rfl⟩, rfl⟩
  · cases e
    refine Or.inr ⟨g, off, cap, by rw [List.length_take, Nat.min_eq_left hm], hl, by rw [List.length_take]; omega, fun i hi => ?_⟩
    rw [List.length_take] at hi
    rw [List.getElem_take]
    exact hc i (by omega)
theorem runs_stop (a : Au) (ls : List Ac) (k : Nat) (h : ¬ k < ls.length) : runs a (ls.take (k + 1)) = runs a (ls.take k) := by
  rw [List.take_of_length_le (by omega), List.take_of_length_le (by omega)]

set_option maxRecDepth 100000 in
set_option maxHeartbeats 4000000 in
theorem apart_calls (s : Int) (v u : Value) (ls ms : List Ac) (w : World) (hl : Acs w v ls) (hm : Acs w u ms) (hz : ls.length * 24 ≤ 140737488351232) (hy : ms.length * 24 ≤ 140737488351232) :
    Calls Try.prog 3 #[.int .i64 s, v, u] w fun e w' => e = .returned (.bool true) ∧ Below w.heap.size w w' := by
  have HA : Hid _ := awake_calls
  have HK : Hid _ := fun z wx => around_calls z 3 wx (by omega) (by omega)
  have HB0 : Hid _ := fun wx => begun_calls s (.slice none 0 0) [] wx (Or.inl ⟨⟨_, _, rfl⟩, rfl⟩) (by simp)
  have HF : Hid (runs (Au.four s) (([] : List Ac).take 100) = runs (Au.four s) (ls.take 0) ∧ runs (Au.four s) (([] : List Ac).take 100) = runs (Au.four s) (ms.take 0)) := ⟨rfl, rfl⟩
  obtain ⟨c, cap, hve, hc⟩ := hl.any
  obtain ⟨c2, cap2, hue, hd⟩ := hm.any
  have HL : Hid _ := acs_cut hl (min 60 ls.length) hve (by omega)
  have HM : Hid _ := acs_cut hm (min 60 ms.length) hue (by omega)
  have hcap : 60 < ls.length → 60 ≤ cap := fun h => by obtain ⟨_, _, _, h1, _⟩ := hc 0 (by omega); omega
  have hcap2 : 60 < ms.length → 60 ≤ cap2 := fun h => by obtain ⟨_, _, _, h1, _⟩ := hd 0 (by omega); omega
  subst hve
  subst hue
  have HC : Hid _ := hc
  have HD : Hid _ := hd
  have HCP : Hid _ := hcap
  have HCP2 : Hid _ := hcap2
  clear hc hd hl hm hcap hcap2
  generalize hF : Au.four s = F at *
  have HFF : Hid _ := hF
  clear hF
  go_enter Try.func3, Try.ntmps3
  go_wp2_with fail
  refine Calls.mono (HB0.out w) ?_
  rintro e w1 ⟨p, b, rfl, L1, b1, hp, hb⟩
  have q1 := L1.blk.lt
  have q2 := L1.row.lt
  go_wp2_with fail
  refine Calls.mono (HB0.out w1) ?_
  rintro e w2 ⟨p2, b2, rfl, M2, b2', hp2, hb2⟩
  have L2 := L1.below b2'
  rw [HF.out.1] at L2
  rw [HF.out.2] at M2
  have z1 := b1.size
  have B2 : Below w.heap.size w w2 := b1.trans (b2'.mono z1)
  have n1 : p ≠ p2 := by omega
  have n2 : p ≠ b2 := by omega
  have n3 : b ≠ p2 := by omega
  have n4 : b ≠ b2 := by omega
  have hp2' : w.heap.size ≤ p2 := by omega
  have hb2' : w.heap.size ≤ b2 := by omega
  clear HB0 HF L1 b1 b2' hp2 hb2 z1 q1 q2
  go_upto_block 0 with fail
  go_cut [] (fun wx => Lc wx p b (runs F (ls.take 60)) ∧ Lc wx p2 b2 (runs F (ms.take 60)) ∧ Below w.heap.size w wx)
  case first =>
    go_wp2_with fail
    go_loopw [9] (fun i wr => ∃ k : Nat, k ≤ 60 ∧ i = .int .i64 k ∧ Lc wr p b (runs F (ls.take k)) ∧ Lc wr p2 b2 (runs F (ms.take k)) ∧ Below w.heap.size w wr) (fun i _ => 60 - (intOf i).toNat)
    case atStart => exact ⟨0, by omega, rfl, L2, M2, B2⟩
    case round =>
      clear L2 M2 B2
      obtain ⟨k, hk, rfl, Lr, Mr, br⟩ := hrel
      by_cases hlt : k < 60
      · have hd : decide ((k : Int) < 60) = true := by simp only [decide_eq_true_eq]; omega
        obtain ⟨wo, rfl⟩ : ∃ wo, wo = wr := ⟨wr, rfl⟩
        go_upto_if 39 with fail
        go_cut [] (fun wx => Lc wx p b (runs F (ls.take (k + 1))) ∧ Lc wx p2 b2 (runs F (ms.take k)) ∧ Below w.heap.size w wx)
        case first =>
          by_cases hla : k < ls.length
          · have hdl : decide ((k : Int) < ls.length) = true := by simp only [decide_eq_true_eq]; omega
            obtain ⟨q, off, hga, _, hg, hcel, _⟩ := HC.out k hla
            subst hga
            have d0 := keepCell br (hcel 0 _ rfl) hg
            have d1 := keepCell br (hcel 1 _ rfl) hg
            have d2 := keepCell br (hcel 2 _ rfl) hg
            rw [Nat.add_zero] at d0
            have HR : Hid _ := runs_take F ls k hla
            generalize ls[k] = ac at *
            clear hcel
            have HAk : Hid _ := HK.out ac.kind wo
            generalize runs F (ls.take k) = A at *
            generalize runs F (ls.take (k + 1)) = A' at *
            have hqw : q < wo.heap.size := Nat.lt_of_lt_of_le hg br.size
            have hqp : q ≠ p := by omega
            have hqb : q ≠ b := by omega
            have hki : (k : Int) < ls.length := by omega
            go_wp2_with fail
            refine Calls.mono HAk.out ?_
            rintro e w3 ⟨rfl, rfl⟩
            go_upto_if 46 with fail
            go_cut [] (fun wx => Lc wx p b A' ∧ Lc wx p2 b2 (runs F (ms.take k)) ∧ Below w.heap.size w wx)
            case first =>
              by_cases hkind : arn ac.kind 3 = 2
              · have hde : (arn ac.kind 3 == 2) = true := by simpa using hkind
                have HNx : Hid _ := next_calls w3 Lr _ rfl
                have HR2 : Hid (A' = A.next.2.2) := by show _ = _; rw [HR.out]; unfold Au.act; rw [if_pos hkind]
                clear HR hkind
                go_wp2_with fail
                refine Calls.mono HNx.out ?_
                rintro e w4 ⟨rfl, L4, O4⟩
                go_wp2_with fail
                go_meet
                exact ⟨by rw [HR2.out]; exact L4, Mr.ofc O4 n1.symm n3.symm n2.symm n4.symm, O4.below hp hb br br.size⟩
              · have hde : (arn ac.kind 3 == 2) = false := by simpa using hkind
                have HBid : Hid _ := fun wx (hx : Lc wx p b A) => bid_calls wx hx ac.who ac.n _ rfl
                have HR2 : Hid (A' = (A.bid ac.who ac.n).2) := by show _ = _; rw [HR.out]; unfold Au.act; rw [if_neg hkind]
                clear HR hkind
                have Ld := Lr.drew
                have hqs : q < w3.drew.heap.size := hqw
                go_wp2_with fail
                refine wp_region_held_drew (S := (fun wx => wx.cell? ⟨q, off + k * 3 + 1, none⟩ = some (.int .i64 ac.who) ∧ wx.cell? ⟨q, off + k * 3 + 2, none⟩ = some (.int .i64 ac.n))) (by kernel_rfl) ⟨d1, d2⟩ (fun hS => ?_)
                refine wpAnyH_take (i := 0) (v := (.pointer (some ⟨p, 0, none⟩))) rfl (by kernel_rfl) (by kernel_rfl) (by kernel_rfl) (fun _ _ _ h => h) (Or.inl ⟨by rfl, fun w hS => by obtain ⟨s0, s1⟩ := hS; go_simp⟩) hS ?_
                refine wpAnyH_take (i := 1) (v := (.slice (some ⟨q, off, none⟩) ls.length cap)) rfl (by kernel_rfl) (by kernel_rfl) (by kernel_rfl) (fun _ _ _ h => h) (Or.inl ⟨by rfl, fun w hS => by obtain ⟨s0, s1⟩ := hS; go_simp⟩) hS ?_
                refine wpAnyH_take (i := 2) (v := (.int .i64 (k : Int))) rfl (by kernel_rfl) (by kernel_rfl) (by kernel_rfl) (fun _ _ _ h => h) (Or.inl ⟨by rfl, fun w hS => by obtain ⟨s0, s1⟩ := hS; go_simp⟩) hS ?_
                refine wpAnyH_take (i := 3) (v := (.pointer (some ⟨q, off + k * 3, none⟩))) rfl (by kernel_rfl) (by kernel_rfl) (by kernel_rfl) (fun _ _ _ h => h) (Or.inl ⟨by rfl, fun w hS => by obtain ⟨s0, s1⟩ := hS; go_simp⟩) hS ?_
                refine wpAnyH_take (i := 4) (v := (.pointer (some ⟨q, off + k * 3 + 1, none⟩))) rfl (by kernel_rfl) (by kernel_rfl) (by kernel_rfl) (fun _ _ _ h => h) (Or.inl ⟨by rfl, fun w hS => by obtain ⟨s0, s1⟩ := hS; go_simp⟩) hS ?_
                refine wpAnyH_take (i := 5) (v := (.int .i64 ac.who)) rfl (by kernel_rfl) (by kernel_rfl) (by kernel_rfl) (fun _ _ _ h => h) (Or.inl ⟨by rfl, fun w hS => by obtain ⟨s0, s1⟩ := hS; go_simp⟩) hS ?_
                refine wpAnyH_take (i := 6) (v := (.slice (some ⟨q, off, none⟩) ls.length cap)) rfl (by kernel_rfl) (by kernel_rfl) (by kernel_rfl) (fun _ _ _ h => h) (Or.inl ⟨by rfl, fun w hS => by obtain ⟨s0, s1⟩ := hS; go_simp⟩) hS ?_
                refine wpAnyH_take (i := 7) (v := (.int .i64 (k : Int))) rfl (by kernel_rfl) (by kernel_rfl) (by kernel_rfl) (fun _ _ _ h => h) (Or.inl ⟨by rfl, fun w hS => by obtain ⟨s0, s1⟩ := hS; go_simp⟩) hS ?_
                refine wpAnyH_take (i := 8) (v := (.pointer (some ⟨q, off + k * 3, none⟩))) rfl (by kernel_rfl) (by kernel_rfl) (by kernel_rfl) (fun _ _ _ h => h) (Or.inl ⟨by rfl, fun w hS => by obtain ⟨s0, s1⟩ := hS; go_simp⟩) hS ?_
                refine wpAnyH_take (i := 9) (v := (.pointer (some ⟨q, off + k * 3 + 2, none⟩))) rfl (by kernel_rfl) (by kernel_rfl) (by kernel_rfl) (fun _ _ _ h => h) (Or.inl ⟨by rfl, fun w hS => by obtain ⟨s0, s1⟩ := hS; go_simp⟩) hS ?_
                refine wpAnyH_take (i := 10) (v := (.int .i64 ac.n)) rfl (by kernel_rfl) (by kernel_rfl) (by kernel_rfl) (fun _ _ _ h => h) (Or.inl ⟨by rfl, fun w hS => by obtain ⟨s0, s1⟩ := hS; go_simp⟩) hS ?_
                refine wpAnyH_ready (rs := [11]) (by kernel_rfl) (by simp) ?_
                refine AllReadyH.cons rfl (fun K hK => ?_) AllReadyH.nil
                go_simp
                refine Calls.mono (HBid.out _ Ld) ?_
                rintro e w2 ⟨rfl, L2, O2⟩
                refine hK.out _ _ ⟨keepOfc O2 hS.1 hqs hqp hqb, keepOfc O2 hS.2 hqs hqp hqb⟩ (fun hS => ?_)
                clear hK
                refine wpAnyH_done (by kernel_rfl) ?_ _
                go_wp2_with fail
                go_meet
                exact ⟨by rw [HR2.out]; exact L2, Mr.drew.ofc O2 n1.symm n3.symm n2.symm n4.symm, O2.below hp hb (br.trans (Below.refl _ _).drew) br.size⟩
            case rest =>
              obtain ⟨L4, M4, B4⟩ := hcut
              clear Lr Mr br d0 d1 d2 HR HAk
              rename World => w4
              by_cases h0 : A'.state = 0
              · have HSa : Hid _ := sale_open w4 L4 h0
                go_wp2_with fail
                refine Calls.mono HSa.out ?_
                rintro e w5 ⟨rfl, b5⟩
                go_wp2_with fail
                go_loopw [13] (fun i wr => i = .int .i64 0 ∧ wr = w5) (fun _ _ => 0)
                case atStart => exact ⟨rfl, rfl⟩
                case round =>
                  obtain ⟨rfl, rfl⟩ := hrel
                  go_wp2_with fail
                  go_meet
                  exact ⟨L4.below b5, M4.below b5, B4.trans (b5.mono B4.size)⟩
              · have HSa : Hid _ := sale_over w4 L4 h0
                have hln := L4.inv.len
                go_wp2_with fail
                refine Calls.mono HSa.out ?_
                rintro e w5 ⟨rfl, X5, b5⟩
                have L5 := L4.below b5
                have M5 := M4.below b5
                have B5 := B4.trans (b5.mono B4.size)
                have y1 := L4.blk.lt
                have y2 := L4.row.lt
                have y3 := M4.blk.lt
                have y4 := M4.row.lt
                have y5 := B4.size
                have HSL : Hid ((iC A'.saleL).size = A'.ds.length) := by show _ = _; rw [iC_size, saleL_len]
                generalize iC A'.saleL = cs5 at *
                generalize A'.ds.length = nn at *
                generalize w4.heap.size = q4 at *
                clear HSa b5
                go_wp2_with fail
                go_loopw [13] (fun i wr => ∃ (j : Nat) (cs : Array Value), j ≤ nn ∧ i = .int .i64 j ∧ Hid (cs.size = nn) ∧ Blk wr q4 cs 3 ∧ Lc wr p b A' ∧ Lc wr p2 b2 (runs F (ms.take k)) ∧ Below w.heap.size w wr) (fun i _ => nn - (intOf i).toNat)
                case atStart => exact ⟨0, cs5, Nat.zero_le _, rfl, HSL.out, X5, L5, M5, B5⟩
                case round =>
                  clear L5 M5 B5 X5
                  obtain ⟨j, cs, hj, rfl, hcs, Xq, Lq, Mq, bq⟩ := hrel
                  by_cases hjt : j < nn
                  · have hdj : decide ((j : Int) < nn) = true := by simp only [decide_eq_true_eq]; omega
                    obtain ⟨uu, huu⟩ : ∃ uu, cs[j]? = some uu := ⟨cs[j]'(by rw [hcs.out]; exact hjt), Array.getElem?_eq_getElem _⟩
                    have x0 := Xq.cell huu
                    have f0 : wr.frozen? ⟨q4, j, none⟩ = false := Xq.frozen
                    have HX : Hid (Blk (wr.setCell ⟨q4, j, none⟩ (.int .i64 77)) q4 (cs.setIfInBounds j (.int .i64 77)) 3) := Xq.set j _
                    have HLq : Hid (Lc (wr.setCell ⟨q4, j, none⟩ (.int .i64 77)) p b A') := ⟨Lq.blk.setOther (p := ⟨q4, j, none⟩) (by show p ≠ q4; omega) _, Lq.row.setOther (p := ⟨q4, j, none⟩) (by show b ≠ q4; omega) _, Lq.ne, Lq.inv⟩
                    have HMq : Hid (Lc (wr.setCell ⟨q4, j, none⟩ (.int .i64 77)) p2 b2 (runs F (ms.take k))) := ⟨Mq.blk.setOther (p := ⟨q4, j, none⟩) (by show p2 ≠ q4; omega) _, Mq.row.setOther (p := ⟨q4, j, none⟩) (by show b2 ≠ q4; omega) _, Mq.ne, Mq.inv⟩
                    have HBq : Hid (Below w.heap.size w (wr.setCell ⟨q4, j, none⟩ (.int .i64 77))) := bq.setCell (p := ⟨q4, j, none⟩) (by show w.heap.size ≤ q4; omega) _
                    have HCS : Hid ((cs.setIfInBounds j (.int .i64 77)).size = nn) := by show _ = _; rw [Array.size_setIfInBounds]; exact hcs.out
                    clear Xq Lq Mq bq huu
                    go_wp2_with fail
                    refine ⟨⟨j + 1, _, by omega, by norm_cast, HCS.out, HX.out, HLq.out, HMq.out, HBq.out⟩, ?_⟩
                    simp [intOf]; omega
                  · have hdj : decide ((j : Int) < nn) = false := by simp only [decide_eq_false_iff_not]; omega
                    go_wp2_with fail
                    go_meet
                    exact ⟨Lq, Mq, bq⟩
          · have hdl : decide ((k : Int) < ls.length) = false := by simp only [decide_eq_false_iff_not]; omega
            have HR : Hid _ := runs_stop F ls k hla
            go_wp2_with fail
            go_meet
            exact ⟨by rw [HR.out]; exact Lr, Mr, br⟩
        case rest =>
          obtain ⟨L4, M4, B4⟩ := hcut
          clear Lr Mr br
          rename World => w4
          by_cases hla : k < ms.length
          · have hdl : decide ((k : Int) < ms.length) = true := by simp only [decide_eq_true_eq]; omega
            obtain ⟨q, off, hga, _, hg, hcel, _⟩ := HD.out k hla
            subst hga
            have d0 := keepCell B4 (hcel 0 _ rfl) hg
            have d1 := keepCell B4 (hcel 1 _ rfl) hg
            have d2 := keepCell B4 (hcel 2 _ rfl) hg
            rw [Nat.add_zero] at d0
            have HR : Hid _ := runs_take F ms k hla
            generalize ms[k] = ac at *
            clear hcel
            have HAk : Hid _ := HK.out ac.kind w4
            generalize runs F (ms.take k) = A at *
            have hqw : q < w4.heap.size := Nat.lt_of_lt_of_le hg B4.size
            have hqp : q ≠ p2 := by omega
            have hqb : q ≠ b2 := by omega
            have hki : (k : Int) < ms.length := by omega
            go_wp2_with fail
            refine Calls.mono HAk.out ?_
            rintro e w3 ⟨rfl, rfl⟩
            by_cases hkind : arn ac.kind 3 = 2
            · have hde : (arn ac.kind 3 == 2) = true := by simpa using hkind
              have HNx : Hid _ := next_calls w3 M4 _ rfl
              have HR2 : Hid (runs F (ms.take (k + 1)) = A.next.2.2) := by show _ = _; rw [HR.out]; unfold Au.act; rw [if_pos hkind]
              clear HR hkind
              go_wp2_with fail
              refine Calls.mono HNx.out ?_
              rintro e w5 ⟨rfl, M5, O5⟩
              go_wp2_with fail
              refine ⟨⟨k + 1, by omega, by norm_cast, L4.ofc O5 n1 n2 n3 n4, by rw [HR2.out]; exact M5, O5.below hp2' hb2' B4 B4.size⟩, ?_⟩
              simp [intOf]; omega
            · have hde : (arn ac.kind 3 == 2) = false := by simpa using hkind
              have HBid : Hid _ := fun wx (hx : Lc wx p2 b2 A) => bid_calls wx hx ac.who ac.n _ rfl
              have HR2 : Hid (runs F (ms.take (k + 1)) = (A.bid ac.who ac.n).2) := by show _ = _; rw [HR.out]; unfold Au.act; rw [if_neg hkind]
              clear HR hkind
              have Ld := M4.drew
              have hqs : q < w3.drew.heap.size := hqw
              go_wp2_with fail
              refine wp_region_held_drew (S := (fun wx => wx.cell? ⟨q, off + k * 3 + 1, none⟩ = some (.int .i64 ac.who) ∧ wx.cell? ⟨q, off + k * 3 + 2, none⟩ = some (.int .i64 ac.n))) (by kernel_rfl) ⟨d1, d2⟩ (fun hS => ?_)
              refine wpAnyH_take (i := 0) (v := (.pointer (some ⟨p2, 0, none⟩))) rfl (by kernel_rfl) (by kernel_rfl) (by kernel_rfl) (fun _ _ _ h => h) (Or.inl ⟨by rfl, fun w hS => by obtain ⟨s0, s1⟩ := hS; go_simp⟩) hS ?_
              refine wpAnyH_take (i := 1) (v := (.slice (some ⟨q, off, none⟩) ms.length cap2)) rfl (by kernel_rfl) (by kernel_rfl) (by kernel_rfl) (fun _ _ _ h => h) (Or.inl ⟨by rfl, fun w hS => by obtain ⟨s0, s1⟩ := hS; go_simp⟩) hS ?_
              refine wpAnyH_take (i := 2) (v := (.int .i64 (k : Int))) rfl (by kernel_rfl) (by kernel_rfl) (by kernel_rfl) (fun _ _ _ h => h) (Or.inl ⟨by rfl, fun w hS => by obtain ⟨s0, s1⟩ := hS; go_simp⟩) hS ?_
              refine wpAnyH_take (i := 3) (v := (.pointer (some ⟨q, off + k * 3, none⟩))) rfl (by kernel_rfl) (by kernel_rfl) (by kernel_rfl) (fun _ _ _ h => h) (Or.inl ⟨by rfl, fun w hS => by obtain ⟨s0, s1⟩ := hS; go_simp⟩) hS ?_
              refine wpAnyH_take (i := 4) (v := (.pointer (some ⟨q, off + k * 3 + 1, none⟩))) rfl (by kernel_rfl) (by kernel_rfl) (by kernel_rfl) (fun _ _ _ h => h) (Or.inl ⟨by rfl, fun w hS => by obtain ⟨s0, s1⟩ := hS; go_simp⟩) hS ?_
              refine wpAnyH_take (i := 5) (v := (.int .i64 ac.who)) rfl (by kernel_rfl) (by kernel_rfl) (by kernel_rfl) (fun _ _ _ h => h) (Or.inl ⟨by rfl, fun w hS => by obtain ⟨s0, s1⟩ := hS; go_simp⟩) hS ?_
              refine wpAnyH_take (i := 6) (v := (.slice (some ⟨q, off, none⟩) ms.length cap2)) rfl (by kernel_rfl) (by kernel_rfl) (by kernel_rfl) (fun _ _ _ h => h) (Or.inl ⟨by rfl, fun w hS => by obtain ⟨s0, s1⟩ := hS; go_simp⟩) hS ?_
              refine wpAnyH_take (i := 7) (v := (.int .i64 (k : Int))) rfl (by kernel_rfl) (by kernel_rfl) (by kernel_rfl) (fun _ _ _ h => h) (Or.inl ⟨by rfl, fun w hS => by obtain ⟨s0, s1⟩ := hS; go_simp⟩) hS ?_
              refine wpAnyH_take (i := 8) (v := (.pointer (some ⟨q, off + k * 3, none⟩))) rfl (by kernel_rfl) (by kernel_rfl) (by kernel_rfl) (fun _ _ _ h => h) (Or.inl ⟨by rfl, fun w hS => by obtain ⟨s0, s1⟩ := hS; go_simp⟩) hS ?_
              refine wpAnyH_take (i := 9) (v := (.pointer (some ⟨q, off + k * 3 + 2, none⟩))) rfl (by kernel_rfl) (by kernel_rfl) (by kernel_rfl) (fun _ _ _ h => h) (Or.inl ⟨by rfl, fun w hS => by obtain ⟨s0, s1⟩ := hS; go_simp⟩) hS ?_
              refine wpAnyH_take (i := 10) (v := (.int .i64 ac.n)) rfl (by kernel_rfl) (by kernel_rfl) (by kernel_rfl) (fun _ _ _ h => h) (Or.inl ⟨by rfl, fun w hS => by obtain ⟨s0, s1⟩ := hS; go_simp⟩) hS ?_
              refine wpAnyH_ready (rs := [11]) (by kernel_rfl) (by simp) ?_
              refine AllReadyH.cons rfl (fun K hK => ?_) AllReadyH.nil
              go_simp
              refine Calls.mono (HBid.out _ Ld) ?_
              rintro e w2 ⟨rfl, L2, O2⟩
              refine hK.out _ _ ⟨keepOfc O2 hS.1 hqs hqp hqb, keepOfc O2 hS.2 hqs hqp hqb⟩ (fun hS => ?_)
              clear hK
              refine wpAnyH_done (by kernel_rfl) ?_ _
              go_wp2_with fail
              refine ⟨⟨k + 1, by omega, by norm_cast, L4.drew.ofc O2 n1 n2 n3 n4, by rw [HR2.out]; exact L2, O2.below hp2' hb2' (B4.trans (Below.refl _ _).drew) B4.size⟩, ?_⟩
              simp [intOf]; omega
          · have hdl : decide ((k : Int) < ms.length) = false := by simp only [decide_eq_false_iff_not]; omega
            have HR : Hid _ := runs_stop F ms k hla
            go_wp2_with fail
            refine ⟨⟨k + 1, by omega, by norm_cast, L4, by rw [HR.out]; exact M4, B4⟩, ?_⟩
            simp [intOf]; omega
      · have hd : decide ((k : Int) < 60) = false := by simp only [decide_eq_false_iff_not]; omega
        have hk6 : k = 60 := by omega
        subst hk6
        go_wp2_with fail
        go_meet
        exact ⟨Lr, Mr, br⟩
  case rest =>
    clear L2 M2 B2
    obtain ⟨L3, M3, B3⟩ := hcut
    rename World => w3
    go_upto_if 103 with fail
    go_cut [1] (fun s1 wx => s1 = .slice c (min 60 ls.length) cap ∧ wx = w3)
    case first =>
      by_cases h : 60 < ls.length
      · have hd : decide (60 < (ls.length : Int)) = true := by simp only [decide_eq_true_eq]; omega
        have := HCP.out h
        go_wp2_with fail
        go_meet
        exact ⟨by rw [Nat.min_eq_left (by omega)], rfl⟩
      · have hd : decide (60 < (ls.length : Int)) = false := by simp only [decide_eq_false_iff_not]; omega
        go_wp2_with fail
        go_meet
        exact ⟨by rw [Nat.min_eq_right (by omega)], rfl⟩
    case rest =>
      obtain ⟨rfl, rfl⟩ := hcut
      rename World => w3
      go_upto_if 108 with fail
      go_cut [2] (fun s1 wx => s1 = .slice c2 (min 60 ms.length) cap2 ∧ wx = w3)
      case first =>
        by_cases h : 60 < ms.length
        · have hd : decide (60 < (ms.length : Int)) = true := by simp only [decide_eq_true_eq]; omega
          have := HCP2.out h
          go_wp2_with fail
          go_meet
          exact ⟨by rw [Nat.min_eq_left (by omega)], rfl⟩
        · have hd : decide (60 < (ms.length : Int)) = false := by simp only [decide_eq_false_iff_not]; omega
          go_wp2_with fail
          go_meet
          exact ⟨by rw [Nat.min_eq_right (by omega)], rfl⟩
      case rest =>
        obtain ⟨rfl, rfl⟩ := hcut
        rename World => w3
        have HB1 : Hid _ := begun_calls s _ _ w3 (Elems.below HL.out (B3.mono (Nat.le_refl _))) (by rw [List.length_take]; omega)
        have HB2 : Hid _ := fun wx (hb : Below w3.heap.size w3 wx) => begun_calls s _ _ wx (Elems.below (Elems.below HM.out B3) hb) (by rw [List.length_take]; omega)
        have e1 : (ls.take (min 60 ls.length)).take 100 = ls.take 60 := by
          rw [List.take_take]
          by_cases h : 60 < ls.length
          · rw [Nat.min_eq_left (show 60 ≤ ls.length by omega)]; rfl
          · rw [List.take_of_length_le (by omega), List.take_of_length_le (by omega)]
        have e2 : (ms.take (min 60 ms.length)).take 100 = ms.take 60 := by
          rw [List.take_take]
          by_cases h : 60 < ms.length
          · rw [Nat.min_eq_left (show 60 ≤ ms.length by omega)]; rfl
          · rw [List.take_of_length_le (by omega), List.take_of_length_le (by omega)]
        rw [e1, HFF.out] at HB1
        rw [e2, HFF.out] at HB2
        clear e1 e2 HL HM HC HD HCP HCP2
        generalize runs F (ls.take 60) = A at *
        generalize runs F (ms.take 60) = C at *
        go_wp2_with fail
        refine Calls.mono HB1.out ?_
        rintro e w4 ⟨p4, b4, rfl, L4, b4', hp4, hb4⟩
        clear HB1
        go_wp2_with fail
        refine Calls.mono (HB2.out w4 b4') ?_
        rintro e w5 ⟨p5, b5, rfl, L5, b5', hp5, hb5⟩
        have z4 := b4'.size
        have z3 := B3.size
        have X5 := (L3.below b4').below b5'
        have Y5 := (M3.below b4').below b5'
        have Z5 := L4.below b5'
        have B5 := (B3.trans (b4'.mono z3)).trans (b5'.mono (by omega))
        clear HB2 b4' b5' L3 M3 L4 B3
        have HBy : Hid _ := fun wx p b A (hx : Lc wx p b A) => bytes_calls wx hx
        by_cases h0 : A.state = 0
        · have HS1 : Hid _ := sale_open w5 X5 h0
          go_wp2_with fail
          refine Calls.mono HS1.out ?_
          rintro e w6 ⟨rfl, b6⟩
          have HS2 : Hid _ := sale_open w6 (Z5.below b6) h0
          go_wp2_with fail
          refine Calls.mono HS2.out ?_
          rintro e w7 ⟨rfl, b7⟩
          have X7 := (X5.below b6).below b7
          have Y7 := (Y5.below b6).below b7
          have Z7 := (Z5.below b6).below b7
          have V7 := (L5.below b6).below b7
          have z5 := B5.size
          have z6 := b6.size
          have B7 := (B5.trans (b6.mono z5)).trans (b7.mono (by omega))
          clear HS1 HS2 b6 b7 X5 Y5 Z5 L5 B5
          generalize auB A = bA at *
          generalize auB C = bC at *
          have X8 := HBy.out _ _ _ _ X7
          go_wp2_with fail
          refine X8.mono ?_
          rintro e w8 ⟨rfl, b8⟩
          clear X8
          have X9 := HBy.out _ _ _ _ (Z7.below b8)
          go_wp2_with fail
          refine X9.mono ?_
          rintro e w9 ⟨rfl, b9⟩
          clear X9
          have X10 := HBy.out _ _ _ _ ((Y7.below b8).below b9)
          go_wp2_with fail
          refine X10.mono ?_
          rintro e w10 ⟨rfl, b10⟩
          clear X10
          have X11 := HBy.out _ _ _ _ (((V7.below b8).below b9).below b10)
          go_wp2_with fail
          refine X11.mono ?_
          rintro e w11 ⟨rfl, b11⟩
          clear X11
          have z7 := B7.size
          have z8 := b8.size
          have z9 := b9.size
          have z10 := b10.size
          have B11 := (((B7.trans (b8.mono z7)).trans (b9.mono (by omega))).trans (b10.mono (by omega))).trans (b11.mono (by omega))
          have HN : Hid _ := numbers_true (.slice none 0 0) (.slice none 0 0) [] w11 (rd_nil _) (rd_nil _) (by simp)
          go_wp2_with fail
          refine Calls.mono HN.out ?_
          rintro e w12 ⟨rfl, b12⟩
          have B12 := B11.trans (b12.mono B11.size)
          go_wp2_with fail
          refine (HA.out _).mono ?_
          rintro e w13 ⟨rfl, b13⟩
          go_wp2
          go_ret
          exact ⟨rfl, B12.trans (b13.mono B12.size)⟩
        · have HS1 : Hid _ := sale_over w5 X5 h0
          have hln := X5.inv.len
          go_wp2_with fail
          refine Calls.mono HS1.out ?_
          rintro e w6 ⟨rfl, S6, b6⟩
          have HS2 : Hid _ := sale_over w6 (Z5.below b6) h0
          go_wp2_with fail
          refine Calls.mono HS2.out ?_
          rintro e w7 ⟨rfl, T7, b7⟩
          have S7 := S6.below b7
          have X7 := (X5.below b6).below b7
          have Y7 := (Y5.below b6).below b7
          have Z7 := (Z5.below b6).below b7
          have V7 := (L5.below b6).below b7
          have z5 := B5.size
          have z6 := b6.size
          have B7 := (B5.trans (b6.mono z5)).trans (b7.mono (by omega))
          have R1 := rd_blk S7 A.ds.length
          have R2 := rd_blk T7 A.ds.length
          have hsl := saleL_len A
          rw [hsl] at R1 R2
          have HR1 : Hid _ := R1
          have HR2 : Hid _ := R2
          have HSL : Hid (A.saleL.length ≤ 140737488351232) := by show _ ≤ _; rw [hsl]; omega
          clear HS1 HS2 b6 b7 X5 Y5 Z5 L5 B5 S6 T7 S7 R1 R2 hsl
          generalize auB A = bA at *
          generalize auB C = bC at *
          generalize A.saleL = SL at *
          generalize A.ds.length = nn at *
          have X8 := HBy.out _ _ _ _ X7
          go_wp2_with fail
          refine X8.mono ?_
          rintro e w8 ⟨rfl, b8⟩
          clear X8
          have X9 := HBy.out _ _ _ _ (Z7.below b8)
          go_wp2_with fail
          refine X9.mono ?_
          rintro e w9 ⟨rfl, b9⟩
          clear X9
          have X10 := HBy.out _ _ _ _ ((Y7.below b8).below b9)
          go_wp2_with fail
          refine X10.mono ?_
          rintro e w10 ⟨rfl, b10⟩
          clear X10
          have X11 := HBy.out _ _ _ _ (((V7.below b8).below b9).below b10)
          go_wp2_with fail
          refine X11.mono ?_
          rintro e w11 ⟨rfl, b11⟩
          clear X11
          have z7 := B7.size
          have z8 := b8.size
          have z9 := b9.size
          have z10 := b10.size
          have B11 := (((B7.trans (b8.mono z7)).trans (b9.mono (by omega))).trans (b10.mono (by omega))).trans (b11.mono (by omega))
          have HN : Hid _ := numbers_true _ _ SL w11 (Rd.below (Rd.below (Rd.below (Rd.below HR1.out b8) b9) b10) b11) (Rd.below (Rd.below (Rd.below (Rd.below HR2.out b8) b9) b10) b11) HSL.out
          go_wp2_with fail
          refine Calls.mono HN.out ?_
          rintro e w12 ⟨rfl, b12⟩
          have B12 := B11.trans (b12.mono B11.size)
          go_wp2_with fail
          refine (HA.out _).mono ?_
          rintro e w13 ⟨rfl, b13⟩
          go_wp2
          go_ret
          exact ⟨rfl, B12.trans (b13.mono B12.size)⟩
end Go.Proofs.Ytdlobjmmlaocaaa
