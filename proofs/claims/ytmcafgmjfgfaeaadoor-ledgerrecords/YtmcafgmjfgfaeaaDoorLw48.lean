/- LedgerRecords: it answers true. -/
import Derived.Test.YtmcafgmjfgfaeaaDoorLw30
import Derived.Test.YtmcafgmjfgfaeaaDoorLw37
import Derived.Test.YtmcafgmjfgfaeaaDoorLw41
import Derived.Test.YtmcafgmjfgfaeaaDoorLw14
import Derived.Test.YtmcafgmjfgfaeaaDoorLw43
import Derived.Test.YtmcafgmjfgfaeaaDoorLw47
import Derived.Deep.RegionHeld3
import Derived.Deep.RegionHeld
import Derived.Deep.DeepCutAuto
import Derived.Deep.CutBlock
namespace Go.Proofs.YtmcafgmjfgfaeaaDoor
open Go.RowKit
set_option linter.unusedSimpArgs false
set_option linter.unusedVariables false
variable {g base p b : Nat} {m l : List Kt}
theorem rm_off {w w' : World} {v : Value} (h : Rm w base v m) (ho : Off b w w') (hb : b < base) : Rm w' base v m := by
  refine World.ownsRow.kept h (row := some b) ⟨ho.os, ho.tape, ho.output, ho.size, fun k hk hj => ho.block k hk (fun e => hj (by rw [e]))⟩ ?_
  obtain ⟨_, ⟨rfl, _⟩ | ⟨q', cap', cur, rfl, hq, _⟩⟩ := h
  · exact Or.inl rfl
  · refine Or.inr ?_
    simp only [Value.ownBlock, ne_eq, Option.some.injEq]
    omega
/-- A guarded call as the next step of a held region. -/
theorem readyH_callG {P : Program} {md : Region.Mode} {ops : Array Oper} {Q : Exit → Act → World → Prop} {S : World → Prop} {fuel : Nat} {listed : Array Bool} {a : Act} {w : World} {i : Nat} {o : Oper} (ho : ops[i]? = some o) (hw : Region.wanted o (yielded ops a.tmps) = true)
    (h : ∀ K' : Act → World → Prop, Shut (∀ a w, S w → (S w → wpAnyH P md ops Q S fuel (listed.setIfInBounds i true) a w) → K' a w) → Oper.wp P o a w K' Q) : AllReadyH P md ops Q S fuel listed a w [i] :=
  AllReadyH.cons ho (fun K hK => by rw [if_pos hw]; exact h K hK) AllReadyH.nil
set_option maxRecDepth 100000 in
set_option maxHeartbeats 4000000 in
theorem records_law (v : Value) (ls : List Ac) (x : Ac) (w : World) (hl : Acs w v ls) (hz : ls.length * 56 ≤ 140737488351232) (hx : x.text.size ≤ 281474976710656) :
    Calls Tryd.prog 3 #[v, x.val] w fun e w' => e = .returned (.bool true) ∧ Below w.heap.size w w' := by
  have HA : Hid _ := awake_calls
  obtain ⟨as_, caps, rfl, hc⟩ := hl.any
  have HC : Hid _ := hc
  clear hc hl
  have HR : Hid (∀ wx, Calls Tryd.prog 6 #[.int .i64 3, .int .i64 2] wx fun e w' => ∃ q cap, e = .returned (.tuple #[.agg #[.int .i64 2, .slice (some ⟨q, 0, none⟩) 3 cap], .bool true]) ∧ Rm w' wx.heap.size (.slice (some ⟨q, 0, none⟩) 3 cap) (List.replicate 3 Kt.zero) ∧ Below wx.heap.size wx w') := fun wx => newref_ok 3 2 wx (by omega) (by omega) (by omega) (by omega)
  obtain ⟨W0, hW0, X0, B0⟩ : ∃ W0, (w.alloc (.cells #[.int .i64 x.kind, .int .i64 x.who, .int .i64 x.dst, .int .i64 x.good, .int .i64 x.n, .string x.text] 24)) = W0 ∧ Blk W0 w.heap.size #[.int .i64 x.kind, .int .i64 x.who, .int .i64 x.dst, .int .i64 x.good, .int .i64 x.n, .string x.text] 24 ∧ Below w.heap.size w W0 := ⟨_, rfl, blk_new _ _ _ _ rfl, by go_grown⟩
  have HN : Hid _ := begun_calls (.slice none 0 0) [] W0 (Or.inl ⟨⟨none, 0, rfl⟩, rfl⟩) (by simp)
  obtain ⟨e0, he0, hl0⟩ : ∃ e0, runs 2 empty3 (([] : List Ac).take 100) = e0 ∧ e0.length = 3 := ⟨_, rfl, rfl⟩
  have hs0 : Sim (List.replicate 3 Kt.zero) e0 := by rw [← he0]; exact Sim.zero 3
  rw [he0] at HN
  obtain ⟨g, hg, hgi⟩ : ∃ g : Nat, 2 = g ∧ (2 : Int) = (g : Int) := ⟨2, rfl, rfl⟩
  have HGI : Hid ((2 : Int) = (g : Int)) := hgi
  have HG2 : Hid (2 = g) := hg
  clear hgi hg
  have HB0 : Hid _ := B0
  have HX0 : Hid _ := X0
  unfold Ac.val
  clear he0 B0 X0
  go_enter Tryd.func3, Tryd.ntmps3
  go_wp2_with fail
  refine Calls.mono HN.out ?_
  rintro e w1 ⟨p, b, rfl, L1, b1, hp, hb⟩
  clear HN
  rw [HG2.out] at L1
  have hb1 : b < w1.heap.size := L1.row.lt
  have hp1 : p < w1.heap.size := L1.blk.lt
  go_wp2_with fail
  refine (HR.out w1).mono ?_
  rintro e w2 ⟨q, cap, rfl, R2, b2⟩
  clear HR
  obtain ⟨W3, hW3, X3, B3⟩ : ∃ W3, (w2.alloc (.cells #[.int .i64 2, .slice (some ⟨q, 0, none⟩) 3 cap] 29)) = W3 ∧ Blk W3 w2.heap.size (rlA g (.slice (some ⟨q, 0, none⟩) 3 cap)) 29 ∧ Below w2.heap.size w2 W3 := ⟨_, rfl, by rw [← HGI.out]; exact blk_new _ _ _ _ rfl, by go_grown⟩
  have L3 := (L1.below b2).below B3
  have R3 := R2.below B3
  have S3 := hs0
  obtain ⟨mm, hmm, hsl⟩ : ∃ mm, List.replicate 3 Kt.zero = mm ∧ 3 = mm.length := ⟨_, rfl, by simp⟩
  rw [hmm] at R3 S3
  rw [hsl] at X3 R3
  have z1 := b1.size
  have z2 := b2.size
  have z3 := B3.size
  have BB : Below W0.heap.size W0 W3 := (b1.trans (b2.mono z1)).trans (B3.mono (by omega))
  have HS : Hid (∃ (q cap : Nat) (m l : List Kt), Lg W3 p b g l ∧ Rm W3 w1.heap.size (.slice (some ⟨q, 0, none⟩) m.length cap) m ∧ Sim m l ∧ Blk W3 w2.heap.size (rlA g (.slice (some ⟨q, 0, none⟩) m.length cap)) 29 ∧ l.length = 3) := ⟨q, cap, _, _, L3, R3, S3, X3, hl0⟩
  clear hsl hmm L3 R3 S3 X3 L1 R2 b1 b2 B3 hs0 hl0
  go_wp2_with fail
  go_loopw [8] (fun i wr => ∃ k : Nat, k ≤ ls.length ∧ k ≤ 60 ∧ i = .int .i64 k ∧ (∃ (q cap : Nat) (m l : List Kt), Lg wr p b g l ∧ Rm wr w1.heap.size (.slice (some ⟨q, 0, none⟩) m.length cap) m ∧ Sim m l ∧ Blk wr w2.heap.size (rlA g (.slice (some ⟨q, 0, none⟩) m.length cap)) 29 ∧ l.length = 3) ∧ Below W0.heap.size W0 wr) (fun i _ => ls.length - (intOf i).toNat)
  case atStart => exact ⟨0, Nat.zero_le _, by omega, rfl, HS.out, BB⟩
  case round =>
    clear HS hW3 BB z3
    obtain ⟨k, hk, hk1, rfl, ⟨q, cap, m, l, Lr, Rr, Sr, Xr, hl3⟩, br⟩ := hrel
    have hxl : w2.heap.size < wr.heap.size := Xr.lt
    by_cases hgo : k < ls.length ∧ k < 60
    · obtain ⟨hlt, hlt1⟩ := hgo
      have hd1 : decide ((k : Int) < ls.length) = true := by simp only [decide_eq_true_eq]; omega
      have hd2 : decide ((k : Int) < 60) = true := by simp only [decide_eq_true_eq]; omega
      obtain ⟨qs, off, hga, _, hgq, hcel, hfit⟩ := HC.out k hlt
      subst hga
      have hg : qs < w.heap.size := hgq
      have hqs0 : qs < W0.heap.size := Nat.lt_of_lt_of_le hg HB0.out.size
      have FA0 : Hid (∀ wx, Below W0.heap.size W0 wx → wx.cell? ⟨qs, off + k * 6, none⟩ = some (.int .i64 ls[k].kind)) := fun wx hx => keepCell hx (keepCell HB0.out (hcel 0 _ rfl) hg) hqs0
      have FA1 : Hid (∀ wx, Below W0.heap.size W0 wx → wx.cell? ⟨qs, off + k * 6 + 1, none⟩ = some (.int .i64 ls[k].who)) := fun wx hx => keepCell hx (keepCell HB0.out (hcel 1 _ rfl) hg) hqs0
      have FA2 : Hid (∀ wx, Below W0.heap.size W0 wx → wx.cell? ⟨qs, off + k * 6 + 2, none⟩ = some (.int .i64 ls[k].dst)) := fun wx hx => keepCell hx (keepCell HB0.out (hcel 2 _ rfl) hg) hqs0
      have FA3 : Hid (∀ wx, Below W0.heap.size W0 wx → wx.cell? ⟨qs, off + k * 6 + 3, none⟩ = some (.int .i64 ls[k].good)) := fun wx hx => keepCell hx (keepCell HB0.out (hcel 3 _ rfl) hg) hqs0
      have FA4 : Hid (∀ wx, Below W0.heap.size W0 wx → wx.cell? ⟨qs, off + k * 6 + 4, none⟩ = some (.int .i64 ls[k].n)) := fun wx hx => keepCell hx (keepCell HB0.out (hcel 4 _ rfl) hg) hqs0
      have FA5 : Hid (∀ wx, Below W0.heap.size W0 wx → wx.cell? ⟨qs, off + k * 6 + 5, none⟩ = some (.string ls[k].text)) := fun wx hx => keepCell hx (keepCell HB0.out (hcel 5 _ rfl) hg) hqs0
      have FB0 : Hid (∀ wx, Below wr.heap.size wr wx → wx.cell? ⟨qs, off + k * 6, none⟩ = some (.int .i64 ls[k].kind)) := fun wx hx => FA0.out wx (br.trans (hx.mono br.size))
      have FB1 : Hid (∀ wx, Below wr.heap.size wr wx → wx.cell? ⟨qs, off + k * 6 + 1, none⟩ = some (.int .i64 ls[k].who)) := fun wx hx => FA1.out wx (br.trans (hx.mono br.size))
      have FB2 : Hid (∀ wx, Below wr.heap.size wr wx → wx.cell? ⟨qs, off + k * 6 + 2, none⟩ = some (.int .i64 ls[k].dst)) := fun wx hx => FA2.out wx (br.trans (hx.mono br.size))
      have FB3 : Hid (∀ wx, Below wr.heap.size wr wx → wx.cell? ⟨qs, off + k * 6 + 3, none⟩ = some (.int .i64 ls[k].good)) := fun wx hx => FA3.out wx (br.trans (hx.mono br.size))
      have FB4 : Hid (∀ wx, Below wr.heap.size wr wx → wx.cell? ⟨qs, off + k * 6 + 4, none⟩ = some (.int .i64 ls[k].n)) := fun wx hx => FA4.out wx (br.trans (hx.mono br.size))
      have FB5 : Hid (∀ wx, Below wr.heap.size wr wx → wx.cell? ⟨qs, off + k * 6 + 5, none⟩ = some (.string ls[k].text)) := fun wx hx => FA5.out wx (br.trans (hx.mono br.size))
      have FY0 : Hid (∀ wx, Below wr.heap.size wr wx → wx.cell? ⟨w2.heap.size, 0, none⟩ = some (.int .i64 g)) := fun wx hx => keepCell hx (Xr.cell rfl) hxl
      have FY1 : Hid (∀ wx, Below wr.heap.size wr wx → wx.cell? ⟨w2.heap.size, 1, none⟩ = some (.slice (some ⟨q, 0, none⟩) m.length cap)) := fun wx hx => keepCell hx (Xr.cell rfl) hxl
      have HTo : Hid (∀ wx, Below wr.heap.size wr wx → Calls Tryd.prog 7 #[.agg #[.int .i64 g, .slice (some ⟨q, 0, none⟩) m.length cap], ls[k].val] wx (Told (act g l ls[k]) g w1.heap.size wx)) := fun wx hx => told_ref wx _ ls[k] (Rr.below hx) Sr Lr.inv (by have := hx.size; omega)
      have HD : Hid (∀ wx, Lg wx p b g l → Calls Tryd.prog 8 #[.pointer (some ⟨p, 0, none⟩), ls[k].val] wx fun e w' => e = .returned (.int .i64 (act g l ls[k]).1) ∧ Lg w' p b g (act g l ls[k]).2 ∧ Off b wx w') := fun wx hx => done_calls wx hx ls[k] (Nat.le_trans hfit (by omega)) _ rfl
      have hr3 : (act g l ls[k]).2.length = 3 := (act_len g l ls[k]).trans hl3
      generalize act g l ls[k] = r at *
      generalize ls[k] = ac at *
      unfold Ac.val at HTo HD
      have HLr : Hid _ := Lr
      have HXr : Hid _ := Xr
      have HBr : Hid _ := br
      have HRr : Hid _ := Rr
      have hkl : (k : Int) < ls.length := by omega
      clear hcel hfit Lr Xr br Rr Sr
      go_upto_region 8 with fail
      go_cut [9, 10] (fun a12 a13 wx => ∃ (nb q2 cap2 : Nat) (m2 : List Kt), a12 = .pointer (some ⟨nb, 0, none⟩) ∧ a13 = .int .i64 r.1 ∧ Blk wx nb (rlA g (.slice (some ⟨q2, 0, none⟩) m2.length cap2)) 29 ∧ Rm wx w1.heap.size (.slice (some ⟨q2, 0, none⟩) m2.length cap2) m2 ∧ Sim m2 r.2 ∧ Below wr.heap.size wr wx ∧ wr.heap.size ≤ nb)
      case first =>
        refine wp_region_held_drew (S := (fun wx => Below wr.heap.size wr wx)) (by kernel_rfl) ((Below.refl _ _).drew) (fun hS => ?_)
        refine wpAnyH_take (i := 0) (v := .agg #[.int .i64 g, .slice (some ⟨q, 0, none⟩) m.length cap]) rfl (by kernel_rfl) (by kernel_rfl) (by kernel_rfl) (fun _ _ _ h => h) (Or.inl ⟨by rfl, fun w3 hS => by have c0 := FY0.out w3 hS; have c1 := FY1.out w3 hS; go_simp⟩) hS ?_
        refine wpAnyH_take (i := 1) (v := .slice (some ⟨qs, off, none⟩) ls.length caps) rfl (by kernel_rfl) (by kernel_rfl) (by kernel_rfl) (fun _ _ _ h => h) (Or.inl ⟨by rfl, fun w3 hS => by go_simp⟩) hS ?_
        refine wpAnyH_take (i := 2) (v := .int .i64 k) rfl (by kernel_rfl) (by kernel_rfl) (by kernel_rfl) (fun _ _ _ h => h) (Or.inl ⟨by rfl, fun w3 hS => by go_simp⟩) hS ?_
        refine wpAnyH_take (i := 3) (v := .pointer (some ⟨qs, off + k * 6, none⟩)) rfl (by kernel_rfl) (by kernel_rfl) (by kernel_rfl) (fun _ _ _ h => h) (Or.inl ⟨by rfl, fun w3 hS => by go_simp⟩) hS ?_
        refine wpAnyH_take (i := 4) (v := .agg #[.int .i64 ac.kind, .int .i64 ac.who, .int .i64 ac.dst, .int .i64 ac.good, .int .i64 ac.n, .string ac.text]) rfl (by kernel_rfl) (by kernel_rfl) (by kernel_rfl) (fun _ _ _ h => h) (Or.inl ⟨by rfl, fun w3 hS => by have d0 := FB0.out w3 hS; have d1 := FB1.out w3 hS; have d2 := FB2.out w3 hS; have d3 := FB3.out w3 hS; have d4 := FB4.out w3 hS; have d5 := FB5.out w3 hS; go_simp⟩) hS ?_
        refine wpAnyH_ready (rs := [5, 9]) (by kernel_rfl) (by simp) ?_
        refine AllReadyH.cons rfl (fun K hK => ?_) (AllReadyH.cons rfl (fun K hK => ?_) AllReadyH.nil)
        · go_simp
          refine (HTo.out _ hS).mono ?_
          rintro e w2 ⟨q2, cap2, m2, rfl, R2, S2, b2⟩
          have zr : wr.heap.size ≤ w2.heap.size := b2.size
          refine hK.out _ _ (hS.trans (b2.mono hS.size)) (fun hS => ?_)
          clear hK
          refine wpAnyH_take (i := 6) (v := .tuple #[.agg #[.int .i64 g, .slice (some ⟨q2, 0, none⟩) m2.length cap2], .int .i64 r.1]) rfl (by kernel_rfl) (by kernel_rfl) (by kernel_rfl) (fun _ _ _ h => h) (Or.inl ⟨by rfl, fun w3 hS => by go_simp⟩) hS ?_
          refine wpAnyH_take (i := 7) (v := .agg #[.int .i64 g, .slice (some ⟨q2, 0, none⟩) m2.length cap2]) rfl (by kernel_rfl) (by kernel_rfl) (by kernel_rfl) (fun _ _ _ h => h) (Or.inl ⟨by rfl, fun w3 hS => by go_simp⟩) hS ?_
          refine wpAnyH_take (i := 8) (v := .int .i64 r.1) rfl (by kernel_rfl) (by kernel_rfl) (by kernel_rfl) (fun _ _ _ h => h) (Or.inl ⟨by rfl, fun w3 hS => by go_simp⟩) hS ?_
          refine wpAnyH_ready (rs := [9]) (by kernel_rfl) (by simp) ?_
          refine AllReadyH.cons rfl (fun K hK => ?_) AllReadyH.nil
          go_simp
          refine hK.out _ _ (hS.alloc zr _) (fun hS => ?_)
          clear hK
          have hnb : wr.heap.size ≤ w2.heap.size := zr
          have YY := blk_new w2 w2.heap.size (rlA 0 (.slice none 0 0)) 29 rfl
          refine wpAnyH_ready (rs := [10]) (by kernel_rfl) (by simp) ?_
          refine AllReadyH.cons rfl (fun K hK => ?_) AllReadyH.nil
          refine step_ifR rfl ?_
          refine wp_store_row 29 (.tmp 9) _ rfl w2.heap.size (rlA g (.slice (some ⟨q2, 0, none⟩) m2.length cap2)) rfl rfl 29 _ YY (rlA_info _ _) rfl (rlA_one _ _ _ _) ?_
          refine hK.out _ _ (below_setRow hS _ _ hnb) (fun hS => ?_)
          clear hK
          refine wpAnyH_take (i := 11) (v := .int .i64 r.1) rfl (by kernel_rfl) (by kernel_rfl) (by kernel_rfl) (fun _ _ _ h => h) (Or.inl ⟨by rfl, fun w3 hS => by go_simp⟩) hS ?_
          refine wpAnyH_done (by kernel_rfl) ?_ _
          go_wp2_with fail
          go_meet
          exact ⟨w2.heap.size, q2, cap2, m2, rfl, rfl, Blk.setRow YY _, Rm.row (R2.below ((Below.refl _ _).alloc (Nat.le_refl _) _)) YY _, S2, hS, hnb⟩
        · go_simp
          refine hK.out _ _ (hS.alloc hS.size _) (fun hS => ?_)
          clear hK
          refine wpAnyH_ready (rs := [5]) (by kernel_rfl) (by simp) ?_
          refine AllReadyH.cons rfl (fun K hK => ?_) AllReadyH.nil
          go_simp
          refine (HTo.out _ hS).mono ?_
          rintro e w2 ⟨q2, cap2, m2, rfl, R2, S2, b2⟩
          refine hK.out _ _ (hS.trans (b2.mono hS.size)) (fun hS => ?_)
          clear hK
          refine wpAnyH_take (i := 6) (v := .tuple #[.agg #[.int .i64 g, .slice (some ⟨q2, 0, none⟩) m2.length cap2], .int .i64 r.1]) rfl (by kernel_rfl) (by kernel_rfl) (by kernel_rfl) (fun _ _ _ h => h) (Or.inl ⟨by rfl, fun w3 hS => by go_simp⟩) hS ?_
          refine wpAnyH_take (i := 7) (v := .agg #[.int .i64 g, .slice (some ⟨q2, 0, none⟩) m2.length cap2]) rfl (by kernel_rfl) (by kernel_rfl) (by kernel_rfl) (fun _ _ _ h => h) (Or.inl ⟨by rfl, fun w3 hS => by go_simp⟩) hS ?_
          refine wpAnyH_take (i := 8) (v := .int .i64 r.1) rfl (by kernel_rfl) (by kernel_rfl) (by kernel_rfl) (fun _ _ _ h => h) (Or.inl ⟨by rfl, fun w3 hS => by go_simp⟩) hS ?_
          have hnb : wr.heap.size ≤ wr.heap.size := Nat.le_refl _
          have YY : Blk w2 wr.heap.size (rlA 0 (.slice none 0 0)) 29 := Blk.below (show Blk (wr.alloc (.cells #[.int .i64 0, .slice none 0 0] 29)).drew wr.heap.size (rlA 0 (.slice none 0 0)) 29 from (blk_new wr wr.heap.size (rlA 0 (.slice none 0 0)) 29 rfl).drew) b2
          refine wpAnyH_ready (rs := [10]) (by kernel_rfl) (by simp) ?_
          refine AllReadyH.cons rfl (fun K hK => ?_) AllReadyH.nil
          refine step_ifR rfl ?_
          refine wp_store_row 29 (.tmp 9) _ rfl wr.heap.size (rlA g (.slice (some ⟨q2, 0, none⟩) m2.length cap2)) rfl rfl 29 _ YY (rlA_info _ _) rfl (rlA_one _ _ _ _) ?_
          refine hK.out _ _ (below_setRow hS _ _ hnb) (fun hS => ?_)
          clear hK
          refine wpAnyH_take (i := 11) (v := .int .i64 r.1) rfl (by kernel_rfl) (by kernel_rfl) (by kernel_rfl) (fun _ _ _ h => h) (Or.inl ⟨by rfl, fun w3 hS => by go_simp⟩) hS ?_
          refine wpAnyH_done (by kernel_rfl) ?_ _
          go_wp2_with fail
          go_meet
          exact ⟨wr.heap.size, q2, cap2, m2, rfl, rfl, Blk.setRow YY _, Rm.row R2 YY _, S2, hS, hnb⟩
      case rest =>
        obtain ⟨nb, q2, cap2, m2, rfl, rfl, N3, R3, S3, b3, hnb⟩ := hcut
        rename World => w3
        have z3 := b3.size
        have X3 : Blk w3 w2.heap.size (rlA g (.slice (some ⟨q, 0, none⟩) m.length cap)) 29 := Blk.below HXr.out b3
        have L3 : Lg w3 p b g l := HLr.out.below b3
        have B3 : Below W0.heap.size W0 w3 := HBr.out.trans (b3.mono HBr.out.size)
        have n0 : w3.cell? ⟨nb, 0, none⟩ = some (.int .i64 g) := N3.cell rfl
        have n1 : w3.cell? ⟨nb, 1, none⟩ = some (.slice (some ⟨q2, 0, none⟩) m2.length cap2) := N3.cell rfl
        obtain ⟨W5, hW5, X5, L5, R5, B5, Z5⟩ : ∃ W5, w3.setRow w2.heap.size (rlA g (.slice (some ⟨q2, 0, none⟩) m2.length cap2)) = W5 ∧ Blk W5 w2.heap.size (rlA g (.slice (some ⟨q2, 0, none⟩) m2.length cap2)) 29 ∧ Lg W5 p b g l ∧ Rm W5 w1.heap.size (.slice (some ⟨q2, 0, none⟩) m2.length cap2) m2 ∧ Below W0.heap.size W0 W5 ∧ Hid (W5.heap.size = w3.heap.size) := ⟨_, rfl, Blk.setRow X3 _, ⟨L3.blk.setRowOther _ (by omega), L3.row.setRowOther _ (by omega), L3.ne, L3.inv⟩, Rm.row R3 X3 _, below_setRow B3 _ _ (by omega), (by simp : (w3.setRow w2.heap.size (rlA g (.slice (some ⟨q2, 0, none⟩) m2.length cap2))).heap.size = w3.heap.size)⟩
        have HDD : Hid _ := HD.out W5 L5
        have d0 := FA0.out W5 B5
        have d1 := FA1.out W5 B5
        have d2 := FA2.out W5 B5
        have d3 := FA3.out W5 B5
        have d4 := FA4.out W5 B5
        have d5 := FA5.out W5 B5
        have HS3 : Hid _ := S3
        have HX5 : Hid _ := X5
        have HR5 : Hid _ := R5
        have HB5 : Hid _ := B5
        have HL5 : Hid _ := L5
        clear HD HTo S3 FA0 FA1 FA2 FA3 FA4 FA5 FB0 FB1 FB2 FB3 FB4 FB5 FY0 FY1 X5 R5 B5 L5 L3 R3 B3 N3
        go_wp2_with ((with_reducible refine st_row (ty := 29) (cs' := rlA g (.slice (some ⟨q2, 0, none⟩) m2.length cap2)) X3 (rlA_info _ _) (rlA_same _ _ _ _) (rlA_one _ _ _ _) hW5 ?_ ?_ ?_); rfl; rfl)
        refine Calls.mono HDD.out ?_
        rintro e w6 ⟨rfl, L6, o6⟩
        clear d0 d1 d2 d3 d4 d5 HDD
        have hz5 := HB5.out.size
        have hz6 := Z5.out
        have HE1 : Hid (Rm w6 w1.heap.size (.slice (some ⟨q2, 0, none⟩) m2.length cap2) m2 ∧ Blk w6 w2.heap.size (rlA g (.slice (some ⟨q2, 0, none⟩) m2.length cap2)) 29 ∧ Below W0.heap.size W0 w6) := ⟨rm_off HR5.out o6 hb1, Blk.off HX5.out o6 (by omega), o6.below hb HB5.out hz5⟩
        clear hz5 hz6
        go_wp2_with fail
        refine ⟨⟨k + 1, by omega, by omega, by norm_cast, ⟨q2, cap2, m2, r.2, L6, HE1.out.1, HS3.out, HE1.out.2.1, hr3⟩, HE1.out.2.2⟩, ?_⟩
        simp [intOf]; omega
    · have hzr := br.size
      by_cases h1 : k < ls.length
      · have hd1 : decide ((k : Int) < ls.length) = true := by simp only [decide_eq_true_eq]; omega
        have hd2 : decide ((k : Int) < 60) = false := by simp only [decide_eq_false_iff_not]; omega
        have HL : Hid _ := Lr
        have HR : Hid _ := Rr
        have HS : Hid _ := Sr
        have HX : Hid _ := Xr
        have HI : Hid _ := Lr.inv
        have HRe : Hid _ := records_calls wr Lr
        have HOf : Hid (∀ (wx : World) (va : Value) (bs : Nat), wx.ownsRow bs 71 2 va l.length (rcCells (recs g l)) → Calls Tryd.prog 12 #[.int .i64 3, .int .i64 2, va] wx fun e w' => ∃ p b, e = .returned (.tuple #[.pointer (some ⟨p, 0, none⟩), .int .i64 0]) ∧ Lg w' p b g l ∧ Below wx.heap.size wx w' ∧ wx.heap.size ≤ p ∧ wx.heap.size ≤ b) := fun wx va bs hv => by
          have h := of_own g l Lr.inv va bs wx hv
          rw [hl3, ← HGI.out] at h
          exact h
        have HLn : Hid (l.length = 3) := hl3
        have HBr : Hid _ := br
        clear Lr Rr Sr Xr hl3 br
        go_wp2_with fail
        refine Calls.mono HRe.out ?_
        rintro e wa ⟨va, rfl, OA, ba⟩
        have za := ba.size
        have XA : Blk wa w2.heap.size (rlA g (.slice (some ⟨q, 0, none⟩) m.length cap)) 29 := Blk.below HX.out ba
        have x0 : wa.cell? ⟨w2.heap.size, 0, none⟩ = some (.int .i64 g) := XA.cell rfl
        have x1 : wa.cell? ⟨w2.heap.size, 1, none⟩ = some (.slice (some ⟨q, 0, none⟩) m.length cap) := XA.cell rfl
        have HRR : Hid _ := records_ref wa _ (Rm.below HR.out ba) HS.out HI.out
        have HXA : Hid _ := XA
        have HOA : Hid _ := OA
        clear XA OA
        go_wp2_with fail
        refine Calls.mono HRR.out ?_
        rintro e wb ⟨vb, rfl, OB, bb⟩
        have zb := bb.size
        have HSR : Hid _ := sameRecords_ref va vb (recs g l) (recs g l) wb ((rcs_recs HI.out HOA.out).below bb) (rcs_recs HI.out OB) (by rw [recs_len, HLn.out]; omega) (by rw [recs_len, HLn.out]; omega)
        rw [sameRc_self] at HSR
        clear OB HRR x0 x1
        go_wp2_with fail
        refine Calls.mono HSR.out ?_
        rintro e wc ⟨rfl, bc⟩
        have zc := bc.size
        have BAC : Below wa.heap.size wa wc := bb.trans (bc.mono zb)
        have HO1 : Hid _ := HOf.out wc va _ (own_belowL HOA.out BAC)
        go_wp2_with fail
        refine Calls.mono HO1.out ?_
        rintro e wd ⟨pz, bz, rfl, LZ, bd, hpz, hbz⟩
        have zd := bd.size
        have BAD : Below wa.heap.size wa wd := BAC.trans (bd.mono (by omega))
        have XD : Blk wd w2.heap.size (rlA g (.slice (some ⟨q, 0, none⟩) m.length cap)) 29 := Blk.below HXA.out BAD
        have x0 : wd.cell? ⟨w2.heap.size, 0, none⟩ = some (.int .i64 g) := XD.cell rfl
        have x1 : wd.cell? ⟨w2.heap.size, 1, none⟩ = some (.slice (some ⟨q, 0, none⟩) m.length cap) := XD.cell rfl
        have BRD : Below wr.heap.size wr wd := ba.trans (BAD.mono za)
        have LP := HL.out.below BRD
        have HLk : Hid _ := like_ref wd _ LZ (Rm.below HR.out BRD) HS.out
        have HLP : Hid _ := LP
        have HLZ : Hid _ := LZ
        clear LP LZ XD
        go_wp2_with fail
        refine Calls.mono HLk.out ?_
        rintro e we ⟨rfl, be⟩
        have ze := be.size
        have LP := HLP.out.below be
        have LZ := HLZ.out.below be
        have hpb : p < wr.heap.size := HL.out.blk.lt
        have hbb : b < wr.heap.size := HL.out.row.lt
        have HD1 : Hid (∀ wx, Lg wx p b g l → Calls Tryd.prog 8 #[.pointer (some ⟨p, 0, none⟩), .agg #[.int .i64 x.kind, .int .i64 x.who, .int .i64 x.dst, .int .i64 x.good, .int .i64 x.n, .string x.text]] wx fun e w' => e = .returned (.int .i64 (act g l x).1) ∧ Lg w' p b g (act g l x).2 ∧ Off b wx w') := fun wx h => done_calls wx h x hx _ rfl
        have HD2 : Hid (∀ wx, Lg wx pz bz g l → Calls Tryd.prog 8 #[.pointer (some ⟨pz, 0, none⟩), .agg #[.int .i64 x.kind, .int .i64 x.who, .int .i64 x.dst, .int .i64 x.good, .int .i64 x.n, .string x.text]] wx fun e w' => e = .returned (.int .i64 (act g l x).1) ∧ Lg w' pz bz g (act g l x).2 ∧ Off bz wx w') := fun wx h => done_calls wx h x hx _ rfl
        have hr3 : (act g l x).2.length = 3 := (act_len g l x).trans HLn.out
        generalize act g l x = r at *
        have FX0 : Hid (∀ wx, Below W0.heap.size W0 wx → wx.cell? ⟨w.heap.size, 0, none⟩ = some (.int .i64 x.kind)) := fun wx hx => keepCell hx (Blk.cell HX0.out rfl) (Blk.lt HX0.out)
        have FX1 : Hid (∀ wx, Below W0.heap.size W0 wx → wx.cell? ⟨w.heap.size, 1, none⟩ = some (.int .i64 x.who)) := fun wx hx => keepCell hx (Blk.cell HX0.out rfl) (Blk.lt HX0.out)
        have FX2 : Hid (∀ wx, Below W0.heap.size W0 wx → wx.cell? ⟨w.heap.size, 2, none⟩ = some (.int .i64 x.dst)) := fun wx hx => keepCell hx (Blk.cell HX0.out rfl) (Blk.lt HX0.out)
        have FX3 : Hid (∀ wx, Below W0.heap.size W0 wx → wx.cell? ⟨w.heap.size, 3, none⟩ = some (.int .i64 x.good)) := fun wx hx => keepCell hx (Blk.cell HX0.out rfl) (Blk.lt HX0.out)
        have FX4 : Hid (∀ wx, Below W0.heap.size W0 wx → wx.cell? ⟨w.heap.size, 4, none⟩ = some (.int .i64 x.n)) := fun wx hx => keepCell hx (Blk.cell HX0.out rfl) (Blk.lt HX0.out)
        have FX5 : Hid (∀ wx, Below W0.heap.size W0 wx → wx.cell? ⟨w.heap.size, 5, none⟩ = some (.string x.text)) := fun wx hx => keepCell hx (Blk.cell HX0.out rfl) (Blk.lt HX0.out)
        have hz0 := HBr.out.size
        have B0e : Below W0.heap.size W0 we := HBr.out.trans ((BRD.trans (be.mono (by omega))).mono hz0)
        have HB0e : Hid _ := B0e
        clear HRe HOf HSR HO1 HLk B0e x0 x1 HX HR HS HXA HOA ba bb bc bd BAC BAD BRD
        go_upto_region 17 with fail
        refine wp_region_held_drew (S := (fun wx => Below W0.heap.size W0 wx)) (by kernel_rfl) (HB0e.out.drew) (fun hS => ?_)
        refine wpAnyH_take (i := 0) (v := .pointer (some ⟨p, 0, none⟩)) rfl (by kernel_rfl) (by kernel_rfl) (by kernel_rfl) (fun _ _ _ h => h) (Or.inl ⟨by kernel_rfl, fun w3 hS => by go_simp⟩) hS ?_
        refine wpAnyH_take (i := 1) (v := .agg #[.int .i64 x.kind, .int .i64 x.who, .int .i64 x.dst, .int .i64 x.good, .int .i64 x.n, .string x.text]) rfl (by kernel_rfl) (by kernel_rfl) (by kernel_rfl) (fun _ _ _ h => h) (Or.inl ⟨by kernel_rfl, fun w3 hS => by have d0 := FX0.out w3 hS; have d1 := FX1.out w3 hS; have d2 := FX2.out w3 hS; have d3 := FX3.out w3 hS; have d4 := FX4.out w3 hS; have d5 := FX5.out w3 hS; go_simp⟩) hS ?_
        refine wpAnyH_take (i := 3) (v := .pointer (some ⟨pz, 0, none⟩)) rfl (by kernel_rfl) (by kernel_rfl) (by kernel_rfl) (fun _ _ _ h => h) (Or.inl ⟨by kernel_rfl, fun w3 hS => by go_simp⟩) hS ?_
        refine wpAnyH_take (i := 4) (v := .agg #[.int .i64 x.kind, .int .i64 x.who, .int .i64 x.dst, .int .i64 x.good, .int .i64 x.n, .string x.text]) rfl (by kernel_rfl) (by kernel_rfl) (by kernel_rfl) (fun _ _ _ h => h) (Or.inl ⟨by kernel_rfl, fun w3 hS => by have d0 := FX0.out w3 hS; have d1 := FX1.out w3 hS; have d2 := FX2.out w3 hS; have d3 := FX3.out w3 hS; have d4 := FX4.out w3 hS; have d5 := FX5.out w3 hS; go_simp⟩) hS ?_
        refine wpAnyH_ready (rs := [2]) (by kernel_rfl) (by simp) ?_
        refine AllReadyH.cons rfl (fun K hK => ?_) AllReadyH.nil
        go_simp
        refine (HD1.out _ LP.drew).mono ?_
        rintro e w5 ⟨rfl, L5, o5⟩
        have LZ5 : Lg w5 pz bz g l := LZ.drew.off o5 (by omega) (by omega)
        have z5 := o5.size
        refine hK.out _ _ (o5.below hb hS hS.size) (fun hS => ?_)
        clear hK
        refine wpAnyH_ready (rs := [5]) (by kernel_rfl) (by simp) ?_
        refine AllReadyH.cons rfl (fun K hK => ?_) AllReadyH.nil
        go_simp
        refine (HD2.out _ LZ5).mono ?_
        rintro e w6 ⟨rfl, L6z, o6⟩
        have L6 : Lg w6 p b g r.2 := L5.off o6 (by omega) (by omega)
        have z6 := o6.size
        have HRp : Hid _ := records_calls w6 L6
        refine hK.out _ _ (o6.below (by omega) hS hS.size) (fun hS => ?_)
        clear hK
        refine wpAnyH_take (i := 6) (v := .bool true) rfl (by kernel_rfl) (by kernel_rfl) (by kernel_rfl) (fun _ _ _ h => h) (Or.inl ⟨by kernel_rfl, fun w3 hS => by go_simp⟩) hS ?_
        refine wpAnyH_take (i := 7) (v := .bool true) rfl (by kernel_rfl) (by kernel_rfl) (by kernel_rfl) (fun _ _ _ h => h) (Or.inl ⟨by kernel_rfl, fun w3 hS => by go_simp⟩) hS ?_
        refine wpAnyH_take (i := 8) (v := .pointer (some ⟨p, 0, none⟩)) rfl (by kernel_rfl) (by kernel_rfl) (by kernel_rfl) (fun _ _ _ h => h) (Or.inl ⟨by kernel_rfl, fun w3 hS => by go_simp⟩) hS ?_
        refine wpAnyH_take (i := 10) (v := .pointer (some ⟨pz, 0, none⟩)) rfl (by kernel_rfl) (by kernel_rfl) (by kernel_rfl) (fun _ _ _ h => h) (Or.inl ⟨by kernel_rfl, fun w3 hS => by go_simp⟩) hS ?_
        refine wpAnyH_ready (rs := [9]) (by kernel_rfl) (by simp) ?_
        refine readyH_callG rfl (by kernel_rfl) (fun K hK => ?_)
        go_simp
        refine Calls.mono HRp.out ?_
        rintro e w7 ⟨v7, rfl, O7, b7⟩
        have HRz : Hid _ := records_calls w7 (L6z.below b7)
        refine hK.out _ _ (hS.trans (b7.mono hS.size)) (fun hS => ?_)
        clear hK
        refine wpAnyH_ready (rs := [11]) (by kernel_rfl) (by simp) ?_
        refine readyH_callG rfl (by kernel_rfl) (fun K hK => ?_)
        go_simp
        refine Calls.mono HRz.out ?_
        rintro e w8 ⟨v8, rfl, O8, b8⟩
        have HSS : Hid _ := sameRecords_ref v7 v8 (recs g r.2) (recs g r.2) w8 ((rcs_recs L6.inv O7).below b8) (rcs_recs L6.inv O8) (by rw [recs_len, hr3]; omega) (by rw [recs_len, hr3]; omega)
        rw [sameRc_self] at HSS
        refine hK.out _ _ (hS.trans (b8.mono hS.size)) (fun hS => ?_)
        clear hK
        refine wpAnyH_ready (rs := [12]) (by kernel_rfl) (by simp) ?_
        refine readyH_callG rfl (by kernel_rfl) (fun K hK => ?_)
        go_simp
        refine Calls.mono HSS.out ?_
        rintro e w9 ⟨rfl, b9⟩
        refine hK.out _ _ (hS.trans (b9.mono hS.size)) (fun hS => ?_)
        clear hK
        refine wpAnyH_take (i := 13) (v := .bool true) rfl (by kernel_rfl) (by kernel_rfl) (by kernel_rfl) (fun _ _ _ h => h) (Or.inl ⟨by kernel_rfl, fun w3 hS => by go_simp⟩) hS ?_
        refine wpAnyH_take (i := 14) (v := .bool true) rfl (by kernel_rfl) (by kernel_rfl) (by kernel_rfl) (fun _ _ _ h => h) (Or.inl ⟨by kernel_rfl, fun w3 hS => by go_simp⟩) hS ?_
        refine wpAnyH_ready (rs := [15]) (by kernel_rfl) (by simp) ?_
        refine readyH_callG rfl (by kernel_rfl) (fun K hK => ?_)
        go_simp
        refine (HA.out _).mono ?_
        rintro e w10 ⟨rfl, b10⟩
        refine hK.out _ _ (hS.trans (b10.mono hS.size)) (fun hS => ?_)
        clear hK
        refine wpAnyH_take (i := 16) (v := .bool true) rfl (by kernel_rfl) (by kernel_rfl) (by kernel_rfl) (fun _ _ _ h => h) (Or.inl ⟨by kernel_rfl, fun w3 hS => by go_simp⟩) hS ?_
        refine wpAnyH_take (i := 17) (v := .bool true) rfl (by kernel_rfl) (by kernel_rfl) (by kernel_rfl) (fun _ _ _ h => h) (Or.inl ⟨by kernel_rfl, fun w3 hS => by go_simp⟩) hS ?_
        refine wpAnyH_done (by kernel_rfl) ?_ _
        go_wp2
        go_ret
        exact ⟨rfl, HB0.out.trans (hS.mono HB0.out.size)⟩
      · have hd1 : decide ((k : Int) < ls.length) = false := by simp only [decide_eq_false_iff_not]; omega
        have HL : Hid _ := Lr
        have HR : Hid _ := Rr
        have HS : Hid _ := Sr
        have HX : Hid _ := Xr
        have HI : Hid _ := Lr.inv
        have HRe : Hid _ := records_calls wr Lr
        have HOf : Hid (∀ (wx : World) (va : Value) (bs : Nat), wx.ownsRow bs 71 2 va l.length (rcCells (recs g l)) → Calls Tryd.prog 12 #[.int .i64 3, .int .i64 2, va] wx fun e w' => ∃ p b, e = .returned (.tuple #[.pointer (some ⟨p, 0, none⟩), .int .i64 0]) ∧ Lg w' p b g l ∧ Below wx.heap.size wx w' ∧ wx.heap.size ≤ p ∧ wx.heap.size ≤ b) := fun wx va bs hv => by
          have h := of_own g l Lr.inv va bs wx hv
          rw [hl3, ← HGI.out] at h
          exact h
        have HLn : Hid (l.length = 3) := hl3
        have HBr : Hid _ := br
        clear Lr Rr Sr Xr hl3 br
        go_wp2_with fail
        refine Calls.mono HRe.out ?_
        rintro e wa ⟨va, rfl, OA, ba⟩
        have za := ba.size
        have XA : Blk wa w2.heap.size (rlA g (.slice (some ⟨q, 0, none⟩) m.length cap)) 29 := Blk.below HX.out ba
        have x0 : wa.cell? ⟨w2.heap.size, 0, none⟩ = some (.int .i64 g) := XA.cell rfl
        have x1 : wa.cell? ⟨w2.heap.size, 1, none⟩ = some (.slice (some ⟨q, 0, none⟩) m.length cap) := XA.cell rfl
        have HRR : Hid _ := records_ref wa _ (Rm.below HR.out ba) HS.out HI.out
        have HXA : Hid _ := XA
        have HOA : Hid _ := OA
        clear XA OA
        go_wp2_with fail
        refine Calls.mono HRR.out ?_
        rintro e wb ⟨vb, rfl, OB, bb⟩
        have zb := bb.size
        have HSR : Hid _ := sameRecords_ref va vb (recs g l) (recs g l) wb ((rcs_recs HI.out HOA.out).below bb) (rcs_recs HI.out OB) (by rw [recs_len, HLn.out]; omega) (by rw [recs_len, HLn.out]; omega)
        rw [sameRc_self] at HSR
        clear OB HRR x0 x1
        go_wp2_with fail
        refine Calls.mono HSR.out ?_
        rintro e wc ⟨rfl, bc⟩
        have zc := bc.size
        have BAC : Below wa.heap.size wa wc := bb.trans (bc.mono zb)
        have HO1 : Hid _ := HOf.out wc va _ (own_belowL HOA.out BAC)
        go_wp2_with fail
        refine Calls.mono HO1.out ?_
        rintro e wd ⟨pz, bz, rfl, LZ, bd, hpz, hbz⟩
        have zd := bd.size
        have BAD : Below wa.heap.size wa wd := BAC.trans (bd.mono (by omega))
        have XD : Blk wd w2.heap.size (rlA g (.slice (some ⟨q, 0, none⟩) m.length cap)) 29 := Blk.below HXA.out BAD
        have x0 : wd.cell? ⟨w2.heap.size, 0, none⟩ = some (.int .i64 g) := XD.cell rfl
        have x1 : wd.cell? ⟨w2.heap.size, 1, none⟩ = some (.slice (some ⟨q, 0, none⟩) m.length cap) := XD.cell rfl
        have BRD : Below wr.heap.size wr wd := ba.trans (BAD.mono za)
        have LP := HL.out.below BRD
        have HLk : Hid _ := like_ref wd _ LZ (Rm.below HR.out BRD) HS.out
        have HLP : Hid _ := LP
        have HLZ : Hid _ := LZ
        clear LP LZ XD
        go_wp2_with fail
        refine Calls.mono HLk.out ?_
        rintro e we ⟨rfl, be⟩
        have ze := be.size
        have LP := HLP.out.below be
        have LZ := HLZ.out.below be
        have hpb : p < wr.heap.size := HL.out.blk.lt
        have hbb : b < wr.heap.size := HL.out.row.lt
        have HD1 : Hid (∀ wx, Lg wx p b g l → Calls Tryd.prog 8 #[.pointer (some ⟨p, 0, none⟩), .agg #[.int .i64 x.kind, .int .i64 x.who, .int .i64 x.dst, .int .i64 x.good, .int .i64 x.n, .string x.text]] wx fun e w' => e = .returned (.int .i64 (act g l x).1) ∧ Lg w' p b g (act g l x).2 ∧ Off b wx w') := fun wx h => done_calls wx h x hx _ rfl
        have HD2 : Hid (∀ wx, Lg wx pz bz g l → Calls Tryd.prog 8 #[.pointer (some ⟨pz, 0, none⟩), .agg #[.int .i64 x.kind, .int .i64 x.who, .int .i64 x.dst, .int .i64 x.good, .int .i64 x.n, .string x.text]] wx fun e w' => e = .returned (.int .i64 (act g l x).1) ∧ Lg w' pz bz g (act g l x).2 ∧ Off bz wx w') := fun wx h => done_calls wx h x hx _ rfl
        have hr3 : (act g l x).2.length = 3 := (act_len g l x).trans HLn.out
        generalize act g l x = r at *
        have FX0 : Hid (∀ wx, Below W0.heap.size W0 wx → wx.cell? ⟨w.heap.size, 0, none⟩ = some (.int .i64 x.kind)) := fun wx hx => keepCell hx (Blk.cell HX0.out rfl) (Blk.lt HX0.out)
        have FX1 : Hid (∀ wx, Below W0.heap.size W0 wx → wx.cell? ⟨w.heap.size, 1, none⟩ = some (.int .i64 x.who)) := fun wx hx => keepCell hx (Blk.cell HX0.out rfl) (Blk.lt HX0.out)
        have FX2 : Hid (∀ wx, Below W0.heap.size W0 wx → wx.cell? ⟨w.heap.size, 2, none⟩ = some (.int .i64 x.dst)) := fun wx hx => keepCell hx (Blk.cell HX0.out rfl) (Blk.lt HX0.out)
        have FX3 : Hid (∀ wx, Below W0.heap.size W0 wx → wx.cell? ⟨w.heap.size, 3, none⟩ = some (.int .i64 x.good)) := fun wx hx => keepCell hx (Blk.cell HX0.out rfl) (Blk.lt HX0.out)
        have FX4 : Hid (∀ wx, Below W0.heap.size W0 wx → wx.cell? ⟨w.heap.size, 4, none⟩ = some (.int .i64 x.n)) := fun wx hx => keepCell hx (Blk.cell HX0.out rfl) (Blk.lt HX0.out)
        have FX5 : Hid (∀ wx, Below W0.heap.size W0 wx → wx.cell? ⟨w.heap.size, 5, none⟩ = some (.string x.text)) := fun wx hx => keepCell hx (Blk.cell HX0.out rfl) (Blk.lt HX0.out)
        have hz0 := HBr.out.size
        have B0e : Below W0.heap.size W0 we := HBr.out.trans ((BRD.trans (be.mono (by omega))).mono hz0)
        have HB0e : Hid _ := B0e
        clear HRe HOf HSR HO1 HLk B0e x0 x1 HX HR HS HXA HOA ba bb bc bd BAC BAD BRD
        go_upto_region 17 with fail
        refine wp_region_held_drew (S := (fun wx => Below W0.heap.size W0 wx)) (by kernel_rfl) (HB0e.out.drew) (fun hS => ?_)
        refine wpAnyH_take (i := 0) (v := .pointer (some ⟨p, 0, none⟩)) rfl (by kernel_rfl) (by kernel_rfl) (by kernel_rfl) (fun _ _ _ h => h) (Or.inl ⟨by kernel_rfl, fun w3 hS => by go_simp⟩) hS ?_
        refine wpAnyH_take (i := 1) (v := .agg #[.int .i64 x.kind, .int .i64 x.who, .int .i64 x.dst, .int .i64 x.good, .int .i64 x.n, .string x.text]) rfl (by kernel_rfl) (by kernel_rfl) (by kernel_rfl) (fun _ _ _ h => h) (Or.inl ⟨by kernel_rfl, fun w3 hS => by have d0 := FX0.out w3 hS; have d1 := FX1.out w3 hS; have d2 := FX2.out w3 hS; have d3 := FX3.out w3 hS; have d4 := FX4.out w3 hS; have d5 := FX5.out w3 hS; go_simp⟩) hS ?_
        refine wpAnyH_take (i := 3) (v := .pointer (some ⟨pz, 0, none⟩)) rfl (by kernel_rfl) (by kernel_rfl) (by kernel_rfl) (fun _ _ _ h => h) (Or.inl ⟨by kernel_rfl, fun w3 hS => by go_simp⟩) hS ?_
        refine wpAnyH_take (i := 4) (v := .agg #[.int .i64 x.kind, .int .i64 x.who, .int .i64 x.dst, .int .i64 x.good, .int .i64 x.n, .string x.text]) rfl (by kernel_rfl) (by kernel_rfl) (by kernel_rfl) (fun _ _ _ h => h) (Or.inl ⟨by kernel_rfl, fun w3 hS => by have d0 := FX0.out w3 hS; have d1 := FX1.out w3 hS; have d2 := FX2.out w3 hS; have d3 := FX3.out w3 hS; have d4 := FX4.out w3 hS; have d5 := FX5.out w3 hS; go_simp⟩) hS ?_
        refine wpAnyH_ready (rs := [2]) (by kernel_rfl) (by simp) ?_
        refine AllReadyH.cons rfl (fun K hK => ?_) AllReadyH.nil
        go_simp
        refine (HD1.out _ LP.drew).mono ?_
        rintro e w5 ⟨rfl, L5, o5⟩
        have LZ5 : Lg w5 pz bz g l := LZ.drew.off o5 (by omega) (by omega)
        have z5 := o5.size
        refine hK.out _ _ (o5.below hb hS hS.size) (fun hS => ?_)
        clear hK
        refine wpAnyH_ready (rs := [5]) (by kernel_rfl) (by simp) ?_
        refine AllReadyH.cons rfl (fun K hK => ?_) AllReadyH.nil
        go_simp
        refine (HD2.out _ LZ5).mono ?_
        rintro e w6 ⟨rfl, L6z, o6⟩
        have L6 : Lg w6 p b g r.2 := L5.off o6 (by omega) (by omega)
        have z6 := o6.size
        have HRp : Hid _ := records_calls w6 L6
        refine hK.out _ _ (o6.below (by omega) hS hS.size) (fun hS => ?_)
        clear hK
        refine wpAnyH_take (i := 6) (v := .bool true) rfl (by kernel_rfl) (by kernel_rfl) (by kernel_rfl) (fun _ _ _ h => h) (Or.inl ⟨by kernel_rfl, fun w3 hS => by go_simp⟩) hS ?_
        refine wpAnyH_take (i := 7) (v := .bool true) rfl (by kernel_rfl) (by kernel_rfl) (by kernel_rfl) (fun _ _ _ h => h) (Or.inl ⟨by kernel_rfl, fun w3 hS => by go_simp⟩) hS ?_
        refine wpAnyH_take (i := 8) (v := .pointer (some ⟨p, 0, none⟩)) rfl (by kernel_rfl) (by kernel_rfl) (by kernel_rfl) (fun _ _ _ h => h) (Or.inl ⟨by kernel_rfl, fun w3 hS => by go_simp⟩) hS ?_
        refine wpAnyH_take (i := 10) (v := .pointer (some ⟨pz, 0, none⟩)) rfl (by kernel_rfl) (by kernel_rfl) (by kernel_rfl) (fun _ _ _ h => h) (Or.inl ⟨by kernel_rfl, fun w3 hS => by go_simp⟩) hS ?_
        refine wpAnyH_ready (rs := [9]) (by kernel_rfl) (by simp) ?_
        refine readyH_callG rfl (by kernel_rfl) (fun K hK => ?_)
        go_simp
        refine Calls.mono HRp.out ?_
        rintro e w7 ⟨v7, rfl, O7, b7⟩
        have HRz : Hid _ := records_calls w7 (L6z.below b7)
        refine hK.out _ _ (hS.trans (b7.mono hS.size)) (fun hS => ?_)
        clear hK
        refine wpAnyH_ready (rs := [11]) (by kernel_rfl) (by simp) ?_
        refine readyH_callG rfl (by kernel_rfl) (fun K hK => ?_)
        go_simp
        refine Calls.mono HRz.out ?_
        rintro e w8 ⟨v8, rfl, O8, b8⟩
        have HSS : Hid _ := sameRecords_ref v7 v8 (recs g r.2) (recs g r.2) w8 ((rcs_recs L6.inv O7).below b8) (rcs_recs L6.inv O8) (by rw [recs_len, hr3]; omega) (by rw [recs_len, hr3]; omega)
        rw [sameRc_self] at HSS
        refine hK.out _ _ (hS.trans (b8.mono hS.size)) (fun hS => ?_)
        clear hK
        refine wpAnyH_ready (rs := [12]) (by kernel_rfl) (by simp) ?_
        refine readyH_callG rfl (by kernel_rfl) (fun K hK => ?_)
        go_simp
        refine Calls.mono HSS.out ?_
        rintro e w9 ⟨rfl, b9⟩
        refine hK.out _ _ (hS.trans (b9.mono hS.size)) (fun hS => ?_)
        clear hK
        refine wpAnyH_take (i := 13) (v := .bool true) rfl (by kernel_rfl) (by kernel_rfl) (by kernel_rfl) (fun _ _ _ h => h) (Or.inl ⟨by kernel_rfl, fun w3 hS => by go_simp⟩) hS ?_
        refine wpAnyH_take (i := 14) (v := .bool true) rfl (by kernel_rfl) (by kernel_rfl) (by kernel_rfl) (fun _ _ _ h => h) (Or.inl ⟨by kernel_rfl, fun w3 hS => by go_simp⟩) hS ?_
        refine wpAnyH_ready (rs := [15]) (by kernel_rfl) (by simp) ?_
        refine readyH_callG rfl (by kernel_rfl) (fun K hK => ?_)
        go_simp
        refine (HA.out _).mono ?_
        rintro e w10 ⟨rfl, b10⟩
        refine hK.out _ _ (hS.trans (b10.mono hS.size)) (fun hS => ?_)
        clear hK
        refine wpAnyH_take (i := 16) (v := .bool true) rfl (by kernel_rfl) (by kernel_rfl) (by kernel_rfl) (fun _ _ _ h => h) (Or.inl ⟨by kernel_rfl, fun w3 hS => by go_simp⟩) hS ?_
        refine wpAnyH_take (i := 17) (v := .bool true) rfl (by kernel_rfl) (by kernel_rfl) (by kernel_rfl) (fun _ _ _ h => h) (Or.inl ⟨by kernel_rfl, fun w3 hS => by go_simp⟩) hS ?_
        refine wpAnyH_done (by kernel_rfl) ?_ _
        go_wp2
        go_ret
        exact ⟨rfl, HB0.out.trans (hS.mono HB0.out.size)⟩
end Go.Proofs.YtmcafgmjfgfaeaaDoor
