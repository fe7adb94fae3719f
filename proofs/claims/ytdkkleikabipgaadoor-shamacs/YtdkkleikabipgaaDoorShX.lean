/- The document's sum of a text. -/
import Derived.Test.YtdkkleikabipgaaDoorShW
namespace Go.Proofs.YtdkkleikabipgaaDoor
open Go.RowKit
set_option linter.unusedSimpArgs false
set_option linter.unusedVariables false

set_option maxHeartbeats 20000000 in
set_option maxRecDepth 100000 in
theorem refSum_calls (s : ByteArray) (w : World) (hs : s.size ≤ 4294967296) :
    Calls Tryd.prog 10 #[.string s] w fun e w' => e = .returned (.string ⟨(sumL s.data.toList).toArray⟩) ∧ Below w.heap.size w w' := by
  obtain ⟨W1, hW1⟩ : ∃ W1, w.alloc (.cells (inA (stL h0s)) 3) = W1 := ⟨_, rfl⟩
  have B1 : Below w.heap.size w W1 := by rw [← hW1]; exact (Below.refl _ _).alloc (Nat.le_refl _) _
  have X1 : Blk W1 w.heap.size (inA (stL h0s)) 3 := by rw [← hW1]; exact blk_new _ _ _ _ rfl
  have hS1 : W1.heap.size = w.heap.size + 1 := by rw [← hW1]; simp
  have HW1 : Hid _ := hW1
  clear hW1
  obtain ⟨i0, hi, hz0, hz1, hz2⟩ := info_parts infoInt
  go_enter Tryd.func10, Tryd.ntmps10
  go_wp2_with fail
  change Calls _ _ _ (w.alloc (.cells (inA (stL h0s)) 3)) _
  rw [HW1.out]
  refine (words_calls _).mono ?_
  rintro e w2 ⟨rfl, hb2, X2⟩
  rw [hS1] at X2 ⊢
  go_wp2_with fail
  refine (padded_calls s _ hs).mono ?_
  rintro e w3 ⟨lv, rfl, hb3, ho3⟩
  have hz2' := hb2.size
  have hz3 := hb3.size
  have hl2 := X2.lt
  obtain ⟨gl, capl, rfl, hgl1, hgl2⟩ := ho3.form (by omega)
  have hpw : ∀ i, i < 16 * ((s.size + 8) / 64 + 1) → w3.cell? ⟨gl, i, none⟩ = some (.int .i64 (wordAt (padL s.data.toList) i : Int)) := fun i h => own_cell ho3 (pwords_get _ _ _ h)
  have HPW : Hid _ := hpw
  clear hpw
  have HSUM : Hid (sumL s.data.toList = outL (comps h0s (wordAt (padL s.data.toList)) ((s.size + 8) / 64 + 1))) := by
    show _ = _; unfold sumL
    have e : s.data.toList.length = s.size := by rw [Lib.size_eq]
    rw [e]
  have X1' : Blk w3 w.heap.size (inA (stL h0s)) 3 := (X1.below hb2).below hb3
  have X2' : Blk w3 (w.heap.size + 1) (inA kTab) 3 := X2.below hb3
  have B3 : Below w.heap.size w w3 := (B1.trans (hb2.mono B1.size)).trans (hb3.mono (by omega))
  have hnb : (s.size + 8) / 64 + 1 ≤ 67108866 := by omega
  generalize (s.size + 8) / 64 + 1 = nb at *
  have HWL : Hid (∀ i, wordAt (padL s.data.toList) i < 4294967296) := fun i => wordAt_lt _ i
  generalize wordAt (padL s.data.toList) = wl at *
  obtain ⟨L, hL⟩ : ∃ L, 16 * nb = L := ⟨_, rfl⟩
  rw [hL] at HPW ⊢
  have HLn : Hid (16 * nb = L) := hL
  have hL' : L ≤ 1073741856 := by omega
  clear hL ho3 X1 X2 hb2 hb3
  go_wp2
  go_loopw [6] (fun v wr => ∃ j q : Nat, j ≤ nb ∧ q = 16 * j ∧ v = .int .i64 (q : Int) ∧ Off w.heap.size w3 wr ∧ Blk wr w.heap.size (inA (stL (comps h0s wl j))) 3) (fun v _ => L - (intOf v).toNat)
  case atStart => exact ⟨0, 0, by omega, rfl, rfl, Off.refl _ _, X1'⟩
  case round =>
    obtain ⟨j, q, hj, hq, rfl, hoff, XH⟩ := hrel
    have hzr := hoff.size
    by_cases hjn : j < nb
    · have hqL : (q : Int) < L := by have := HLn.out; omega
      have hqL2 : q < L := by omega
      have hq16 : q + 16 ≤ L := by have := HLn.out; omega
      have XK : Blk wr (w.heap.size + 1) (inA kTab) 3 := X2'.off hoff (by omega)
      have hcl : Hid (∀ i, i < L → wr.cell? ⟨gl, i, none⟩ = some (.int .i64 (wl i : Int))) := fun i h => (hoff.cell (p := ⟨gl, i, none⟩) hgl2 (by show gl ≠ w.heap.size; omega)).trans (HPW.out i h)
      have HQ : Hid (q = 16 * j) := hq
      clear hq
      rename World => W4
      go_wp2
      go_loopw [7, 8] (fun v i wx => ∃ k : Nat, k ≤ 64 ∧ i = .int .i64 (k : Int) ∧ wx.ownsRow W4.heap.size 3 1 v k (inC (sched (fun i => wl (q + i)) k)) ∧ Below W4.heap.size W4 wx) (fun _ i _ => 64 - (intOf i).toNat)
      case atStart => exact ⟨0, by omega, rfl, World.ownsRow_nil _ _ _ _, Below.refl _ _⟩
      case round =>
        obtain ⟨k, hk, rfl, ho, hB⟩ := hrel
        have hzx := hB.size
        by_cases hk64 : k < 64
        · by_cases hk16 : k < 16
          · have c0 := (hB.cell (p := ⟨gl, q + k, none⟩) (by show gl < _; omega)).trans (hcl.out (q + k) (by omega))
            have HS : Hid (inC (sched (fun i => wl (q + i)) (k + 1)) = inC (sched (fun i => wl (q + i)) k) ++ [.int .i64 (wl (q + k) : Int)]) := by
              show _ = _
              have e : nextW (fun i => wl (q + i)) (sched (fun i => wl (q + i)) k) k = wl (q + k) := by unfold nextW; rw [if_pos hk16]
              rw [← e]; exact inC_snoc _ _
            have hx1 : (q : Int) + (k : Int) < L := by omega
            have hx0 : 0 ≤ (q : Int) + (k : Int) := by omega
            have htn : ((q : Int) + (k : Int)).toNat = q + k := by omega
            generalize wl (q + k) = x at *
            go_wp2_with (at_builtin; refine wpList_append_own _ rfl (.tmp 45) (.tmp 52) 43 rfl W4.heap.size 3 i0 (.int .i64 0) 1 8 Tryd.underlying43 hi hz0 hz1 hz2 rfl (by decide) _ _ _ rfl (ho.alloc _) ⟨wr.heap.size, 0, none⟩ 1 1 [.int .i64 (x : Int)] rfl rfl ?c1 ?c2 ?c3 ?c4 ?c5 ?_)
            case c1 => exact cell_one_new _ _ _
            case c2 => intro u hu; simp at hu; subst hu; rfl
            case c3 => unfold maxLen; omega
            case c4 => omega
            case c5 => simp; omega
            intro v' w5 hown' hgrow _
            go_wp2
            go_roundw
            case rel =>
              refine ⟨k + 1, by omega, by go_num, ?_, ?_⟩
              · rw [HS.out]; exact hown'
              · exact (hB.alloc hzx _).grown hgrow (by simp; omega) (fun j hj => (ho.lt j hj).1)
            case measure => simp [intOf]; omega
          · obtain ⟨g, cap, rfl, hg1, hg2⟩ := ho.form (by omega)
            have hlen : (sched (fun i => wl (q + i)) k).length = k := sched_length _ _
            have c0 := own_cell ho (inC_get (sched (fun i => wl (q + i)) k) (k - 16) (by omega))
            have c1 := own_cell ho (inC_get (sched (fun i => wl (q + i)) k) (k - 15) (by omega))
            have c2 := own_cell ho (inC_get (sched (fun i => wl (q + i)) k) (k - 7) (by omega))
            have c3 := own_cell ho (inC_get (sched (fun i => wl (q + i)) k) (k - 2) (by omega))
            have g0 := sched_getD_lt (fun i => wl (q + i)) (fun i => HWL.out _) k (k - 16)
            have g1 := sched_getD_lt (fun i => wl (q + i)) (fun i => HWL.out _) k (k - 15)
            have g2 := sched_getD_lt (fun i => wl (q + i)) (fun i => HWL.out _) k (k - 7)
            have g3 := sched_getD_lt (fun i => wl (q + i)) (fun i => HWL.out _) k (k - 2)
            have HS : Hid (inC (sched (fun i => wl (q + i)) (k + 1)) = inC (sched (fun i => wl (q + i)) k) ++ [.int .i64 ((((sched (fun i => wl (q + i)) k).getD (k - 16) 0 + sg0 ((sched (fun i => wl (q + i)) k).getD (k - 15) 0) + (sched (fun i => wl (q + i)) k).getD (k - 7) 0 + sg1 ((sched (fun i => wl (q + i)) k).getD (k - 2) 0)) % 4294967296 : Nat) : Int)]) := by
              show _ = _
              have e : nextW (fun i => wl (q + i)) (sched (fun i => wl (q + i)) k) k = ((sched (fun i => wl (q + i)) k).getD (k - 16) 0 + sg0 ((sched (fun i => wl (q + i)) k).getD (k - 15) 0) + (sched (fun i => wl (q + i)) k).getD (k - 7) 0 + sg1 ((sched (fun i => wl (q + i)) k).getD (k - 2) 0)) % 4294967296 := by unfold nextW; rw [if_neg hk16]
              rw [← e]; exact inC_snoc _ _
            clear hlen
            generalize (sched (fun i => wl (q + i)) k).getD (k - 16) 0 = y0 at *
            generalize (sched (fun i => wl (q + i)) k).getD (k - 15) 0 = y1 at *
            generalize (sched (fun i => wl (q + i)) k).getD (k - 7) 0 = y2 at *
            generalize (sched (fun i => wl (q + i)) k).getD (k - 2) 0 = y3 at *
            generalize inC (sched (fun i => wl (q + i)) k) = cs at *
            have l0 := sg0_lt y1 g1
            have l1 := sg1_lt y3 g3
            have e0 := sg0_i64 y1 g1
            have e1 := sg1_i64 y3 g3
            have hwd : (bits .and .i64 ((y0 : Int) + (sg0 y1 : Int) + (y2 : Int) + (sg1 y3 : Int)) 4294967295 = (((y0 + sg0 y1 + y2 + sg1 y3) % 4294967296 : Nat) : Int)) := by
              rw [← i64_word (y0 + sg0 y1 + y2 + sg1 y3) (by omega)]
              congr 1
            have hk15 : (15 : Int) ≤ k := by omega
            have hk16' : (16 : Int) ≤ k := by omega
            have hk7 : (7 : Int) ≤ k := by omega
            have hk2 : (2 : Int) ≤ k := by omega
            have hd16 : decide ((k : Int) < 16) = false := by simp only [decide_eq_false_iff_not]; omega
            have hp7 : (k : Int) - 7 < k := by omega
            have hp16 : (k : Int) - 16 < k := by omega
            have hn7 : 0 ≤ (k : Int) - 7 := by omega
            have hn16 : 0 ≤ (k : Int) - 16 := by omega
            have ht7 : ((k : Int) - 7).toNat = k - 7 := by omega
            have ht16 : ((k : Int) - 16).toNat = k - 16 := by omega
            have hwr7 : IntKind.i64.wrap ((k : Int) - 7) = (k : Int) - 7 := by rw [IntKind.wrap_i64]; omega
            have hwr16 : IntKind.i64.wrap ((k : Int) - 16) = (k : Int) - 16 := by rw [IntKind.wrap_i64]; omega
            generalize sg0 y1 = z0 at *
            generalize sg1 y3 = z1 at *
            generalize (y0 + z0 + y2 + z1) % 4294967296 = x at *
            have hwa : IntKind.i64.wrap ((y0 : Int) + (z0 : Int)) = (y0 : Int) + (z0 : Int) := by rw [IntKind.wrap_i64]; omega
            have hwb : IntKind.i64.wrap ((y0 : Int) + (z0 : Int) + (y2 : Int)) = (y0 : Int) + (z0 : Int) + (y2 : Int) := by rw [IntKind.wrap_i64]; omega
            have hwc : IntKind.i64.wrap ((y0 : Int) + (z0 : Int) + (y2 : Int) + (z1 : Int)) = (y0 : Int) + (z0 : Int) + (y2 : Int) + (z1 : Int) := by rw [IntKind.wrap_i64]; omega
            have hoN' : ∀ m, (wr.drewN m).ownsRow W4.heap.size 3 1 (.slice (some ⟨g, 0, none⟩) k cap) k cs := fun m => own_of_heap (heap_drewN _ _) ho
            have hzN' : ∀ m, (wr.drewN m).heap.size = wr.heap.size := fun m => by rw [heap_drewN]
            have hbN' : ∀ m o, W4.heap.size ≤ ((wr.drewN m).alloc o).heap.size := fun m o => by
              show W4.heap.size ≤ ((wr.drewN m).heap.push o).size
              rw [heap_drewN]; simp; omega
            have HoN : Hid _ := hoN'
            have HzN : Hid _ := hzN'
            have HbN : Hid _ := hbN'
            clear hoN' hzN' hbN'
            go_wp2
            go_quiet (fail)
            go_wp2_with (go_at_call 19; refine (turn_lit _ _ _ (by assumption) (by decide) (by decide)).mono ?_; rintro _ _ ⟨rfl, m, rfl⟩)
            go_region_held3 (fun w' => w'.cell? ⟨g, k - 16, none⟩ = some (.int .i64 (y0 : Int)) ∧ w'.cell? ⟨g, k - 7, none⟩ = some (.int .i64 (y2 : Int))) (first | go_keep | (obtain ⟨q0, q1⟩ := ‹World.cell? _ ⟨g, k - 16, none⟩ = some (Value.int .i64 (y0 : Int)) ∧ World.cell? _ ⟨g, k - 7, none⟩ = some (Value.int .i64 (y2 : Int))›; exact ⟨(stay (k - 16) (by omega)).trans q0, (stay (k - 7) (by omega)).trans q1⟩))
              (first | (go_at_call 20; refine (refWord_raw _ _).mono ?_; rintro _ _ ⟨rfl, rfl⟩) | (refine step_app1 rfl (.tmp 80) (.tmp 97) rfl W4.heap.size g k cap cs ((HoN.out _).alloc _) (by kernel_rfl) ⟨wr.heap.size, 0, none⟩ 1 (.int .i64 (x : Int)) (by kernel_rfl) (news_alloc (cs := #[.int .i64 (x : Int)]) (HzN.out _) 0 _ rfl) rfl (by omega) (HbN.out _ _) ?_; intro g' cap' w6 hown hb6 stay; have HOW : Hid _ := hown; clear hown))
            go_wp2
            go_roundw
            case rel =>
              refine ⟨k + 1, by omega, by go_num, ?_, ?_⟩
              · rw [HS.out]; exact HOW.out
              · refine Below.trans ?_ hb6
                exact (below_drewN hB _).alloc (by rw [heap_drewN]; exact hzx) _
            case measure => simp [intOf]; omega
        · have e64 : k = 64 := by omega
          rw [e64] at ho
          clear e64
          obtain ⟨g, cap, rfl, hg1, hg2⟩ := ho.form (by omega)
          have YH : Blk wr w.heap.size (inA (stL (comps h0s wl j))) 3 := (hB.block _ XH.lt).trans XH
          have YK : Blk wr (w.heap.size + 1) (inA kTab) 3 := (hB.block _ XK.lt).trans XK
          have hwlen : (sched (fun i => wl (q + i)) 64).length = 64 := sched_length _ _
          have HWC : Hid (∀ i, i < 64 → wr.cell? ⟨g, i, none⟩ = some (.int .i64 (((sched (fun i => wl (q + i)) 64).getD i 0 : Nat) : Int))) := fun i h => own_cell ho (inC_get _ i (by omega))
          have HWB : Hid (∀ i, (sched (fun i => wl (q + i)) 64).getD i 0 < 4294967296) := fun i => sched_getD_lt (fun i => wl (q + i)) (fun i => HWL.out _) 64 i
          have HCM : Hid (comps h0s wl (j + 1) = (comps h0s wl j).grow (rnds (fun i => kTab.getD i 0) (fun i => (sched (fun i => wl (q + i)) 64).getD i 0) 64 (comps h0s wl j))) := by
            show comp (comps h0s wl j) (fun i => wl (16 * j + i)) = _
            rw [← HQ.out]; rfl
          have hfit : (comps h0s wl j).fits := comps_fits _ h0s_fits _ _
          clear ho hwlen
          generalize sched (fun i => wl (q + i)) 64 = S at *
          generalize comps h0s wl j = st at *
          have c0 := YH.cell (o := 0) (v := .int .i64 st.a) rfl
          have c1 := YH.cell (o := 1) (v := .int .i64 st.b) rfl
          have c2 := YH.cell (o := 2) (v := .int .i64 st.c) rfl
          have c3 := YH.cell (o := 3) (v := .int .i64 st.d) rfl
          have c4 := YH.cell (o := 4) (v := .int .i64 st.e) rfl
          have c5 := YH.cell (o := 5) (v := .int .i64 st.f) rfl
          have c6 := YH.cell (o := 6) (v := .int .i64 st.g) rfl
          have c7 := YH.cell (o := 7) (v := .int .i64 st.z) rfl
          go_wp2
          go_quiet (fail)
          rename World => W5
          go_wp2
          go_loopw [13, 14, 15, 16, 17, 18, 19, 20, 21] (fun va vb vc vd ve vf vg vz i wx => ∃ (k : Nat) (t : St), k ≤ 64 ∧ i = .int .i64 k ∧ Hid (t = rnds (fun i => kTab.getD i 0) (fun i => S.getD i 0) k st) ∧ t.fits ∧ va = .int .i64 t.a ∧ vb = .int .i64 t.b ∧ vc = .int .i64 t.c ∧ vd = .int .i64 t.d ∧ ve = .int .i64 t.e ∧ vf = .int .i64 t.f ∧ vg = .int .i64 t.g ∧ vz = .int .i64 t.z ∧ Below W5.heap.size W5 wx) (fun _ _ _ _ _ _ _ _ i _ => 64 - (intOf i).toNat)
          case atStart => exact ⟨0, st, by omega, rfl, rfl, hfit, rfl, rfl, rfl, rfl, rfl, rfl, rfl, rfl, below_drewN (Below.refl _ _) _⟩
          case round =>
            obtain ⟨k, t, hk, rfl, hT, hf, rfl, rfl, rfl, rfl, rfl, rfl, rfl, rfl, hb⟩ := hrel
            by_cases hlt : k < 64
            · have hkc := (hb.cell (p := ⟨w.heap.size + 1, k, none⟩) YK.lt).trans (YK.cell (inA_get kTab k (by rw [kTab_length]; exact hlt)))
              have hwc := (hb.cell (p := ⟨g, k, none⟩) hg2).trans (HWC.out k hlt)
              have hkb : kTab.getD k 0 < 4294967296 := by
                rw [List.getD_eq_getElem?_getD, List.getElem?_eq_getElem (by rw [kTab_length]; exact hlt)]; exact kTab_lt _ (List.getElem_mem _)
              have hwb := HWB.out k
              have HN : Hid (rnd (kTab.getD k 0) (S.getD k 0) t = rnds (fun i => kTab.getD i 0) (fun i => S.getD i 0) (k + 1) st) := by
                show _ = _; rw [hT.out]; rfl
              clear hT
              generalize kTab.getD k 0 = kk at *
              generalize S.getD k 0 = ww at *
              obtain ⟨a, b, c, d, e, f, gg, z⟩ := t
              obtain ⟨ha, hb', hc, hd, he, hf', hg', hz'⟩ := id hf
              simp only at ha hb' hc hd he hf' hg' hz'
              have hs1 := bs1_i64 e
              have hch := chs_i64 e f gg he hf' hg'
              have hmj := mjr_i64 a b c ha hb' hc
              have hs0 := bs0_i64 a
              have l1 := bs1_lt e
              have l0 := bs0_lt a
              have lc := chs_lt e f gg hf' hg'
              have lm := mjr_lt a b c hb' hc
              have HR : Hid (rnd kk ww ⟨a, b, c, d, e, f, gg, z⟩ = ⟨(z + bs1 e + chs e f gg + kk + ww + (bs0 a + mjr a b c)) % 4294967296, a, b, c, (d + (z + bs1 e + chs e f gg + kk + ww)) % 4294967296, e, f, gg⟩) := by
                show _ = _; simp only [rnd, rndT]
              have hrf := rnd_fits kk ww _ hf
              rw [HR.out] at hrf HN
              clear HR
              generalize bs1 e = s1 at *
              generalize chs e f gg = ch at *
              generalize bs0 a = s0 at *
              generalize mjr a b c = mj at *
              have hne : (4294967295 : Int) - e ≤ 4294967295 := by omega
              have hne0 : 0 ≤ (4294967295 : Int) - e := by omega
              have hD : bits .and .i64 ((d : Int) + ((z : Int) + (s1 : Int) + (ch : Int) + (kk : Int) + (ww : Int))) 4294967295 = (((d + (z + s1 + ch + kk + ww)) % 4294967296 : Nat) : Int) := by
                rw [← i64_word (d + (z + s1 + ch + kk + ww)) (by omega)]; congr 1
              have hA : bits .and .i64 ((z : Int) + (s1 : Int) + (ch : Int) + (kk : Int) + (ww : Int) + ((s0 : Int) + (mj : Int))) 4294967295 = (((z + s1 + ch + kk + ww + (s0 + mj)) % 4294967296 : Nat) : Int) := by
                rw [← i64_word (z + s1 + ch + kk + ww + (s0 + mj)) (by omega)]; congr 1
              generalize (d + (z + s1 + ch + kk + ww)) % 4294967296 = d' at *
              generalize (z + s1 + ch + kk + ww + (s0 + mj)) % 4294967296 = a' at *
              go_wp2
              go_quiet ((go_at_call 19; exact Calls.quiet_of (turn_lit _ _ _ he (by decide) (by decide))))
              go_wp2_with (first | (go_at_call 19; refine (turn_lit _ _ _ ha (by decide) (by decide)).mono ?_; rintro _ _ ⟨rfl, m, rfl⟩) | (go_at_call 20; refine (refWord_raw _ _).mono ?_; rintro _ _ ⟨rfl, rfl⟩))
              go_roundw
              case rel => exact ⟨k + 1, ⟨a', a, b, c, d', e, f, gg⟩, by omega, by go_num, HN, hrf, by first | rfl | rw [hA], rfl, rfl, rfl, by first | rfl | rw [hD], rfl, rfl, rfl, below_drewN hb _⟩
              case measure => simp [intOf]; omega
            · have HGR : Hid (st.grow t = comps h0s wl (j + 1)) := by
                have e : k = 64 := by omega
                subst e; show _ = _; rw [HCM.out, hT.out]
              clear hT
              have hTf := stL_lt t hf
              have hSf := stL_lt st hfit
              have hL1 := stL_length st
              have hL2 := stL_length t
              have hL3 := stL_length (st.grow t)
              have HGG : Hid _ := grow_get st t
              have HTF : Hid _ := hTf
              have HSF : Hid _ := hSf
              clear hTf hSf
              rename World => W6
              have hz6 := hb.size
              have hyh := YH.lt
              have ZH : Blk W6 w.heap.size (inA (stL st)) 3 := YH.below hb
              have hlit : Hid (#[Value.int .i64 t.a, .int .i64 t.b, .int .i64 t.c, .int .i64 t.d, .int .i64 t.e, .int .i64 t.f, .int .i64 t.g, .int .i64 t.z] = inA (stL t)) := rfl
              go_wp2
              rw [hlit.out]
              go_loopw [26] (fun v wx => ∃ i : Nat, i ≤ 8 ∧ v = .int .i64 (i : Int) ∧ Off w.heap.size (W6.alloc (.cells (inA (stL t)) 3)) wx ∧ Blk wx w.heap.size (inA (mixL (stL (st.grow t)) (stL st) i)) 3) (fun v _ => 8 - (intOf v).toNat)
              case atStart => exact ⟨0, by omega, rfl, Off.refl _ _, by have e : mixL (stL (st.grow t)) (stL st) 0 = stL st := by simp [mixL]
                                                                        rw [e]; exact ZH.alloc _⟩
              case round =>
                obtain ⟨i, hi8, rfl, hof, VH⟩ := hrel
                have hzf := hof.size
                have hzf' : W6.heap.size + 1 ≤ wr.heap.size := by simpa using hzf
                clear hzf
                have VN : Blk wr W6.heap.size (inA (stL t)) 3 := (blk_new W6 _ _ _ rfl).off hof (by omega)
                by_cases hi' : i < 8
                · have c0 := VH.cell (inA_get _ i (by rw [mixL_length _ _ _ hL3 hL1]; exact hi'))
                  have c1 := VN.cell (inA_get _ i (by omega))
                  have f0 := VH.frozen (o := i)
                  rw [mixL_get _ _ _ hL3 hL1 hi'] at c0
                  have HX : Hid (∀ v, Blk (wr.setCell ⟨w.heap.size, i, none⟩ (.int .i64 v)) w.heap.size ((inA (mixL (stL (st.grow t)) (stL st) i)).setIfInBounds i (.int .i64 v)) 3) := fun v => VH.set i (.int .i64 v)
                  have HS : Hid _ := mixI_set (stL (st.grow t)) (stL st) i hL3 hL1 hi'
                  rw [HGG.out i hi'] at HS
                  have g0 := HSF.out i hi'
                  have g1 := HTF.out i hi'
                  generalize (stL st).getD i 0 = y0 at *
                  generalize (stL t).getD i 0 = y1 at *
                  have hwd : bits .and .i64 ((y0 : Int) + (y1 : Int)) 4294967295 = (((y0 + y1) % 4294967296 : Nat) : Int) := by
                    rw [← i64_word (y0 + y1) (by omega)]; congr 1
                  generalize (y0 + y1) % 4294967296 = x at *
                  have hiI : (i : Int) < 8 := by omega
                  have hl0 : (Instr.loadAt 3 (.pointer (some ⟨w.heap.size, i, none⟩))).run Tryd.prog wr.drew = .ok (.int .i64 (y0 : Int)) wr.drew := by go_simp
                  have hl1 : (Instr.loadAt 3 (.pointer (some ⟨W6.heap.size, i, none⟩))).run Tryd.prog wr.drew = .ok (.int .i64 (y1 : Int)) wr.drew := by go_simp
                  go_wp2
                  refine wp_region_any (by kernel_rfl) ?_
                  change wpAny _ _ _ _ _ _ _ (World.drew _)
                  refine wpAny_take (i := 0) (v := .slice (some ⟨w.heap.size, 0, none⟩) 8 8) rfl (by kernel_rfl) (by kernel_rfl) (by kernel_rfl) (fun _ _ _ h => h) (Or.inl ⟨by rfl, fun w => by go_simp⟩) ?_
                  refine wpAny_take (i := 1) (v := .int .i64 (i : Int)) rfl (by kernel_rfl) (by kernel_rfl) (by kernel_rfl) (fun _ _ _ h => h) (Or.inl ⟨by rfl, fun w => by go_simp⟩) ?_
                  refine wpAny_take (i := 2) (v := .slice (some ⟨w.heap.size, 0, none⟩) 8 8) rfl (by kernel_rfl) (by kernel_rfl) (by kernel_rfl) (fun _ _ _ h => h) (Or.inl ⟨by rfl, fun w => by go_simp⟩) ?_
                  refine wpAny_take (i := 3) (v := .int .i64 (i : Int)) rfl (by kernel_rfl) (by kernel_rfl) (by kernel_rfl) (fun _ _ _ h => h) (Or.inl ⟨by rfl, fun w => by go_simp⟩) ?_
                  refine wpAny_take (i := 4) (v := .pointer (some ⟨w.heap.size, i, none⟩)) rfl (by kernel_rfl) (by kernel_rfl) (by kernel_rfl) (fun _ _ _ h => h) (Or.inl ⟨by rfl, fun w => by go_simp⟩) ?_
                  refine wpAny_take (i := 6) (v := .slice (some ⟨W6.heap.size, 0, none⟩) 8 8) rfl (by kernel_rfl) (by kernel_rfl) (by kernel_rfl) (fun _ _ _ h => h) (Or.inl ⟨by rfl, fun w => by go_simp⟩) ?_
                  refine wpAny_take (i := 7) (v := .int .i64 (i : Int)) rfl (by kernel_rfl) (by kernel_rfl) (by kernel_rfl) (fun _ _ _ h => h) (Or.inl ⟨by rfl, fun w => by go_simp⟩) ?_
                  refine wpAny_take (i := 8) (v := .pointer (some ⟨W6.heap.size, i, none⟩)) rfl (by kernel_rfl) (by kernel_rfl) (by kernel_rfl) (fun _ _ _ h => h) (Or.inl ⟨by rfl, fun w => by go_simp⟩) ?_
                  refine wpAny_ready (rs := [5, 9]) (by kernel_rfl) (by simp) ?_
                  refine allReady_load 5 3 (.tmp 208) (some 209) (by kernel_rfl) hl0 (by kernel_rfl) (wpAny_ready (rs := [9]) (by kernel_rfl) (by simp) (allReady_load 9 3 (.tmp 212) (some 213) (by kernel_rfl) hl1 (by kernel_rfl) ?_ AllReady.nil))
                    (allReady_load 9 3 (.tmp 212) (some 213) (by kernel_rfl) hl1 (by kernel_rfl) (wpAny_ready (rs := [5]) (by kernel_rfl) (by simp) (allReady_load 5 3 (.tmp 208) (some 209) (by kernel_rfl) hl0 (by kernel_rfl) ?_ AllReady.nil)) AllReady.nil)
                  all_goals
                    refine wpAny_ready (rs := [10]) (by kernel_rfl) (by simp) ?_
                    refine AllReady.cons rfl (fun K hK => ?_) AllReady.nil
                    go_simp
                    refine hK _ _ ?_
                    clear hK
                    refine wpAny_ready (rs := [11]) (by kernel_rfl) (by simp) ?_
                    refine AllReady.cons rfl (fun K hK => ?_) AllReady.nil
                    go_simp
                    refine (refWord_raw _ _).mono ?_
                    rintro _ _ ⟨rfl, rfl⟩
                    refine hK _ _ ?_
                    clear hK
                    refine wpAny_ready (rs := [12]) (by kernel_rfl) (by simp) ?_
                    refine AllReady.cons rfl (fun K hK => ?_) AllReady.nil
                    go_simp
                    refine hK _ _ ?_
                    clear hK
                    refine wpAny_ready (rs := [13]) (by kernel_rfl) (by simp) ?_
                    refine AllReady.cons rfl (fun K hK => ?_) AllReady.nil
                    go_simp
                    refine hK _ _ ?_
                    clear hK
                    refine wpAny_done (by kernel_rfl) ?_ _
                    go_simp
                    go_wp2
                    rw [hwd]
                    exact ⟨⟨i + 1, by omega, by go_num, (hof.setCell (p := ⟨w.heap.size, i, none⟩) rfl _).drew, by have h := HX.out (x : Int); rw [HS.out] at h; exact h⟩, by simp [intOf]; omega⟩
                · have HE : Hid (mixL (stL (st.grow t)) (stL st) i = stL (comps h0s wl (j + 1))) := by
                    show _ = _
                    rw [← HGR.out]; unfold mixL
                    rw [List.take_of_length_le (by omega), List.drop_of_length_le (by omega), List.append_nil]
                  go_wp2
                  go_roundw
                  case rel =>
                    refine ⟨j + 1, q + 16, by omega, by have := HQ.out; omega, by go_num, (((hoff.trans (Off.of_below hB)).trans (Off.of_below hb)).alloc _).trans hof, ?_⟩
                    rw [← HE.out]; exact VH
                  case measure => simp [intOf]; omega
    · have ejn : j = nb := by omega
      have HO : Hid (sumL s.data.toList = outs (stL (comps h0s wl j))) := by
        show _ = _; rw [HSUM.out, ejn, outs_stL]
      have hfit : (comps h0s wl j).fits := comps_fits _ h0s_fits _ _
      have HSF : Hid _ := stL_lt _ hfit
      have hLs := stL_length (comps h0s wl j)
      have hnl : ¬ (q : Int) < L := by have := HLn.out; omega
      have HQ : Hid (q = 16 * j) := hq
      clear hq ejn
      have hB0 : Below w.heap.size w wr := hoff.below (Nat.le_refl _) B3 (by omega)
      generalize stL (comps h0s wl j) = ls at *
      rename World => W4
      have hhl := XH.lt
      obtain ⟨ib, hib, hzb0, hzb1, hzb2⟩ := info_parts infoByte
      go_wp2
      go_loopw [27, 28] (fun v i wx => ∃ k : Nat, k ≤ 8 ∧ i = .int .i64 (k : Int) ∧ wx.ownsRow W4.heap.size 5 1 v (4 * k) (Lib.byteCells (outs (ls.take k))) ∧ Below W4.heap.size W4 wx) (fun _ i _ => 8 - (intOf i).toNat)
      case atStart => exact ⟨0, by omega, rfl, World.ownsRow_nil _ _ _ _, Below.refl _ _⟩
      case round =>
        obtain ⟨k, hk, rfl, ho, hB⟩ := hrel
        have hzx := hB.size
        by_cases hk8 : k < 8
        · have c0 := (hB.cell (p := ⟨w.heap.size, k, none⟩) hhl).trans (XH.cell (inA_get ls k (by omega)))
          have g0 := HSF.out k hk8
          have HT : Hid (Lib.byteCells (outs (ls.take (k + 1))) = _) := outs_snoc ls k (by omega)
          generalize ls.getD k 0 = x at *
          have hkI : (k : Int) < 8 := by omega
          have hfar : ∀ b, wr.ownsRow W4.heap.size 5 1 b (4 * k) (Lib.byteCells (outs (ls.take k))) → some w.heap.size ≠ b.ownBlock := fun b h e => by have := (h.lt _ e.symm).1; omega
          go_wp2
          go_region_held3 (fun w' => w'.cell? ⟨w.heap.size, k, none⟩ = some (.int .i64 (x : Int))) (first | go_keep | exact (hgrow.cell_far ⟨w.heap.size, k, none⟩ (by simp; omega) (hfar _ ho)).trans (by assumption))
            ((refine step_append_lies _ rfl (.tmp 221) (.tmp 248) 33 rfl W4.heap.size 5 ib (.int .u8 0) 1 1 Tryd.underlying33 hib hzb0 hzb1 hzb2 rfl (by decide) _ (4 * k) _ rfl (show (World.drew _).ownsRow _ _ _ _ _ _ from ho.alloc _) ⟨wr.heap.size, 0, none⟩ 4 4 _ rfl rfl (World.news_of_block (heap_alloc_new wr _)) (by intro u hu; simp at hu; rcases hu with rfl | rfl | rfl | rfl <;> rfl) (by decide) (by unfold maxLen; omega) (by omega) (by simp; omega) _ rfl ?_; intro g' cap' w6 hown hgrow hat hg6))
          go_wp2
          go_roundw
          case rel =>
            refine ⟨k + 1, by omega, by go_num, ?_, ?_⟩
            · rw [HT.out]
              rw [wrap_and255 ((x : Int) / 65536) (x / 65536) (by omega) (by omega), wrap_and255 ((x : Int) / 256) (x / 256) (by omega) (by omega), wrap_and255 (x : Int) x rfl (by omega)] at hown
              exact hown
            · exact ((hB.alloc hzx _).drew).grown hgrow (by simp; omega) (fun j hj => (ho.lt j hj).1)
          case measure => simp [intOf]; omega
        · have e8 : ls.take k = ls := List.take_of_length_le (by omega)
          rw [e8] at ho
          have hcv := own_convert ho
          go_wp2
          go_ret
          exact ⟨by rw [HO.out]; rfl, hB0.trans (hB.mono hB0.size)⟩
end Go.Proofs.YtdkkleikabipgaaDoor
