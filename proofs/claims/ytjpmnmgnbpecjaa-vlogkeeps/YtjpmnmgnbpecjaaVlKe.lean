/- The walk of VlogKeeps. -/
import Derived.Test.YtjpmnmgnbpecjaaVlKa
namespace Go.Proofs.Ytjpmnmgnbpecjaa
open Go.Shelf Go.RowKit Go.Lib Go.Sort
open Go.ChangeMaps (setBlock)
set_option linter.unusedSimpArgs false
set_option linter.unusedVariables false
set_option maxHeartbeats 16000000 in
set_option maxRecDepth 100000 in
theorem keeps_calls (v1 : Value) (l1 : List Ac) (w : World) (h1 : Acs w v1 l1) (hz : l1.length * 64 ≤ 140737488351232) :
    Calls Try.prog 4 #[v1] w fun e w' => e = .returned (.bool true) ∧ Below w.heap.size w w' := by
  have HBg := begun_calls v1 l1 w w h1 (Below.refl _ _)
  have HKI : Hid (KInv (fun t => ∃ a ∈ l1, a.tx = t) (runs (Lv.new 7) (l1.take 80))) := runs_kinv _ _ (KInv.new _ 7) (fun a ha => ⟨a, List.mem_of_mem_take ha, rfl⟩)
  have HN7 : Hid ((runs (Lv.new 7) (l1.take 80)).n = 7) := runs_n _ _ (new_inv (Or.inr (Or.inl rfl))) (fun k => Nat.zero_le 13)
  have HSp : Hid (∀ wx, Below w.heap.size w wx → (∃ a ∈ l1, a.tx = tSp) → _) := fun wx (hb : Below w.heap.size w wx) hs => spoilt_calls v1 l1 wx w h1 hb hz hs
  generalize runs (Lv.new 7) (l1.take 80) = M at *
  obtain ⟨va, vcap, rfl, _⟩ := h1.any
  clear h1
  go_enter Try.func4, Try.ntmps4
  go_wp2_with fail
  refine HBg.mono ?_
  rintro e w1 ⟨rfl, mp1, A1⟩
  have HKp : Hid _ := kept_calls A1.lg A1.inv (Fl.ok A1.fl)
  have HA1 : Hid _ := A1
  have hp1 : w.heap.size < w1.heap.size := A1.lg.lt
  have hlo := A1.inv.lo
  clear A1 HBg
  go_wp2_with fail
  refine Calls.mono HKp.out ?_
  rintro e w2 ⟨kv, rfl, hkv, b2⟩
  obtain ⟨ks, hks, hrow, hls⟩ : ∃ ks : List (Slot × Value), ks.map (·.1) = M.kept ∧ KRow w2 kv ks ∧ ∀ x ∈ ks, LFr w2 w1.heap.size x.2 x.1.fl := by
    obtain ⟨ks, h1, h2, h3⟩ := hkv
    have hkv2 : KV w2 kv (ks.map (·.1)) := KeptV.kv ⟨ks, rfl, h2, h3⟩
    refine ⟨ks, h1, keptV_row h2, fun x hx => (h3 x hx).lfr ?_⟩
    obtain ⟨k, hk⟩ := List.getElem?_of_mem hx
    have hk2 : M.kept[k]? = some x.1 := by rw [← h1, List.getElem?_map, hk]; rfl
    have := (kept_is HKI.out hk2).2.2.2.2.1
    rw [this, HN7.out]
    decide
  have HI2 : Hid (Below w1.heap.size w1 w2 ∧ KRow w2 kv ks ∧ ∀ x ∈ ks, LFr w2 w1.heap.size x.2 x.1.fl) := ⟨b2, hrow, hls⟩
  have hkl : ks.length = M.kept.length := by rw [← hks, List.length_map]
  have hk8 : ks.length ≤ 8 := by rw [hkl]; exact kept_le M
  obtain ⟨ka, kc, hkf, _⟩ := hrow
  subst hkf
  have HKs : Hid (∀ (k : Nat) (x : Slot × Value), ks[k]? = some x → M.kept[k]? = some x.1) := fun k x hx => by rw [← hks, List.getElem?_map, hx]; rfl
  have HKl : Hid _ := hkl
  clear hkv b2 hls HKp hks hkl
  go_wp2_with fail
  go_loopw [5] (fun iv wr => ∃ k : Nat, k ≤ ks.length ∧ iv = .int .i64 k ∧ Hid (Below w1.heap.size w1 wr ∧ KRow wr (.slice ka ks.length kc) ks ∧ ∀ x ∈ ks, LFr wr w1.heap.size x.2 x.1.fl)) (fun iv _ => ks.length - (intOf iv).toNat)
  case atStart => exact ⟨0, by omega, rfl, HI2⟩
  case round =>
    clear HI2
    obtain ⟨k, hk, rfl, HI⟩ := hrel
    by_cases hlt : k < ks.length
    · obtain ⟨wo, hwo⟩ : ∃ wo, wo = wr := ⟨wr, rfl⟩
      subst hwo
      have hd1 : decide ((k : Int) < (ks.length : Int)) = true := by simp only [decide_eq_true_eq]; omega
      have hki : (k : Int) < (ks.length : Int) := by omega
      have hkk : k < 8 := by omega
      obtain ⟨x, hx⟩ : ∃ x, ks[k]? = some x := ⟨_, List.getElem?_eq_getElem hlt⟩
      obtain ⟨⟨f1, f2⟩, f3, f4, f5, f6, f7, f8⟩ := kept_is HKI.out (HKs.out k x hx)
      rw [HN7.out] at f6 f8
      have f9 : x.1.fl.length = 5 := f6
      obtain ⟨b1, b2, b3⟩ := bne_text f5
      obtain ⟨a', cap', he', hrw⟩ := HI.out.2.1
      obtain ⟨g, cs, hga, XB, hcs⟩ := hrw k x hx
      obtain ⟨g2, cap2, cs2, hlv, hg2, XL, hfr, tt, htt⟩ := HI.out.2.2 x (List.mem_of_getElem? hx)
      injection he' with q1 q2 q3
      rw [hga] at q1
      subst q1
      have c0 : wo.cell? ⟨g, k * 8, none⟩ = some (.int .i64 11) := by have := XB.cell (hcs 0 _ rfl); rw [f3] at this; exact this
      have c1 : wo.cell? ⟨g, k * 8 + 1, none⟩ = some (.int .i64 x.1.fv) := XB.cell (hcs 1 _ rfl)
      have c2 : wo.cell? ⟨g, k * 8 + 2, none⟩ = some (.int .i64 x.1.fs) := XB.cell (hcs 2 _ rfl)
      have c3 : wo.cell? ⟨g, k * 8 + 3, none⟩ = some (.int .i64 0) := XB.cell (hcs 3 _ rfl)
      have c4 : wo.cell? ⟨g, k * 8 + 4, none⟩ = some (.int .i64 0) := XB.cell (hcs 4 _ rfl)
      have c5 : wo.cell? ⟨g, k * 8 + 5, none⟩ = some (.string x.1.fd) := XB.cell (hcs 5 _ rfl)
      have c6 : wo.cell? ⟨g, k * 8 + 6, none⟩ = some (.string x.1.ft) := XB.cell (hcs 6 _ rfl)
      have c7 : wo.cell? ⟨g, k * 8 + 7, none⟩ = some (.slice (some ⟨g2, 0, none⟩) 5 cap2) := by have := XB.cell (hcs 7 _ rfl); rw [hlv, f9] at this; exact this
      have b4 : (x.1.fd.toList == []) = false := by have := b1; rw [ByteArray.toList_eq ⟨#[]⟩] at this; exact this
      have b5 : ¬ x.1.fd.toList = [] := toList_ne f5
      have d1 : decide (M.vw < x.1.fv) = false := by simp only [decide_eq_false_iff_not]; omega
      have d2 : decide (x.1.fs ≤ M.lo) = false := by simp only [decide_eq_false_iff_not]; omega
      have d3 : decide (M.lo + 8 < x.1.fs) = false := by simp only [decide_eq_false_iff_not]; omega
      have hw8 : IntKind.i64.wrap (M.lo + 8) = M.lo + 8 := by rw [IntKind.wrap_i64]; omega
      have HFr : Hid (∀ (j : Nat) (m : Sgn), x.1.fl[j]? = some m → ((0 : Int) ≤ m.1 ∧ m.1 < (7 : Int)) ∧ cs2[j * 3]? = some (.int .i64 m.1)) := fun j m hm => ⟨⟨(f8 m (List.mem_of_getElem? hm)).1, (f8 m (List.mem_of_getElem? hm)).2.1⟩, hfr j m hm⟩
      have HRi : Hid (∀ (j : Nat) (m m' : Sgn), x.1.fl[j]? = some m → x.1.fl[j + 1]? = some m' → m.1 < m'.1) := fun j m m' h1 h2 => by
        rw [List.pairwise_iff_getElem] at f7
        obtain ⟨i1, j1⟩ := List.getElem?_eq_some_iff.1 h1
        obtain ⟨i2, j2⟩ := List.getElem?_eq_some_iff.1 h2
        have := f7 j (j + 1) i1 i2 (by omega)
        rw [j1, j2] at this
        exact this
      have HPv : Hid (∀ k1 : Nat, k = k1 + 1 → ∃ t2 : Int, wo.cell? ⟨g, k1 * 8 + 2, none⟩ = some (.int .i64 t2) ∧ t2 < x.1.fs) := fun k1 e => by
        subst e
        obtain ⟨y, hy⟩ : ∃ y, ks[k1]? = some y := ⟨_, List.getElem?_eq_getElem (by omega)⟩
        obtain ⟨g', cs', hga', XB', hcs'⟩ := hrw k1 y hy
        rw [hga] at hga'
        injection hga' with e1
        injection e1 with e1
        subst e1
        exact ⟨y.1.fs, XB'.cell (hcs' 2 _ rfl), kept_rise HKI.out (HKs.out k1 y hy) (HKs.out (k1 + 1) x hx)⟩
      have H5 : Hid (x.1.fl.length = 5) := f9
      have HXL : Hid (Blk wo g2 cs2 38) := XL
      have HT : Hid (cs2[1]? = some (.string tt)) := htt
      have HG2 : Hid (w1.heap.size ≤ g2) := hg2
      have hgl : g < wo.heap.size := XB.lt
      have hgl2 : g2 < wo.heap.size := XL.lt
      generalize hfl : x.1.fl = fl at *
      generalize x.1.fv = s1 at *
      generalize x.1.fs = s2 at *
      generalize x.1.fd = s5 at *
      generalize x.1.ft = s6 at *
      clear f1 f2 f3 f4 f5 f6 f7 f8 f9 hrw hcs XB hga XL hfr htt hlv hg2 hfl q2 q3
      obtain ⟨W3, hW3, XW, B3⟩ : ∃ W3, wo.alloc (.cells #[.int .i64 11, .int .i64 s1, .int .i64 s2, .int .i64 0, .int .i64 0, .string s5, .string s6, .slice (some ⟨g2, 0, none⟩) 5 cap2] 34) = W3 ∧ Blk W3 wo.heap.size #[.int .i64 11, .int .i64 s1, .int .i64 s2, .int .i64 0, .int .i64 0, .string s5, .string s6, .slice (some ⟨g2, 0, none⟩) 5 cap2] 34 ∧ Below wo.heap.size wo W3 := ⟨_, rfl, blk_new _ _ _ _ rfl, by go_grown⟩
      have HB3 : Hid (Below w1.heap.size w1 W3) := HI.out.1.trans (B3.mono HI.out.1.size)
      have HVw : Hid (∀ n, Calls Try.prog 9 #[.pointer (some ⟨w.heap.size, 0, none⟩)] (W3.drewN n) fun e w' => e = .returned (.int .i64 M.vw) ∧ w' = W3.drewN n) := fun n => view_calls (HA1.out.lg.below (HB3.out.trans ((below_dN W3 n).mono HB3.out.size))) HA1.out.inv
      have HLo : Hid (∀ n, Calls Try.prog 11 #[.pointer (some ⟨w.heap.size, 0, none⟩)] (W3.drewN n) fun e w' => e = .returned (.int .i64 M.lo) ∧ w' = W3.drewN n) := fun n => low_calls (HA1.out.lg.below (HB3.out.trans ((below_dN W3 n).mono HB3.out.size))) HA1.out.inv
      have HXW : Hid (Blk W3 wo.heap.size #[.int .i64 11, .int .i64 s1, .int .i64 s2, .int .i64 0, .int .i64 0, .string s5, .string s6, .slice (some ⟨g2, 0, none⟩) 5 cap2] 34) := XW
      have HB3' : Hid (Below wo.heap.size wo W3) := B3
      have y0 : ∀ n, (W3.drewN n).cell? ⟨wo.heap.size, 0, none⟩ = some (.int .i64 11) := fun n => (XW.below (below_dN W3 n)).cell rfl
      have y1 : ∀ n, (W3.drewN n).cell? ⟨wo.heap.size, 1, none⟩ = some (.int .i64 s1) := fun n => (XW.below (below_dN W3 n)).cell rfl
      have y2 : ∀ n, (W3.drewN n).cell? ⟨wo.heap.size, 2, none⟩ = some (.int .i64 s2) := fun n => (XW.below (below_dN W3 n)).cell rfl
      have y5 : ∀ n, (W3.drewN n).cell? ⟨wo.heap.size, 5, none⟩ = some (.string s5) := fun n => (XW.below (below_dN W3 n)).cell rfl
      have y7 : ∀ n, (W3.drewN n).cell? ⟨wo.heap.size, 7, none⟩ = some (.slice (some ⟨g2, 0, none⟩) 5 cap2) := fun n => (XW.below (below_dN W3 n)).cell rfl
      clear XW B3
      by_cases hk0 : k = 0
      · have d4 : decide (0 < (k : Int)) = false := by simp only [decide_eq_false_iff_not]; omega
        have d6 : decide (0 < k) = false := by simp only [decide_eq_false_iff_not]; omega
        clear hk0
        go_wp2_with fail
        go_quiet (first | (go_at_call 9; exact Calls.quiet_of_same (HVw.out _)) | (go_at_call 11; exact Calls.quiet_of_same (HLo.out _)))
        go_wp2_with fail
        go_loopw [7] (fun iv wq => ∃ j : Nat, j ≤ 5 ∧ iv = .int .i64 j ∧ Hid (Below W3.heap.size W3 wq)) (fun iv _ => 5 - (intOf iv).toNat)
        case atStart => exact ⟨0, by omega, rfl, below_dN W3 _⟩
        case round =>
          obtain ⟨j, hj, rfl, HQ⟩ := hrel
          have HBq : Hid (Below wo.heap.size wo wr) := HB3'.out.trans (HQ.out.mono HB3'.out.size)
          have z7 : wr.cell? ⟨wo.heap.size, 7, none⟩ = some (.slice (some ⟨g2, 0, none⟩) 5 cap2) := Blk.cell (Blk.below HXW.out HQ.out) rfl
          by_cases hj5 : j < 5
          · have e1 : decide ((j : Int) < 5) = true := by simp only [decide_eq_true_eq]; omega
            have hji : (j : Int) < 5 := by omega
            obtain ⟨m, hm⟩ : ∃ m, fl[j]? = some m := ⟨_, List.getElem?_eq_getElem (by rw [H5.out]; exact hj5)⟩
            obtain ⟨⟨m1, m2⟩, m3⟩ := HFr.out j m hm
            have zc : wr.cell? ⟨g2, j * 3, none⟩ = some (.int .i64 m.1) := Blk.cell (Blk.below HXL.out HBq.out) m3
            have a1 : decide (m.1 < 0) = false := by simp only [decide_eq_false_iff_not]; omega
            have a2 : decide (6 < m.1) = false := by simp only [decide_eq_false_iff_not]; omega
            by_cases hj0 : j = 0
            · have a3 : decide (0 < (j : Int)) = false := by simp only [decide_eq_false_iff_not]; omega
              have a4 : decide (0 < j) = false := by simp only [decide_eq_false_iff_not]; omega
              clear hj0 m3 hm
              generalize m.1 = mm at *
              clear y0 y1 y2 y5 y7
              have z7n : ∀ n, (wr.drewN n).cell? ⟨wo.heap.size, 7, none⟩ = some (.slice (some ⟨g2, 0, none⟩) 5 cap2) := fun n => z7
              have zcn : ∀ n, (wr.drewN n).cell? ⟨g2, j * 3, none⟩ = some (.int .i64 mm) := fun n => zc
              clear z7 zc
              go_wp2_with fail
              go_quiet (fail)
              go_wp2
              exact ⟨⟨j + 1, by omega, by norm_cast, HQ.out.trans ((below_dN wr _).mono HQ.out.size)⟩, by simp [intOf]; omega⟩
            · obtain ⟨j1, hj1⟩ : ∃ j1, j = j1 + 1 := ⟨j - 1, by omega⟩
              obtain ⟨m', hm'⟩ : ∃ m', fl[j1]? = some m' := ⟨_, List.getElem?_eq_getElem (by rw [H5.out]; omega)⟩
              have zc' : wr.cell? ⟨g2, j1 * 3, none⟩ = some (.int .i64 m'.1) := Blk.cell (Blk.below HXL.out HBq.out) (HFr.out j1 m' hm').2
              have hlt3 : m'.1 < m.1 := HRi.out j1 m' m hm' (by rw [← hj1]; exact hm)
              have a3 : decide (0 < (j : Int)) = true := by simp only [decide_eq_true_eq]; omega
              have a4 : decide (0 < j) = true := by simp only [decide_eq_true_eq]; omega
              have a5 : decide (m.1 ≤ m'.1) = false := by simp only [decide_eq_false_iff_not]; omega
              have hw6 : IntKind.i64.wrap ((j : Int) - 1) = (j1 : Int) := by rw [IntKind.wrap_i64]; omega
              have hj6 : (j1 : Int) < 5 := by omega
              clear hj0 m3 hm hj1 hm' hlt3
              generalize m.1 = mm at *
              generalize m'.1 = mn at *
              clear y0 y1 y2 y5 y7
              have z7n : ∀ n, (wr.drewN n).cell? ⟨wo.heap.size, 7, none⟩ = some (.slice (some ⟨g2, 0, none⟩) 5 cap2) := fun n => z7
              have zcn : ∀ n, (wr.drewN n).cell? ⟨g2, j * 3, none⟩ = some (.int .i64 mm) := fun n => zc
              have zdn : ∀ n, (wr.drewN n).cell? ⟨g2, j1 * 3, none⟩ = some (.int .i64 mn) := fun n => zc'
              clear z7 zc zc'
              go_wp2_with fail
              go_quiet (fail)
              go_wp2
              exact ⟨⟨j + 1, by omega, by norm_cast, HQ.out.trans ((below_dN wr _).mono HQ.out.size)⟩, by simp [intOf]; omega⟩
          · have e1 : decide ((j : Int) < 5) = false := by simp only [decide_eq_false_iff_not]; omega
            have XL5 := Blk.below HXL.out HBq.out
            have z1 : wr.cell? ⟨g2, 1, none⟩ = some (.string tt) := Blk.cell XL5 HT.out
            have zf : wr.frozen? ⟨g2, 1, none⟩ = false := Blk.frozen XL5
            obtain ⟨W5, hW5⟩ : ∃ W5, wr.setCell ⟨g2, 1, none⟩ (.string ⟨#[115, 112, 111, 105, 108, 116]⟩) = W5 := ⟨_, rfl⟩
            have HI5 : Hid (Below w1.heap.size w1 W5 ∧ KRow W5 (.slice (some ⟨g, 0, none⟩) ks.length kc) ks ∧ ∀ x ∈ ks, LFr W5 w1.heap.size x.2 x.1.fl) := by
              show _ ∧ _ ∧ _
              rw [← hW5]
              have hb1 : Below w1.heap.size w1 wr := HI.out.1.trans (HBq.out.mono HI.out.1.size)
              exact ⟨hb1.setCell (p := ⟨g2, 1, none⟩) HG2.out _, (HI.out.2.1.below HBq.out).spoil XL5 _, fun x hx => ((HI.out.2.2 x hx).below HBq.out).spoil g2 _⟩
            clear y0 y1 y2 y5 y7 XL5 HQ HBq
            go_wp2
            exact ⟨⟨k + 1, by omega, by norm_cast, HI5⟩, by simp [intOf]; omega⟩
      · have d4 : decide (0 < (k : Int)) = true := by simp only [decide_eq_true_eq]; omega
        have d6 : decide (0 < k) = true := by simp only [decide_eq_true_eq]; omega
        obtain ⟨k1, hk1⟩ : ∃ k1, k = k1 + 1 := ⟨k - 1, by omega⟩
        obtain ⟨t2, u2, u3⟩ := HPv.out k1 hk1
        have y9 : ∀ n, (W3.drewN n).cell? ⟨g, k1 * 8 + 2, none⟩ = some (.int .i64 t2) := fun n => ((HB3'.out.trans (below_dN W3 n |>.mono HB3'.out.size)).cell (p := ⟨g, k1 * 8 + 2, none⟩) hgl).trans u2
        have d5 : decide (s2 ≤ t2) = false := by simp only [decide_eq_false_iff_not]; omega
        have hw9 : IntKind.i64.wrap ((k : Int) - 1) = (k1 : Int) := by rw [IntKind.wrap_i64]; omega
        have hk9 : (k1 : Int) < (ks.length : Int) := by omega
        clear hk0 hk1 u2 u3
        go_wp2_with fail
        go_quiet (first | (go_at_call 9; exact Calls.quiet_of_same (HVw.out _)) | (go_at_call 11; exact Calls.quiet_of_same (HLo.out _)))
        go_wp2_with fail
        go_loopw [7] (fun iv wq => ∃ j : Nat, j ≤ 5 ∧ iv = .int .i64 j ∧ Hid (Below W3.heap.size W3 wq)) (fun iv _ => 5 - (intOf iv).toNat)
        case atStart => exact ⟨0, by omega, rfl, below_dN W3 _⟩
        case round =>
          obtain ⟨j, hj, rfl, HQ⟩ := hrel
          have HBq : Hid (Below wo.heap.size wo wr) := HB3'.out.trans (HQ.out.mono HB3'.out.size)
          have z7 : wr.cell? ⟨wo.heap.size, 7, none⟩ = some (.slice (some ⟨g2, 0, none⟩) 5 cap2) := Blk.cell (Blk.below HXW.out HQ.out) rfl
          by_cases hj5 : j < 5
          · have e1 : decide ((j : Int) < 5) = true := by simp only [decide_eq_true_eq]; omega
            have hji : (j : Int) < 5 := by omega
            obtain ⟨m, hm⟩ : ∃ m, fl[j]? = some m := ⟨_, List.getElem?_eq_getElem (by rw [H5.out]; exact hj5)⟩
            obtain ⟨⟨m1, m2⟩, m3⟩ := HFr.out j m hm
            have zc : wr.cell? ⟨g2, j * 3, none⟩ = some (.int .i64 m.1) := Blk.cell (Blk.below HXL.out HBq.out) m3
            have a1 : decide (m.1 < 0) = false := by simp only [decide_eq_false_iff_not]; omega
            have a2 : decide (6 < m.1) = false := by simp only [decide_eq_false_iff_not]; omega
            by_cases hj0 : j = 0
            · have a3 : decide (0 < (j : Int)) = false := by simp only [decide_eq_false_iff_not]; omega
              have a4 : decide (0 < j) = false := by simp only [decide_eq_false_iff_not]; omega
              clear hj0 m3 hm
              generalize m.1 = mm at *
              clear y0 y1 y2 y5 y7 y9
              have z7n : ∀ n, (wr.drewN n).cell? ⟨wo.heap.size, 7, none⟩ = some (.slice (some ⟨g2, 0, none⟩) 5 cap2) := fun n => z7
              have zcn : ∀ n, (wr.drewN n).cell? ⟨g2, j * 3, none⟩ = some (.int .i64 mm) := fun n => zc
              clear z7 zc
              go_wp2_with fail
              go_quiet (fail)
              go_wp2
              exact ⟨⟨j + 1, by omega, by norm_cast, HQ.out.trans ((below_dN wr _).mono HQ.out.size)⟩, by simp [intOf]; omega⟩
            · obtain ⟨j1, hj1⟩ : ∃ j1, j = j1 + 1 := ⟨j - 1, by omega⟩
              obtain ⟨m', hm'⟩ : ∃ m', fl[j1]? = some m' := ⟨_, List.getElem?_eq_getElem (by rw [H5.out]; omega)⟩
              have zc' : wr.cell? ⟨g2, j1 * 3, none⟩ = some (.int .i64 m'.1) := Blk.cell (Blk.below HXL.out HBq.out) (HFr.out j1 m' hm').2
              have hlt3 : m'.1 < m.1 := HRi.out j1 m' m hm' (by rw [← hj1]; exact hm)
              have a3 : decide (0 < (j : Int)) = true := by simp only [decide_eq_true_eq]; omega
              have a4 : decide (0 < j) = true := by simp only [decide_eq_true_eq]; omega
              have a5 : decide (m.1 ≤ m'.1) = false := by simp only [decide_eq_false_iff_not]; omega
              have hw6 : IntKind.i64.wrap ((j : Int) - 1) = (j1 : Int) := by rw [IntKind.wrap_i64]; omega
              have hj6 : (j1 : Int) < 5 := by omega
              clear hj0 m3 hm hj1 hm' hlt3
              generalize m.1 = mm at *
              generalize m'.1 = mn at *
              clear y0 y1 y2 y5 y7 y9
              have z7n : ∀ n, (wr.drewN n).cell? ⟨wo.heap.size, 7, none⟩ = some (.slice (some ⟨g2, 0, none⟩) 5 cap2) := fun n => z7
              have zcn : ∀ n, (wr.drewN n).cell? ⟨g2, j * 3, none⟩ = some (.int .i64 mm) := fun n => zc
              have zdn : ∀ n, (wr.drewN n).cell? ⟨g2, j1 * 3, none⟩ = some (.int .i64 mn) := fun n => zc'
              clear z7 zc zc'
              go_wp2_with fail
              go_quiet (fail)
              go_wp2
              exact ⟨⟨j + 1, by omega, by norm_cast, HQ.out.trans ((below_dN wr _).mono HQ.out.size)⟩, by simp [intOf]; omega⟩
          · have e1 : decide ((j : Int) < 5) = false := by simp only [decide_eq_false_iff_not]; omega
            have XL5 := Blk.below HXL.out HBq.out
            have z1 : wr.cell? ⟨g2, 1, none⟩ = some (.string tt) := Blk.cell XL5 HT.out
            have zf : wr.frozen? ⟨g2, 1, none⟩ = false := Blk.frozen XL5
            obtain ⟨W5, hW5⟩ : ∃ W5, wr.setCell ⟨g2, 1, none⟩ (.string ⟨#[115, 112, 111, 105, 108, 116]⟩) = W5 := ⟨_, rfl⟩
            have HI5 : Hid (Below w1.heap.size w1 W5 ∧ KRow W5 (.slice (some ⟨g, 0, none⟩) ks.length kc) ks ∧ ∀ x ∈ ks, LFr W5 w1.heap.size x.2 x.1.fl) := by
              show _ ∧ _ ∧ _
              rw [← hW5]
              have hb1 : Below w1.heap.size w1 wr := HI.out.1.trans (HBq.out.mono HI.out.1.size)
              exact ⟨hb1.setCell (p := ⟨g2, 1, none⟩) HG2.out _, (HI.out.2.1.below HBq.out).spoil XL5 _, fun x hx => ((HI.out.2.2 x hx).below HBq.out).spoil g2 _⟩
            clear y0 y1 y2 y5 y7 XL5 HQ HBq y9
            go_wp2
            exact ⟨⟨k + 1, by omega, by norm_cast, HI5⟩, by simp [intOf]; omega⟩
    · have hd1 : decide ((k : Int) < (ks.length : Int)) = false := by simp only [decide_eq_false_iff_not]; omega
      obtain ⟨wo, hwo⟩ : ∃ wo, wo = wr := ⟨wr, rfl⟩
      subst hwo
      have HKp : Hid _ := kept_calls (HA1.out.lg.below HI.out.1) HA1.out.inv (Fl.ok HA1.out.fl)
      go_wp2_with fail
      refine Calls.mono HKp.out ?_
      rintro e w4 ⟨kv2, rfl, hkv2, b4⟩
      have hkv3 := hkv2.kv
      obtain ⟨ka2, kc2, hkf2⟩ := hkv3.len
      rw [← HKl.out] at hkf2
      subst hkf2
      have HI4 : Hid (Below w1.heap.size w1 w4 ∧ KRow w4 (.slice ka ks.length kc) ks ∧ (∀ x ∈ ks, LFr w4 w1.heap.size x.2 x.1.fl) ∧ KV w4 (.slice ka2 ks.length kc2) M.kept) := ⟨HI.out.1.trans (b4.mono HI.out.1.size), HI.out.2.1.below b4, fun x hx => (HI.out.2.2 x hx).below b4, hkv3⟩
      clear hkv2 hkv3 b4 HKp HI
      go_wp2_with fail
      go_loopw [9] (fun iv wr => ∃ j : Nat, j ≤ ks.length ∧ iv = .int .i64 j ∧ Hid (Below w1.heap.size w1 wr ∧ KRow wr (.slice ka ks.length kc) ks ∧ (∀ x ∈ ks, LFr wr w1.heap.size x.2 x.1.fl) ∧ KV wr (.slice ka2 ks.length kc2) M.kept)) (fun iv _ => ks.length - (intOf iv).toNat)
      case atStart => exact ⟨0, by omega, rfl, HI4⟩
      case round =>
        clear HI4
        obtain ⟨j, hj, rfl, HI⟩ := hrel
        have HBw : Hid (∀ n, Below w.heap.size w (wr.drewN n)) := fun n => HA1.out.bel.trans ((HI.out.1.trans ((below_dN wr n).mono HI.out.1.size)).mono (by omega))
        by_cases hjl : j < ks.length
        · have e1 : decide ((j : Int) < (ks.length : Int)) = true := by simp only [decide_eq_true_eq]; omega
          have hji : (j : Int) < (ks.length : Int) := by omega
          have hj8 : j < 8 := by omega
          obtain ⟨x, hx⟩ : ∃ x, ks[j]? = some x := ⟨_, List.getElem?_eq_getElem hjl⟩
          obtain ⟨_, _, _, _, f6, _, f8⟩ := kept_is HKI.out (HKs.out j x hx)
          rw [HN7.out] at f6
          have f9 : x.1.fl.length = 5 := f6
          obtain ⟨m, hm⟩ : ∃ m, x.1.fl[0]? = some m := ⟨_, List.getElem?_eq_getElem (by omega)⟩
          have hS := (f8 m (List.mem_of_getElem? hm)).2.2
          obtain ⟨g3, cap3, lv3, he3, hg3, hsg3, hcl3⟩ := HI.out.2.2.2.at_ (HKs.out j x hx)
          injection he3 with q1 q2 q3
          subst q1
          obtain ⟨a4, cap4, hl4, hc4⟩ := hsg3.cells
          obtain ⟨g4, rfl, hg4, _, m4, _⟩ := hc4 0 m hm
          rw [f9] at hl4
          obtain ⟨a', cap', he', hrw⟩ := HI.out.2.1
          obtain ⟨g, cs, hga, XB, hcs⟩ := hrw j x hx
          obtain ⟨g2, cap2, cs2, hlv, hg2, XL, hfr, tt, htt⟩ := HI.out.2.2.1 x (List.mem_of_getElem? hx)
          injection he' with q4 q5 q6
          rw [hga] at q4
          subst q4
          have c7 : wr.cell? ⟨g, j * 8 + 7, none⟩ = some (.slice (some ⟨g2, 0, none⟩) 5 cap2) := by have := XB.cell (hcs 7 _ rfl); rw [hlv, f9] at this; exact this
          have d7 : wr.cell? ⟨g3, j * 8 + 7, none⟩ = some (.slice (some ⟨g4, 0, none⟩) 5 cap4) := by have := hcl3 7 _ rfl; rw [hl4] at this; exact this
          have c8 : wr.cell? ⟨g2, 1, none⟩ = some (.string tt) := XL.cell htt
          have d8 : wr.cell? ⟨g4, 1, none⟩ = some (.string m.2.1) := by have := m4; rw [Nat.zero_mul, Nat.zero_add] at this; exact this
          have HNx : Hid (∀ n, Below w1.heap.size w1 (wr.drewN n) ∧ KRow (wr.drewN n) (.slice (some ⟨g, 0, none⟩) ks.length kc) ks ∧ (∀ x ∈ ks, LFr (wr.drewN n) w1.heap.size x.2 x.1.fl) ∧ KV (wr.drewN n) (.slice (some ⟨g3, 0, none⟩) ks.length kc2) M.kept) := fun n => ⟨HI.out.1.trans ((below_dN wr n).mono HI.out.1.size), HI.out.2.1.below (below_dN wr n), fun x hx => (HI.out.2.2.1 x hx).below (below_dN wr n), HI.out.2.2.2.below (below_dN wr n)⟩
          have HS : Hid _ := hS
          clear hS hrw hcs XB hga XL hfr htt hlv hg2 f6 f8 f9 hc4 hcl3 hsg3 m4 HI hl4 q2 q3 q5 q6 hm hg3 hg4
          generalize m.2.1 = T at *
          by_cases t1 : T = tSp
          · subst t1
            unfold tSp at d8
            by_cases t2 : tt = tSp
            · subst t2
              unfold tSp at c8
              have HSp2 : Hid (∀ n, Calls Try.prog 19 #[.slice va l1.length vcap] (wr.drewN n) fun e w' => e = .returned (.bool true) ∧ w' = wr.drewN n) := fun n => HSp.out _ (HBw.out n) HS.out
              go_wp2_with fail
              refine Calls.mono (HSp2.out 0) ?_
              rintro e w9 ⟨rfl, hw9⟩
              obtain rfl := hw9.symm
              go_wp2
              exact ⟨⟨j + 1, by omega, by norm_cast, HNx.out 0⟩, by simp [intOf]; omega⟩
            · have f2 := spo_no t2
              clear t2
              go_wp2
              exact ⟨⟨j + 1, by omega, by norm_cast, HNx.out 0⟩, by simp [intOf]; omega⟩
          · have f1 := spo_no t1
            clear t1
            go_wp2
            exact ⟨⟨j + 1, by omega, by norm_cast, HNx.out 0⟩, by simp [intOf]; omega⟩
        · have e1 : decide ((j : Int) < (ks.length : Int)) = false := by simp only [decide_eq_false_iff_not]; omega
          go_wp2_with fail
          refine (awake_calls _).mono ?_
          rintro e w9 ⟨rfl, b9⟩
          go_wp2
          go_ret
          exact ⟨rfl, (HBw.out 0).trans (b9.mono (HBw.out 0).size)⟩
end Go.Proofs.Ytjpmnmgnbpecjaa
