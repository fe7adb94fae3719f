/- The walk of VlogViews. -/
import Derived.Test.YtjpmnmgnbpecjaaVlKv
import Derived.Test.YtjpmnmgnbpecjaaVlPv
import Derived.Test.YtjpmnmgnbpecjaaVlSm
namespace Go.Proofs.Ytjpmnmgnbpecjaa
open Go.Shelf Go.RowKit Go.Lib Go.Sort
open Go.ChangeMaps (setBlock)
set_option linter.unusedSimpArgs false
set_option linter.unusedVariables false
theorem enter_bad {L : Lv} {v : Int} (h : v ≤ L.vw ∨ 1048576 < v) : L.enter v = (L, 1) := by unfold Lv.enter; rw [if_pos h]
theorem enter_good {L : Lv} {v : Int} (h : ¬ (v ≤ L.vw ∨ 1048576 < v)) : (L.enter v).2 = 0 ∧ (L.enter v).1.vw = v ∧ (L.enter v).1.lo = L.lo ∧ (L.enter v).1.n = L.n ∧ (∀ j, (L.enter v).1.sl j = (L.sl j).forget) ∧ (L.enter v).1.kept = L.kept.map Slot.forget := by
  unfold Lv.enter
  rw [if_neg h]
  refine ⟨rfl, rfl, rfl, rfl, fun j => rfl, ?_⟩
  unfold Lv.kept
  simp only
  rw [List.filter_map, List.filter_map, List.map_map]
  rfl
theorem kept_mem {L : Lv} {k : Nat} {s : Slot} (h : L.kept[k]? = some s) : ∃ j, j < 8 ∧ s = L.sl j := by
  have := List.mem_of_getElem? h
  unfold Lv.kept at this
  rw [List.mem_filter, List.mem_map] at this
  obtain ⟨⟨i, hi, e⟩, _⟩ := this
  exact ⟨_, pla_lt _, e.symm⟩
theorem kept_le (L : Lv) : L.kept.length ≤ 8 := by
  have := List.length_filter_le (fun s : Slot => decide (0 < s.fs)) ((List.range 8).map fun (i : Nat) => L.sl (pla (L.lo + 1 + (i : Int))))
  simpa [Lv.kept] using this
theorem enter_none {L L' : Lv} (h : ∀ j, L'.sl j = (L.sl j).forget) (s : Int) : L'.propAt s = false ∧ (L'.votedV 3 s 0).isSome = false ∧ L'.prepAt s = false ∧ L'.commAt s = false := by
  have h1 : L'.propAt s = false := by unfold Lv.propAt; rw [h]; simp [Slot.forget]
  have h2 : (L'.votedV 3 s 0).isSome = false := by
    unfold Lv.votedV
    split
    · rw [h]; rfl
    · rfl
  have h3 : L'.prepAt s = false := by unfold Lv.prepAt Slot.prep; rw [h]; simp [Slot.forget]
  have h4 : L'.commAt s = false := by
    cases e : L'.commAt s with
    | false => rfl
    | true => rw [comm_prepAt e] at h3; cases h3
  exact ⟨h1, h2, h3, h4⟩
set_option maxHeartbeats 16000000 in
set_option maxRecDepth 100000 in
theorem views_calls (v1 : Value) (l1 : List Ac) (vw : Int) (w : World) (h1 : Acs w v1 l1) :
    Calls Try.prog 3 #[v1, .int .i64 vw] w fun e w' => e = .returned (.bool true) ∧ Below w.heap.size w w' := by
  have HBg := begun_calls v1 l1 w w h1 (Below.refl _ _)
  generalize runs (Lv.new 7) (l1.take 80) = M at *
  obtain ⟨va, vcap, rfl, _⟩ := h1.any
  clear h1
  go_enter Try.func3, Try.ntmps3
  go_wp2_with fail
  refine HBg.mono ?_
  rintro e w1 ⟨rfl, mp1, A1⟩
  have HVw : Hid _ := view_calls A1.lg A1.inv
  have HKp : Hid _ := kept_calls A1.lg A1.inv (Fl.ok A1.fl)
  have HA1 : Hid _ := A1
  have hp1 : w.heap.size < w1.heap.size := A1.lg.lt
  have hlo := A1.inv.lo
  have HFl : Hid (Fl M) := A1.fl
  clear A1 HBg
  go_wp2_with fail
  refine Calls.mono HVw.out ?_
  rintro e w2 ⟨rfl, hw2⟩
  obtain rfl := hw2.symm
  clear HVw
  go_wp2_with fail
  refine Calls.mono HKp.out ?_
  rintro e w2 ⟨kv, rfl, hkv, b2⟩
  have HA2 : Hid (Ats w.heap.size w w2 w.heap.size mp1 M ∧ KV w2 kv M.kept) := ⟨HA1.out.below b2, hkv.kv⟩
  have z2 := b2.size
  obtain ⟨ka, kc, hkl⟩ := HA2.out.2.len
  subst hkl
  have HLo : Hid _ := low_calls HA2.out.1.lg HA2.out.1.inv
  have HEn : Hid _ := enter_calls HA2.out.1.lg HA2.out.1.inv vw
  have HEo : Hid _ := enter_ok HA2.out.1.inv HA2.out.1.fl vw
  clear hkv b2 HKp HA1
  go_wp2_with fail
  refine Calls.mono HLo.out ?_
  rintro e w3 ⟨rfl, hw3⟩
  obtain rfl := hw3.symm
  clear HLo
  by_cases hbad : vw ≤ M.vw ∨ 1048576 < vw
  · rw [enter_bad hbad] at HEn
    go_wp2_with fail
    refine Calls.mono HEn.out ?_
    rintro e w7 ⟨rfl, mp7, l7, s7⟩
    have HA7 : Hid _ := Ats.step HA2.out.1 l7 s7 HA2.out.1.inv HA2.out.1.fl
    have HVw7 : Hid _ := view_calls HA7.out.lg HA7.out.inv
    clear l7 s7 HEn HEo HA2
    by_cases c1 : vw ≤ M.vw
    · have e1 : decide (vw ≤ M.vw) = true := decide_eq_true c1
      clear hbad
      go_wp2_with fail
      refine Calls.mono HVw7.out ?_
      rintro e w8 ⟨rfl, hw8⟩
      obtain rfl := hw8.symm
      go_wp2_with fail
      refine (awake_calls _).mono ?_
      rintro e w9 ⟨rfl, b9⟩
      go_wp2
      go_ret
      exact ⟨rfl, HA7.out.bel.trans (b9.mono HA7.out.sz)⟩
    · have e1 : decide (vw ≤ M.vw) = false := decide_eq_false c1
      have c2 : 1048576 < vw := by rcases hbad with x | x; exact absurd x c1; exact x
      have e2 : decide (1048576 < vw) = true := decide_eq_true c2
      clear hbad
      go_wp2_with fail
      refine Calls.mono HVw7.out ?_
      rintro e w8 ⟨rfl, hw8⟩
      obtain rfl := hw8.symm
      go_wp2_with fail
      refine (awake_calls _).mono ?_
      rintro e w9 ⟨rfl, b9⟩
      go_wp2
      go_ret
      exact ⟨rfl, HA7.out.bel.trans (b9.mono HA7.out.sz)⟩
  · obtain ⟨g1, g2, g3, g4, g5, g6⟩ := enter_good hbad
    have e1 : decide (vw ≤ M.vw) = false := by simp only [decide_eq_false_iff_not]; omega
    have e2 : decide (1048576 < vw) = false := by simp only [decide_eq_false_iff_not]; omega
    have HNo : Hid _ := enter_none g5
    generalize M.enter vw = R at *
    obtain ⟨M', R2⟩ := R
    simp only at g1 g2 g3 g4 g6 HNo
    subst g1
    have G2 : Hid _ := g2
    have G3 : Hid _ := g3
    have G6 : Hid _ := g6
    clear hbad g2 g3 g4 g5 g6
    go_wp2_with fail
    refine Calls.mono HEn.out ?_
    rintro e w7 ⟨rfl, mp7, l7, s7⟩
    have HI7 : Hid (Ats w.heap.size w w7 w.heap.size mp7 M' ∧ KV w7 (.slice ka M.kept.length kc) M.kept) := ⟨Ats.step HA2.out.1 l7 s7 HEo.out.1 HEo.out.2.1, HA2.out.2.stp HA2.out.1.lg s7⟩
    have HKp7 : Hid _ := kept_calls HI7.out.1.lg HI7.out.1.inv (Fl.ok HI7.out.1.fl)
    clear l7 s7 HEn HEo HA2
    go_wp2_with fail
    refine Calls.mono HKp7.out ?_
    rintro e w8 ⟨kv2, rfl, hkv2, b8⟩
    have HI8 : Hid (Ats w.heap.size w w8 w.heap.size mp7 M' ∧ KV w8 (.slice ka M.kept.length kc) M.kept ∧ KV w8 kv2 M'.kept) := ⟨HI7.out.1.below b8, HI7.out.2.below b8, hkv2.kv⟩
    obtain ⟨ka2, kc2, hkl2⟩ := HI8.out.2.2.len
    have hlen : M'.kept.length = M.kept.length := by rw [G6.out, List.length_map]
    rw [hlen] at hkl2
    subst hkl2
    have HVw8 : Hid (Calls Try.prog 9 #[.pointer (some ⟨w.heap.size, 0, none⟩)] w8 fun e w' => e = .returned (.int .i64 vw) ∧ w' = w8) := by
      have := view_calls HI8.out.1.lg HI8.out.1.inv
      rw [G2.out] at this
      exact this
    have HLo8 : Hid (Calls Try.prog 11 #[.pointer (some ⟨w.heap.size, 0, none⟩)] w8 fun e w' => e = .returned (.int .i64 M.lo) ∧ w' = w8) := by
      have := low_calls HI8.out.1.lg HI8.out.1.inv
      rw [G3.out] at this
      exact this
    clear hkv2 b8 HKp7 HI7 hlen
    go_wp2_with fail
    refine Calls.mono HVw8.out ?_
    rintro e w9 ⟨rfl, hw9⟩
    obtain rfl := hw9.symm
    go_wp2_with fail
    refine Calls.mono HLo8.out ?_
    rintro e w9 ⟨rfl, hw9⟩
    obtain rfl := hw9.symm
    clear HVw8 HLo8 e1 e2
    go_wp2_with fail
    go_loopw [11] (fun iv wr => ∃ k : Nat, k ≤ M.kept.length ∧ iv = .int .i64 k ∧ Hid (Ats w.heap.size w wr w.heap.size mp7 M' ∧ KV wr (.slice ka M.kept.length kc) M.kept ∧ KV wr (.slice ka2 M.kept.length kc2) M'.kept)) (fun iv _ => M.kept.length - (intOf iv).toNat)
    case atStart => exact ⟨0, by omega, rfl, HI8⟩
    case round =>
      clear HI8
      obtain ⟨k, hk, rfl, HI⟩ := hrel
      by_cases hlt : k < M.kept.length
      · have hd1 : decide ((k : Int) < (M.kept.length : Int)) = true := by simp only [decide_eq_true_eq]; omega
        have hki : (k : Int) < (M.kept.length : Int) := by omega
        have hk8 : k < 8 := Nat.lt_of_lt_of_le hlt (kept_le M)
        obtain ⟨s, hs⟩ : ∃ s, M.kept[k]? = some s := ⟨_, List.getElem?_eq_getElem hlt⟩
        have hs2 : M'.kept[k]? = some s.forget := by rw [G6.out, List.getElem?_map, hs]; rfl
        obtain ⟨g, cap, lv, he, hg, hsg, hcl⟩ := HI.out.2.1.at_ hs
        obtain ⟨g', cap', lv', he', hg', hsg', hcl'⟩ := HI.out.2.2.at_ hs2
        injection he with he1 he2 he3
        injection he' with he1' he2' he3'
        subst he1 he1'
        have hfl : s.fl.length ≤ 1000000 := by
          obtain ⟨j, _, e⟩ := kept_mem hs
          rw [e]
          exact Nat.le_trans (HFl.out j) (by decide)
        have HS : Hid (∀ wx, Below wr.heap.size wr wx → _) := fun wx (hb : Below wr.heap.size wr wx) => same_true s.fk s.fv s.fs 0 0 s.fd s.ft lv' lv s.fl wx 0 0 (Sgr.below hsg' hb) (Sgr.below hsg hb) hfl
        have HNx : Hid (∀ wx, Below wr.heap.size wr wx → Ats w.heap.size w wx w.heap.size mp7 M' ∧ KV wx (.slice (some ⟨g, 0, none⟩) M.kept.length kc) M.kept ∧ KV wx (.slice (some ⟨g', 0, none⟩) M.kept.length kc2) M'.kept) := fun wx hb => ⟨HI.out.1.below hb, HI.out.2.1.below hb, HI.out.2.2.below hb⟩
        have c0 : wr.cell? ⟨g, k * 8, none⟩ = some (.int .i64 s.fk) := hcl 0 _ rfl
        have c1 : wr.cell? ⟨g, k * 8 + 1, none⟩ = some (.int .i64 s.fv) := hcl 1 _ rfl
        have c2 : wr.cell? ⟨g, k * 8 + 2, none⟩ = some (.int .i64 s.fs) := hcl 2 _ rfl
        have c3 : wr.cell? ⟨g, k * 8 + 3, none⟩ = some (.int .i64 0) := hcl 3 _ rfl
        have c4 : wr.cell? ⟨g, k * 8 + 4, none⟩ = some (.int .i64 0) := hcl 4 _ rfl
        have c5 : wr.cell? ⟨g, k * 8 + 5, none⟩ = some (.string s.fd) := hcl 5 _ rfl
        have c6 : wr.cell? ⟨g, k * 8 + 6, none⟩ = some (.string s.ft) := hcl 6 _ rfl
        have c7 : wr.cell? ⟨g, k * 8 + 7, none⟩ = some (lv) := hcl 7 _ rfl
        have d0 : wr.cell? ⟨g', k * 8, none⟩ = some (.int .i64 s.fk) := hcl' 0 _ rfl
        have d1 : wr.cell? ⟨g', k * 8 + 1, none⟩ = some (.int .i64 s.fv) := hcl' 1 _ rfl
        have d2 : wr.cell? ⟨g', k * 8 + 2, none⟩ = some (.int .i64 s.fs) := hcl' 2 _ rfl
        have d3 : wr.cell? ⟨g', k * 8 + 3, none⟩ = some (.int .i64 0) := hcl' 3 _ rfl
        have d4 : wr.cell? ⟨g', k * 8 + 4, none⟩ = some (.int .i64 0) := hcl' 4 _ rfl
        have d5 : wr.cell? ⟨g', k * 8 + 5, none⟩ = some (.string s.fd) := hcl' 5 _ rfl
        have d6 : wr.cell? ⟨g', k * 8 + 6, none⟩ = some (.string s.ft) := hcl' 6 _ rfl
        have d7 : wr.cell? ⟨g', k * 8 + 7, none⟩ = some (lv') := hcl' 7 _ rfl
        clear hcl hcl' hsg hsg' hs hs2 he2 he3 he2' he3' HI hfl
        generalize s.fk = s0 at *
        generalize s.fv = s1 at *
        generalize s.fs = s2 at *
        generalize s.fd = s5 at *
        generalize s.ft = s6 at *
        have HCe : Hid (∀ wx, Below wr.heap.size wr wx → (wx.cell? ⟨g, k * 8, none⟩ = some (.int .i64 s0) ∧ wx.cell? ⟨g, k * 8 + 1, none⟩ = some (.int .i64 s1) ∧ wx.cell? ⟨g, k * 8 + 2, none⟩ = some (.int .i64 s2) ∧ wx.cell? ⟨g, k * 8 + 3, none⟩ = some (.int .i64 0) ∧ wx.cell? ⟨g, k * 8 + 4, none⟩ = some (.int .i64 0) ∧ wx.cell? ⟨g, k * 8 + 5, none⟩ = some (.string s5) ∧ wx.cell? ⟨g, k * 8 + 6, none⟩ = some (.string s6) ∧ wx.cell? ⟨g, k * 8 + 7, none⟩ = some (lv)) ∧ (wx.cell? ⟨g', k * 8, none⟩ = some (.int .i64 s0) ∧ wx.cell? ⟨g', k * 8 + 1, none⟩ = some (.int .i64 s1) ∧ wx.cell? ⟨g', k * 8 + 2, none⟩ = some (.int .i64 s2) ∧ wx.cell? ⟨g', k * 8 + 3, none⟩ = some (.int .i64 0) ∧ wx.cell? ⟨g', k * 8 + 4, none⟩ = some (.int .i64 0) ∧ wx.cell? ⟨g', k * 8 + 5, none⟩ = some (.string s5) ∧ wx.cell? ⟨g', k * 8 + 6, none⟩ = some (.string s6) ∧ wx.cell? ⟨g', k * 8 + 7, none⟩ = some (lv'))) := fun wx hb => ⟨⟨(hb.cell (p := ⟨g, k * 8, none⟩) hg).trans c0, (hb.cell (p := ⟨g, k * 8 + 1, none⟩) hg).trans c1, (hb.cell (p := ⟨g, k * 8 + 2, none⟩) hg).trans c2, (hb.cell (p := ⟨g, k * 8 + 3, none⟩) hg).trans c3, (hb.cell (p := ⟨g, k * 8 + 4, none⟩) hg).trans c4, (hb.cell (p := ⟨g, k * 8 + 5, none⟩) hg).trans c5, (hb.cell (p := ⟨g, k * 8 + 6, none⟩) hg).trans c6, (hb.cell (p := ⟨g, k * 8 + 7, none⟩) hg).trans c7⟩, ⟨(hb.cell (p := ⟨g', k * 8, none⟩) hg').trans d0, (hb.cell (p := ⟨g', k * 8 + 1, none⟩) hg').trans d1, (hb.cell (p := ⟨g', k * 8 + 2, none⟩) hg').trans d2, (hb.cell (p := ⟨g', k * 8 + 3, none⟩) hg').trans d3, (hb.cell (p := ⟨g', k * 8 + 4, none⟩) hg').trans d4, (hb.cell (p := ⟨g', k * 8 + 5, none⟩) hg').trans d5, (hb.cell (p := ⟨g', k * 8 + 6, none⟩) hg').trans d6, (hb.cell (p := ⟨g', k * 8 + 7, none⟩) hg').trans d7⟩⟩
        clear c0 c1 c2 c3 c4 c5 c6 c7 d0 d1 d2 d3 d4 d5 d6 d7
        go_wp2_with fail
        refine wp_region_held_drew (S := (fun wx => Below wr.heap.size wr wx)) (by kernel_rfl) ((Below.refl _ _).drew) (fun hS => ?_)
        refine wpAnyH_take (i := 0) (v := (.slice (some ⟨g', 0, none⟩) M.kept.length kc2)) rfl (by kernel_rfl) (by kernel_rfl) (by kernel_rfl) (fun _ _ _ h => h) (Or.inl ⟨by kernel_rfl, fun wx hS => by clear hS; go_simp⟩) hS ?_
        refine wpAnyH_take (i := 1) (v := (.int .i64 k)) rfl (by kernel_rfl) (by kernel_rfl) (by kernel_rfl) (fun _ _ _ h => h) (Or.inl ⟨by kernel_rfl, fun wx hS => by clear hS; go_simp⟩) hS ?_
        refine wpAnyH_take (i := 2) (v := (.pointer (some ⟨g', k * 8, none⟩))) rfl (by kernel_rfl) (by kernel_rfl) (by kernel_rfl) (fun _ _ _ h => h) (Or.inl ⟨by kernel_rfl, fun wx hS => by clear hS; go_simp⟩) hS ?_
        refine wpAnyH_take (i := 3) (v := (.agg #[.int .i64 s0, .int .i64 s1, .int .i64 s2, .int .i64 0, .int .i64 0, .string s5, .string s6, lv'])) rfl (by kernel_rfl) (by kernel_rfl) (by kernel_rfl) (fun _ _ _ h => h) (Or.inl ⟨by kernel_rfl, fun wx hS => by obtain ⟨t0, t1, t2, t3, t4, t5, t6, t7⟩ := (HCe.out wx hS).2; clear hS; go_simp⟩) hS ?_
        refine wpAnyH_take (i := 4) (v := (.slice (some ⟨g, 0, none⟩) M.kept.length kc)) rfl (by kernel_rfl) (by kernel_rfl) (by kernel_rfl) (fun _ _ _ h => h) (Or.inl ⟨by kernel_rfl, fun wx hS => by clear hS; go_simp⟩) hS ?_
        refine wpAnyH_take (i := 5) (v := (.int .i64 k)) rfl (by kernel_rfl) (by kernel_rfl) (by kernel_rfl) (fun _ _ _ h => h) (Or.inl ⟨by kernel_rfl, fun wx hS => by clear hS; go_simp⟩) hS ?_
        refine wpAnyH_take (i := 6) (v := (.pointer (some ⟨g, k * 8, none⟩))) rfl (by kernel_rfl) (by kernel_rfl) (by kernel_rfl) (fun _ _ _ h => h) (Or.inl ⟨by kernel_rfl, fun wx hS => by clear hS; go_simp⟩) hS ?_
        refine wpAnyH_take (i := 7) (v := (.agg #[.int .i64 s0, .int .i64 s1, .int .i64 s2, .int .i64 0, .int .i64 0, .string s5, .string s6, lv])) rfl (by kernel_rfl) (by kernel_rfl) (by kernel_rfl) (fun _ _ _ h => h) (Or.inl ⟨by kernel_rfl, fun wx hS => by obtain ⟨t0, t1, t2, t3, t4, t5, t6, t7⟩ := (HCe.out wx hS).1; clear hS; go_simp⟩) hS ?_
        refine wpAnyH_ready (rs := [8]) (by kernel_rfl) (by simp) ?_
        refine AllReadyH.cons rfl (fun K hK => ?_) AllReadyH.nil
        go_simp
        refine Calls.mono (HS.out _ hS) ?_
        rintro e w4 ⟨rfl, b4⟩
        have B4 : Below wr.heap.size wr w4 := hS.trans (b4.mono hS.size)
        refine hK.out _ _ B4 (fun hS => ?_)
        clear hK
        refine wpAnyH_take (i := 9) (v := (.bool false)) rfl (by kernel_rfl) (by kernel_rfl) (by kernel_rfl) (fun _ _ _ h => h) (Or.inl ⟨by kernel_rfl, fun wx hS => by clear hS; go_simp⟩) hS ?_
        refine wpAnyH_done (by kernel_rfl) ?_ _
        have HB4 : Hid _ := B4
        clear hS b4 B4 HCe HS
        go_simp
        go_wp2
        exact ⟨⟨k + 1, by omega, by norm_cast, HNx.out _ HB4.out⟩, by simp [intOf]; omega⟩
      · have hd1 : decide ((k : Int) < (M.kept.length : Int)) = false := by simp only [decide_eq_false_iff_not]; omega
        have HI9 : Hid (Ats w.heap.size w wr w.heap.size mp7 M') := HI.out.1
        obtain ⟨w9, hw9⟩ : ∃ w9, w9 = wr := ⟨wr, rfl⟩
        subst hw9
        clear HI
        have hw8 : IntKind.i64.wrap (M.lo + 9) = M.lo + 9 := by rw [IntKind.wrap_i64]; omega
        go_wp2_with fail
        go_loopw [12] (fun iv wr => ∃ z : Int, M.lo ≤ z ∧ z ≤ M.lo + 10 ∧ iv = .int .i64 z ∧ Hid (Ats w.heap.size w wr w.heap.size mp7 M')) (fun iv _ => (M.lo + 10 - intOf iv).toNat)
        case atStart => exact ⟨M.lo, by omega, by omega, rfl, HI9⟩
        case round =>
          clear HI9
          obtain ⟨z, hz0, hz1, rfl, HI⟩ := hrel
          by_cases hlt2 : z ≤ M.lo + 9
          · have hd5 : decide (z ≤ M.lo + 9) = true := decide_eq_true hlt2
            have hwz : IntKind.i64.wrap (z + 1) = z + 1 := by rw [IntKind.wrap_i64]; omega
            obtain ⟨n1, n2, n3, n4⟩ := HNo.out z
            have HP := fun wx (hb : Below wr.heap.size wr wx) => proposal_calls (HI.out.below hb).lg HI.out.inv z
            have HV := fun wx (hb : Below wr.heap.size wr wx) => voted3_calls (HI.out.below hb).lg HI.out.inv z 0
            have HQ : Hid (∀ wx, Below wr.heap.size wr wx → Calls Try.prog 17 #[.pointer (some ⟨w.heap.size, 0, none⟩), .int .i64 z] wx fun e w' => e = .returned (.bool false) ∧ Below wx.heap.size wx w') := fun wx hb => by
              have := prepd_calls (HI.out.below hb).lg HI.out.inv z
              rw [show (M'.wi z && (M'.sl (pla z)).prep M'.n) = false from n3] at this
              exact this
            have HR : Hid (∀ wx, Below wr.heap.size wr wx → Calls Try.prog 18 #[.pointer (some ⟨w.heap.size, 0, none⟩), .int .i64 z] wx fun e w' => e = .returned (.bool false) ∧ Below wx.heap.size wx w') := fun wx hb => by
              have := commd_calls (HI.out.below hb).lg HI.out.inv z
              rw [show (M'.wi z && (M'.sl (pla z)).comm M'.n) = false from n4] at this
              exact this
            rw [n1] at HP
            rw [n2] at HV
            have HP2 : Hid _ := HP
            have HV2 : Hid _ := HV
            have HNx : Hid (∀ wx, Below wr.heap.size wr wx → Ats w.heap.size w wx w.heap.size mp7 M') := fun wx hb => HI.out.below hb
            clear HP HV n1 n2 n3 n4
            generalize M'.propD z = D0 at *
            generalize M'.propB z = D1 at *
            generalize msgOf (M'.votedV 3 z 0) = D2 at *
            clear HI
            go_wp2_with fail
            refine Calls.mono (HP2.out _ (Below.refl _ _)) ?_
            rintro e x0 ⟨rfl, y0⟩
            go_wp2_with fail
            refine Calls.mono (HV2.out _ y0) ?_
            rintro e x1 ⟨rfl, y1⟩
            have y3 : Below wr.heap.size wr x1 := y0.trans (y1.mono y0.size)
            obtain ⟨x2, hx2, y4⟩ : ∃ x2, x1.alloc (.cells #[.int .i64 D2.1, .string D2.2.1, .string D2.2.2] 38) = x2 ∧ Below x1.heap.size x1 x2 := ⟨_, rfl, by go_grown⟩
            have y2 : Below wr.heap.size wr x2 := y3.trans (y4.mono y3.size)
            clear y0 y1 y3 y4
            go_wp2_with fail
            refine Calls.mono (HQ.out _ y2) ?_
            rintro e x3 ⟨rfl, y5⟩
            have y6 : Below wr.heap.size wr x3 := y2.trans (y5.mono y2.size)
            clear y5
            go_wp2_with fail
            refine Calls.mono (HR.out _ y6) ?_
            rintro e x4 ⟨rfl, y7⟩
            have HY : Hid (Below wr.heap.size wr x4) := y6.trans (y7.mono y6.size)
            clear y2 y6 y7
            go_wp2
            exact ⟨⟨z + 1, by omega, by omega, rfl, HNx.out _ HY.out⟩, by simp [intOf]; omega⟩
          · have hd5 : decide (z ≤ M.lo + 9) = false := decide_eq_false hlt2
            go_wp2_with fail
            refine (awake_calls _).mono ?_
            rintro e w10 ⟨rfl, b10⟩
            go_wp2
            go_ret
            exact ⟨rfl, HI.out.bel.trans (b10.mono HI.out.sz)⟩
end Go.Proofs.Ytjpmnmgnbpecjaa
