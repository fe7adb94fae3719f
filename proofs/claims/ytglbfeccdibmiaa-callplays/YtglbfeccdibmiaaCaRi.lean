/- The document's Right and Traded. -/
import Derived.Test.YtglbfeccdibmiaaCaD
import Derived.Test.YtglbfeccdibmiaaCaBe
namespace Go.Proofs.Ytglbfeccdibmiaa
open Go.Shelf Go.RowKit Go.Lib Go.Sort
set_option linter.unusedSimpArgs false
set_option linter.unusedVariables false

set_option maxHeartbeats 4000000 in
set_option maxRecDepth 100000 in
theorem right_calls (o : Od) (w : World) : Calls Try.prog 25 #[.agg (oC o).toArray] w fun e w' => e = .returned (.bool (mayB o)) ∧ Gr w w' := by
  have HM : Hid (mayB o = (decide (0 ≤ o.id ∧ o.id ≤ 9007199254740992) && decide (0 ≤ o.own ∧ o.own ≤ 15) && decide (0 ≤ o.pr ∧ o.pr ≤ 1099511627776) && decide (1 ≤ o.am ∧ o.am ≤ 1048576))) := rfl
  unfold oC
  generalize mayB o = M at *
  generalize o.id = x1 at *
  generalize o.own = x2 at *
  generalize o.pr = x3 at *
  generalize o.am = x4 at *
  generalize o.pl = x5 at *
  generalize o.by = x6 at *
  by_cases h0 : 0 ≤ x1
  · have d0 : decide (0 ≤ x1) = true := decide_eq_true h0
    by_cases h1 : x1 ≤ 9007199254740992
    · have d1 : decide (x1 ≤ 9007199254740992) = true := decide_eq_true h1
      by_cases h2 : 0 ≤ x2
      · have d2 : decide (0 ≤ x2) = true := decide_eq_true h2
        by_cases h3 : x2 ≤ 15
        · have d3 : decide (x2 ≤ 15) = true := decide_eq_true h3
          by_cases h4 : 0 ≤ x3
          · have d4 : decide (0 ≤ x3) = true := decide_eq_true h4
            by_cases h5 : x3 ≤ 1099511627776
            · have d5 : decide (x3 ≤ 1099511627776) = true := decide_eq_true h5
              by_cases h6 : 1 ≤ x4
              · have d6 : decide (1 ≤ x4) = true := decide_eq_true h6
                by_cases h7 : x4 ≤ 1048576
                · have d7 : decide (x4 ≤ 1048576) = true := decide_eq_true h7
                  go_enter Try.func25, Try.ntmps25
                  go_wp2
                  go_ret
                  exact ⟨by rw [HM.out]; simp; omega, (Gr.refl _).alloc _⟩
                · have d7 : decide (x4 ≤ 1048576) = false := decide_eq_false h7
                  go_enter Try.func25, Try.ntmps25
                  go_wp2
                  go_ret
                  exact ⟨by rw [HM.out]; simp; omega, (Gr.refl _).alloc _⟩
              · have d6 : decide (1 ≤ x4) = false := decide_eq_false h6
                go_enter Try.func25, Try.ntmps25
                go_wp2
                go_ret
                exact ⟨by rw [HM.out]; simp; omega, (Gr.refl _).alloc _⟩
            · have d5 : decide (x3 ≤ 1099511627776) = false := decide_eq_false h5
              go_enter Try.func25, Try.ntmps25
              go_wp2
              go_ret
              exact ⟨by rw [HM.out]; simp; omega, (Gr.refl _).alloc _⟩
          · have d4 : decide (0 ≤ x3) = false := decide_eq_false h4
            go_enter Try.func25, Try.ntmps25
            go_wp2
            go_ret
            exact ⟨by rw [HM.out]; simp; omega, (Gr.refl _).alloc _⟩
        · have d3 : decide (x2 ≤ 15) = false := decide_eq_false h3
          go_enter Try.func25, Try.ntmps25
          go_wp2
          go_ret
          exact ⟨by rw [HM.out]; simp; omega, (Gr.refl _).alloc _⟩
      · have d2 : decide (0 ≤ x2) = false := decide_eq_false h2
        go_enter Try.func25, Try.ntmps25
        go_wp2
        go_ret
        exact ⟨by rw [HM.out]; simp; omega, (Gr.refl _).alloc _⟩
    · have d1 : decide (x1 ≤ 9007199254740992) = false := decide_eq_false h1
      go_enter Try.func25, Try.ntmps25
      go_wp2
      go_ret
      exact ⟨by rw [HM.out]; simp; omega, (Gr.refl _).alloc _⟩
  · have d0 : decide (0 ≤ x1) = false := decide_eq_false h0
    go_enter Try.func25, Try.ntmps25
    go_wp2
    go_ret
    exact ⟨by rw [HM.out]; simp; omega, (Gr.refl _).alloc _⟩

theorem filt_snoc {l : List Od} {k : Nat} {o : Od} (h : l[k]? = some o) (f : Od → Bool) : amt (((l.take (k + 1)).filter mayB).filter f) = amt (((l.take k).filter mayB).filter f) + if mayB o = true ∧ f o = true then o.am else 0 := by
  rw [take_odd h, List.filter_append, List.filter_append, amt_app]
  congr 1
  cases hm : mayB o <;> cases hf : f o <;> simp [hm, hf, amt]
theorem filt_bd (l : List Od) (k : Nat) (f : Od → Bool) (h : l.length ≤ 64) : 0 ≤ amt (((l.take k).filter mayB).filter f) ∧ amt (((l.take k).filter mayB).filter f) ≤ 67108864 := by
  have j : Jd ((l.take k).filter mayB) := ⟨Nat.le_trans (List.length_filter_le _ _) (by simp; omega), fun o ho => (List.mem_filter.1 ho).2⟩
  exact (j.filter f).amt

set_option maxHeartbeats 8000000 in
set_option maxRecDepth 100000 in
theorem refTraded_calls (v : Value) (l : List Od) (x : Int) (w : World) (hl : Ods w v l) (hn : l.length ≤ 64) : Calls Try.prog 48 #[v, .int .i64 x] w fun e w' => e = .returned (.int .i64 (trd (l.filter mayB) x)) ∧ Below w.heap.size w w' := by
  obtain ⟨pp, cap, rfl, hc⟩ := hl
  have HC : Hid _ := hc
  have HT : Hid (trd (l.filter mayB) x = min (amt ((l.filter mayB).filter (bAt x))) (amt ((l.filter mayB).filter (sAt x)))) := rfl
  clear hc
  go_enter Try.func48, Try.ntmps48
  go_wp2
  go_loopw [5, 6, 7] (fun bv sv iv wr => ∃ k : Nat, k ≤ l.length ∧ iv = .int .i64 k ∧ bv = .int .i64 (amt (((l.take k).filter mayB).filter (bAt x))) ∧ sv = .int .i64 (amt (((l.take k).filter mayB).filter (sAt x))) ∧ Below w.heap.size w wr) (fun _ _ iv _ => l.length - (intOf iv).toNat)
  case atStart => exact ⟨0, Nat.zero_le _, rfl, by simp [amt], by simp [amt], Below.refl _ _⟩
  case round =>
    obtain ⟨k, hk, rfl, rfl, rfl, hb⟩ := hrel
    have hz := hb.size
    by_cases hlt : k < l.length
    · have hd : decide ((k : Int) < l.length) = true := by simp only [decide_eq_true_eq]; omega
      have hkl : (k : Int) < (l.length : Int) := by omega
      obtain ⟨o, ho⟩ : ∃ o, l[k]? = some o := ⟨l[k], by simp [hlt]⟩
      rcases HC.out with hnil | ⟨gb, off, hp, hcs⟩
      · exfalso; rw [hnil] at hlt; simp at hlt
      subst hp
      obtain ⟨c0, c1, c2, c3, c4, c5⟩ := Ods.six hcs ho
      have hbl : gb < w.heap.size := World.block_lt_of_cell? w _ c0
      have d0 := (hb.cell (p := ⟨gb, off + k * 6, none⟩) hbl).trans c0
      have d1 := (hb.cell (p := ⟨gb, off + k * 6 + 1, none⟩) hbl).trans c1
      have d2 := (hb.cell (p := ⟨gb, off + k * 6 + 2, none⟩) hbl).trans c2
      have d3 := (hb.cell (p := ⟨gb, off + k * 6 + 3, none⟩) hbl).trans c3
      have d4 := (hb.cell (p := ⟨gb, off + k * 6 + 4, none⟩) hbl).trans c4
      have d5 := (hb.cell (p := ⟨gb, off + k * 6 + 5, none⟩) hbl).trans c5
      have HB : Hid _ := filt_snoc ho (bAt x)
      have HS : Hid _ := filt_snoc ho (sAt x)
      have a1 := filt_bd l k (bAt x) hn
      have a2 := filt_bd l k (sAt x) hn
      have HR : Hid (Calls Try.prog 25 #[.agg #[.int .i64 o.id, .int .i64 o.own, .int .i64 o.pr, .int .i64 o.am, .int .i64 o.pl, .bool o.by]] wr fun e w' => e = .returned (.bool (mayB o)) ∧ Gr wr w') := right_calls o wr
      have HBA : Hid (bAt x o = (o.by && decide (x ≤ o.pr))) := rfl
      have HSA : Hid (sAt x o = (!o.by && decide (o.pr ≤ x))) := rfl
      have HAM : Hid (mayB o = true → 1 ≤ o.am ∧ o.am ≤ 1048576) := fun h => may_am h
      generalize amt (((l.take k).filter mayB).filter (bAt x)) = bk at *
      generalize amt (((l.take k).filter mayB).filter (sAt x)) = sk at *
      generalize hmb : mayB o = M at *
      have HMB : Hid _ := hmb
      clear c0 c1 c2 c3 c4 c5 hcs ho hmb
      cases M
      · rw [if_neg (by simp)] at HB HS
        go_wp2_with fail
        refine Calls.mono HR.out ?_
        rintro e w2 ⟨rfl, g2⟩
        go_wp2
        refine ⟨⟨k + 1, by omega, by norm_cast, by rw [HB.out, Int.add_zero], by rw [HS.out, Int.add_zero], hb.trans (g2.below.mono hz)⟩, by simp [intOf]; omega⟩
      · have ham := HAM.out rfl
        generalize o.pr = x3 at *
        generalize o.am = x4 at *
        generalize hby : o.by = x6 at *
        generalize bAt x o = KB at *
        generalize sAt x o = KS at *
        clear hby
        cases x6
        · by_cases t : x3 ≤ x
          · have tt : decide (x3 ≤ x) = true := decide_eq_true t
            rw [HBA.out, if_neg (by simp)] at HB
            rw [HSA.out, tt, if_pos (by simp)] at HS
            go_wp2_with fail
            refine Calls.mono HR.out ?_
            rintro e w2 ⟨rfl, g2⟩
            have e2 := (g2.below.cell (p := ⟨gb, off + k * 6 + 2, none⟩) (by have := hz; show gb < wr.heap.size; omega)).trans d2
            have e3 := (g2.below.cell (p := ⟨gb, off + k * 6 + 3, none⟩) (by show gb < wr.heap.size; omega)).trans d3
            have e5 := (g2.below.cell (p := ⟨gb, off + k * 6 + 5, none⟩) (by show gb < wr.heap.size; omega)).trans d5
            go_wp2
            refine ⟨⟨k + 1, by omega, by norm_cast, by rw [HB.out, Int.add_zero], by rw [HS.out], hb.trans (g2.below.mono hz)⟩, by simp [intOf]; omega⟩
          · have tt : decide (x3 ≤ x) = false := decide_eq_false t
            rw [HBA.out, if_neg (by simp)] at HB
            rw [HSA.out, tt, if_neg (by simp)] at HS
            go_wp2_with fail
            refine Calls.mono HR.out ?_
            rintro e w2 ⟨rfl, g2⟩
            have e2 := (g2.below.cell (p := ⟨gb, off + k * 6 + 2, none⟩) (by show gb < wr.heap.size; omega)).trans d2
            have e3 := (g2.below.cell (p := ⟨gb, off + k * 6 + 3, none⟩) (by show gb < wr.heap.size; omega)).trans d3
            have e5 := (g2.below.cell (p := ⟨gb, off + k * 6 + 5, none⟩) (by show gb < wr.heap.size; omega)).trans d5
            go_wp2
            refine ⟨⟨k + 1, by omega, by norm_cast, by rw [HB.out, Int.add_zero], by rw [HS.out, Int.add_zero], hb.trans (g2.below.mono hz)⟩, by simp [intOf]; omega⟩
        · by_cases t : x ≤ x3
          · have tt : decide (x ≤ x3) = true := decide_eq_true t
            rw [HBA.out, tt, if_pos (by simp)] at HB
            rw [HSA.out, if_neg (by simp)] at HS
            go_wp2_with fail
            refine Calls.mono HR.out ?_
            rintro e w2 ⟨rfl, g2⟩
            have e2 := (g2.below.cell (p := ⟨gb, off + k * 6 + 2, none⟩) (by show gb < wr.heap.size; omega)).trans d2
            have e3 := (g2.below.cell (p := ⟨gb, off + k * 6 + 3, none⟩) (by show gb < wr.heap.size; omega)).trans d3
            have e5 := (g2.below.cell (p := ⟨gb, off + k * 6 + 5, none⟩) (by show gb < wr.heap.size; omega)).trans d5
            go_wp2
            refine ⟨⟨k + 1, by omega, by norm_cast, by rw [HB.out], by rw [HS.out, Int.add_zero], hb.trans (g2.below.mono hz)⟩, by simp [intOf]; omega⟩
          · have tt : decide (x ≤ x3) = false := decide_eq_false t
            rw [HBA.out, tt, if_neg (by simp)] at HB
            rw [HSA.out, if_neg (by simp)] at HS
            go_wp2_with fail
            refine Calls.mono HR.out ?_
            rintro e w2 ⟨rfl, g2⟩
            have e2 := (g2.below.cell (p := ⟨gb, off + k * 6 + 2, none⟩) (by show gb < wr.heap.size; omega)).trans d2
            have e3 := (g2.below.cell (p := ⟨gb, off + k * 6 + 3, none⟩) (by show gb < wr.heap.size; omega)).trans d3
            have e5 := (g2.below.cell (p := ⟨gb, off + k * 6 + 5, none⟩) (by show gb < wr.heap.size; omega)).trans d5
            go_wp2
            refine ⟨⟨k + 1, by omega, by norm_cast, by rw [HB.out, Int.add_zero], by rw [HS.out, Int.add_zero], hb.trans (g2.below.mono hz)⟩, by simp [intOf]; omega⟩
    · have hd : decide ((k : Int) < l.length) = false := by simp only [decide_eq_false_iff_not]; omega
      have hkl : ¬ (k : Int) < (l.length : Int) := by omega
      have htk : l.take k = l := List.take_of_length_le (by omega)
      rw [htk]
      generalize amt ((l.filter mayB).filter (bAt x)) = bk at *
      generalize amt ((l.filter mayB).filter (sAt x)) = sk at *
      obtain ⟨mn, hmn⟩ : ∃ mn, min bk sk = mn := ⟨_, rfl⟩
      rw [hmn] at HT
      go_wp2
      go_ret
      exact ⟨by rw [HT.out]; rfl, hb⟩
end Go.Proofs.Ytglbfeccdibmiaa
