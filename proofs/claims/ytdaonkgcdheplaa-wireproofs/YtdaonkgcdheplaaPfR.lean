/- Which proofs may be: the document's answer. -/
import Derived.Test.YtdaonkgcdheplaaPfA
namespace Go.Proofs.Ytdaonkgcdheplaa
open Go.RowKit
set_option linter.unusedVariables false
set_option linter.unusedSimpArgs false

set_option maxRecDepth 100000 in
set_option maxHeartbeats 2000000 in
theorem proofFits_ref (x : Pf) (lv : Value) (w : World) (hs : Pts w lv x.paths) :
    Calls Try.prog 41 #[x.val lv] w fun e w' => e = .returned (.bool (pfOk x)) ∧ Below w.heap.size w w' := by
  obtain ⟨p, c, rfl⟩ := hs.len
  have HS : Hid _ := hs
  clear hs
  unfold Pf.val
  by_cases e0 : 0 ≤ x.cnt
  · have g0 : decide (x.cnt < 0) = false := by simp only [decide_eq_false_iff_not]; omega
    by_cases e1 : x.cnt ≤ 4096
    · have g1 : decide (4096 < x.cnt) = false := by simp only [decide_eq_false_iff_not]; omega
      by_cases e3 : x.paths.length ≤ 2
      · have dp : decide ((2 : Int) < (x.paths.length : Int)) = false := by simp only [decide_eq_false_iff_not]; omega
        have hfin : Hid (pfOk x = x.paths.all ptOk) := by show _ = _; unfold pfOk; rw [decide_eq_true (show 0 ≤ x.cnt ∧ x.cnt ≤ 4096 from ⟨e0, e1⟩), decide_eq_true e3]; simp
        have X0 := blk_new w w.heap.size #[.int .i64 x.cnt, .slice p x.paths.length c] 33 rfl
        go_enter Try.func41, Try.ntmps41
        go_wp2
        go_loopw [3] (fun i wr => ∃ k : Nat, k ≤ x.paths.length ∧ i = .int .i64 k ∧ Hid (pfOk x = (x.paths.drop k).all ptOk) ∧ Below w.heap.size w wr ∧ Blk wr w.heap.size #[.int .i64 x.cnt, .slice p x.paths.length c] 33) (fun i _ => x.paths.length - (intOf i).toNat)
        case atStart => exact ⟨0, Nat.zero_le _, rfl, hfin, by go_grown, X0⟩
        case round =>
          obtain ⟨k, hk, rfl, hR, hb, X1⟩ := hrel
          clear hfin X0
          have q0 := X1.cell (o := 0) rfl
          have q1 := X1.cell (o := 1) rfl
          by_cases hlt : k < x.paths.length
          · have hd : decide ((k : Int) < x.paths.length) = true := by simp only [decide_eq_true_eq]; omega
            rcases HS.out with ⟨_, hn⟩ | ⟨b, off, cap, hv, hc⟩
            · rw [hn] at hlt; simp at hlt
            · simp only [Value.slice.injEq] at hv
              obtain ⟨rfl, _, rfl⟩ := hv
              obtain ⟨sv, c1, c2, c3, c4, hS, z1, z2⟩ := hc k hlt
              have hbl := World.block_lt_of_cell? w _ c1
              have g1 := (hb.cell (p := ⟨b, off + k * 4, none⟩) hbl).trans c1
              have g2 := (hb.cell (p := ⟨b, off + k * 4 + 1, none⟩) hbl).trans c2
              have g3 := (hb.cell (p := ⟨b, off + k * 4 + 2, none⟩) hbl).trans c3
              have g4 := (hb.cell (p := ⟨b, off + k * 4 + 3, none⟩) hbl).trans c4
              have hdr : x.paths.drop k = x.paths[k] :: x.paths.drop (k + 1) := List.drop_eq_getElem_cons hlt
              have hst : Hid (pfOk x = (ptOk x.paths[k] && (x.paths.drop (k + 1)).all ptOk)) := by show _ = _; rw [hR.out, hdr, List.all_cons]
              have hz := hb.size
              clear c1 c2 c3 c4 hc hR hdr
              generalize x.paths[k] = t at g1 g2 g3 g4 hS z1 z2 hst
              have hB1 := hb.alloc hz (.cells #[.int .i64 t.idx, .string t.key, .string t.dat, sv] 74)
              have X2 := X1.alloc (.cells #[.int .i64 t.idx, .string t.key, .string t.dat, sv] 74)
              have T2 := blk_new wr wr.heap.size #[.int .i64 t.idx, .string t.key, .string t.dat, sv] 74 rfl
              have hS2 := hS.below hB1
              obtain ⟨ps, cs, rfl⟩ := hS.len
              unfold maxLen at z1 z2
              clear hS
              by_cases f0 : 0 ≤ t.idx
              · have d0 : decide (t.idx < 0) = false := by simp only [decide_eq_false_iff_not]; omega
                by_cases f1 : t.idx ≤ 4095
                · have d1 : decide (4095 < t.idx) = false := by simp only [decide_eq_false_iff_not]; omega
                  by_cases f2 : t.key.size ≤ 64
                  · have d2 : decide ((64 : Int) < t.key.size) = false := by simp only [decide_eq_false_iff_not]; omega
                    by_cases f3 : t.dat.size ≤ 4096
                    · have d3 : decide ((4096 : Int) < t.dat.size) = false := by simp only [decide_eq_false_iff_not]; omega
                      by_cases f4 : t.sides.length ≤ 13
                      · have d4 : decide ((13 : Int) < (t.sides.length : Int)) = false := by simp only [decide_eq_false_iff_not]; omega
                        have hpt : Hid (pfOk x = (t.sides.all sdOk && (x.paths.drop (k + 1)).all ptOk)) := by
                          show _ = _; rw [hst.out]; unfold ptOk; rw [decide_eq_true (show 0 ≤ t.idx ∧ t.idx ≤ 4095 from ⟨f0, f1⟩), decide_eq_true f2, decide_eq_true f3, decide_eq_true f4]; simp
                        clear hst
                        have HS2 : Hid _ := hS2
                        clear hS2
                        go_wp2
                        have t3 := T2.cell (o := 3) rfl
                        go_loop [5] (fun i => ∃ j : Nat, j ≤ t.sides.length ∧ i = .int .i64 j ∧ Hid (pfOk x = ((t.sides.drop j).all sdOk && (x.paths.drop (k + 1)).all ptOk))) (fun i => t.sides.length - (intOf i).toNat)
                        case atStart => exact ⟨0, Nat.zero_le _, rfl, hpt⟩
                        case round =>
                          obtain ⟨j, hj, rfl, hQ⟩ := hrel
                          clear hpt
                          by_cases hjl : j < t.sides.length
                          · have hdj : decide ((j : Int) < t.sides.length) = true := by simp only [decide_eq_true_eq]; omega
                            rcases HS2.out with ⟨_, hn⟩ | ⟨b', off', cap', hv', hc'⟩
                            · rw [hn] at hjl; simp at hjl
                            · simp only [Value.slice.injEq] at hv'
                              obtain ⟨rfl, _, rfl⟩ := hv'
                              obtain ⟨y1, zz⟩ := hc' j hjl
                              have hdr : t.sides.drop j = t.sides[j] :: t.sides.drop (j + 1) := List.drop_eq_getElem_cons hjl
                              have hst : Hid (pfOk x = (sdOk t.sides[j] && ((t.sides.drop (j + 1)).all sdOk && (x.paths.drop (k + 1)).all ptOk))) := by show _ = _; rw [hQ.out, hdr, List.all_cons, Bool.and_assoc]
                              unfold maxLen at zz
                              clear hc' hQ hdr
                              generalize t.sides[j] = r at y1 zz hst
                              by_cases et : r.size ≤ 32
                              · have hst2 : Hid (pfOk x = ((t.sides.drop (j + 1)).all sdOk && (x.paths.drop (k + 1)).all ptOk)) := by show _ = _; rw [hst.out, show sdOk r = true from decide_eq_true et, Bool.true_and]
                                have dt : decide ((32 : Int) < r.size) = false := by simp only [decide_eq_false_iff_not]; omega
                                clear hst
                                go_wp2
                                go_round
                                case rel => exact ⟨j + 1, by omega, by go_num, hst2⟩
                                case measure => simp [intOf]; omega
                              · have hst2 : Hid (pfOk x = false) := by show _ = _; rw [hst.out, show sdOk r = false from decide_eq_false et, Bool.false_and]
                                have dt : decide ((32 : Int) < r.size) = true := by simp only [decide_eq_true_eq]; omega
                                clear hst
                                go_wp2
                                go_ret
                                exact ⟨by rw [hst2.out]; rfl, hB1⟩
                          · have hdj : decide ((j : Int) < t.sides.length) = false := by simp only [decide_eq_false_iff_not]; omega
                            have hQ2 : Hid (pfOk x = (x.paths.drop (k + 1)).all ptOk) := by show _ = _; rw [hQ.out, List.drop_of_length_le (by omega)]; rfl
                            clear hQ
                            go_wp2
                            go_roundw
                            case rel => exact ⟨k + 1, by omega, by go_num, hQ2, hB1, X2⟩
                            case measure => simp [intOf]; omega
                      · have d4 : decide ((13 : Int) < (t.sides.length : Int)) = true := by simp only [decide_eq_true_eq]; omega
                        have hst2 : Hid (pfOk x = false) := by show _ = _; rw [hst.out]; unfold ptOk; rw [decide_eq_false f4]; simp
                        clear hst hS2
                        go_wp2
                        go_ret
                        exact ⟨by rw [hst2.out]; rfl, hB1⟩
                    · have d3 : decide ((4096 : Int) < t.dat.size) = true := by simp only [decide_eq_true_eq]; omega
                      have hst2 : Hid (pfOk x = false) := by show _ = _; rw [hst.out]; unfold ptOk; rw [decide_eq_false f3]; simp
                      clear hst hS2
                      go_wp2
                      go_ret
                      exact ⟨by rw [hst2.out]; rfl, hB1⟩
                  · have d2 : decide ((64 : Int) < t.key.size) = true := by simp only [decide_eq_true_eq]; omega
                    have hst2 : Hid (pfOk x = false) := by show _ = _; rw [hst.out]; unfold ptOk; rw [decide_eq_false f2]; simp
                    clear hst hS2
                    go_wp2
                    go_ret
                    exact ⟨by rw [hst2.out]; rfl, hB1⟩
                · have d1 : decide (4095 < t.idx) = true := by simp only [decide_eq_true_eq]; omega
                  have hst2 : Hid (pfOk x = false) := by show _ = _; rw [hst.out]; unfold ptOk; rw [decide_eq_false (show ¬ (0 ≤ t.idx ∧ t.idx ≤ 4095) by omega)]; simp
                  clear hst hS2
                  go_wp2
                  go_ret
                  exact ⟨by rw [hst2.out]; rfl, hB1⟩
              · have d0 : decide (t.idx < 0) = true := by simp only [decide_eq_true_eq]; omega
                have hst2 : Hid (pfOk x = false) := by show _ = _; rw [hst.out]; unfold ptOk; rw [decide_eq_false (show ¬ (0 ≤ t.idx ∧ t.idx ≤ 4095) by omega)]; simp
                clear hst hS2
                go_wp2
                go_ret
                exact ⟨by rw [hst2.out]; rfl, hB1⟩
          · have hd : decide ((k : Int) < x.paths.length) = false := by simp only [decide_eq_false_iff_not]; omega
            have hfin2 : Hid (pfOk x = true) := by show _ = _; rw [hR.out, List.drop_of_length_le (by omega)]; rfl
            clear hR
            go_wp2
            go_ret
            exact ⟨by rw [hfin2.out]; rfl, hb⟩
      · have dp : decide ((2 : Int) < (x.paths.length : Int)) = true := by simp only [decide_eq_true_eq]; omega
        have hfin : pfOk x = false := by unfold pfOk; rw [decide_eq_false e3]; simp
        rw [hfin]
        go_enter Try.func41, Try.ntmps41
        go_wp2
        go_ret
        exact ⟨rfl, by go_grown⟩
    · have g1 : decide (4096 < x.cnt) = true := by simp only [decide_eq_true_eq]; omega
      have hfin : pfOk x = false := by unfold pfOk; rw [decide_eq_false (show ¬ (0 ≤ x.cnt ∧ x.cnt ≤ 4096) by omega)]; simp
      rw [hfin]
      go_enter Try.func41, Try.ntmps41
      go_wp2
      go_ret
      exact ⟨rfl, by go_grown⟩
  · have g0 : decide (x.cnt < 0) = true := by simp only [decide_eq_true_eq]; omega
    have hfin : pfOk x = false := by unfold pfOk; rw [decide_eq_false (show ¬ (0 ≤ x.cnt ∧ x.cnt ≤ 4096) by omega)]; simp
    rw [hfin]
    go_enter Try.func41, Try.ntmps41
    go_wp2
    go_ret
    exact ⟨rfl, by go_grown⟩
end Go.Proofs.Ytdaonkgcdheplaa
