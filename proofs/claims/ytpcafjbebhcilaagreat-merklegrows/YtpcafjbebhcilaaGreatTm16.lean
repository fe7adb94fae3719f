/- Which proofs may be: the program's answer. -/
import Derived.Test.YtpcafjbebhcilaaGreatTm15
import Derived.Test.YtpcafjbebhcilaaGreatTm14
namespace Go.Proofs.YtpcafjbebhcilaaGreat
open Go.RowKit
set_option linter.unusedVariables false
set_option linter.unusedSimpArgs false

def Pt.val (x : Pt) (sv : Value) : Value := .agg #[.int .i64 x.idx, .string x.key, .string x.dat, sv]
def Pf.val (p : Pf) (lv : Value) : Value := .agg #[.int .i64 p.cnt, lv]

/-- A slice of texts: its cells. -/
def Strs (w : World) (v : Value) (l : List ByteArray) : Prop :=
  ((∃ p c, v = .slice p 0 c) ∧ l = []) ∨
  ∃ b off cap, v = .slice (some ⟨b, off, none⟩) l.length cap ∧ ∀ i (h : i < l.length), w.cell? ⟨b, off + i, none⟩ = some (.string l[i]) ∧ l[i].size ≤ maxLen

/-- A slice of paths: its cells. -/
def Pts (w : World) (v : Value) (l : List Pt) : Prop :=
  ((∃ p c, v = .slice p 0 c) ∧ l = []) ∨
  ∃ b off cap, v = .slice (some ⟨b, off, none⟩) l.length cap ∧ ∀ i (h : i < l.length), ∃ sv,
    w.cell? ⟨b, off + i * 4, none⟩ = some (.int .i64 l[i].idx) ∧ w.cell? ⟨b, off + i * 4 + 1, none⟩ = some (.string l[i].key) ∧ w.cell? ⟨b, off + i * 4 + 2, none⟩ = some (.string l[i].dat) ∧ w.cell? ⟨b, off + i * 4 + 3, none⟩ = some sv ∧
    Strs w sv l[i].sides ∧ l[i].key.size ≤ maxLen ∧ l[i].dat.size ≤ maxLen

theorem Strs.below {w w' : World} {v : Value} {l : List ByteArray} (h : Strs w v l) (hb : Below w.heap.size w w') : Strs w' v l := by
  rcases h with h | ⟨b, off, cap, hv, hc⟩
  · exact Or.inl h
  · refine Or.inr ⟨b, off, cap, hv, fun i hi => ?_⟩
    obtain ⟨h1, h4⟩ := hc i hi
    exact ⟨(hb.cell (p := ⟨b, off + i, none⟩) (World.block_lt_of_cell? w _ h1)).trans h1, h4⟩
theorem Strs.len {w : World} {v : Value} {l : List ByteArray} (h : Strs w v l) : ∃ p c, v = .slice p l.length c := by
  rcases h with ⟨⟨p, c, rfl⟩, rfl⟩ | ⟨b, off, cap, rfl, _⟩
  · exact ⟨p, c, rfl⟩
  · exact ⟨_, _, rfl⟩
theorem Pts.below {w w' : World} {v : Value} {l : List Pt} (h : Pts w v l) (hb : Below w.heap.size w w') : Pts w' v l := by
  rcases h with h | ⟨b, off, cap, hv, hc⟩
  · exact Or.inl h
  · refine Or.inr ⟨b, off, cap, hv, fun i hi => ?_⟩
    obtain ⟨sv, h1, h2, h3, h4, h5, h6⟩ := hc i hi
    have hlt := World.block_lt_of_cell? w _ h1
    exact ⟨sv, (hb.cell (p := ⟨b, off + i * 4, none⟩) hlt).trans h1, (hb.cell (p := ⟨b, off + i * 4 + 1, none⟩) hlt).trans h2, (hb.cell (p := ⟨b, off + i * 4 + 2, none⟩) hlt).trans h3, (hb.cell (p := ⟨b, off + i * 4 + 3, none⟩) hlt).trans h4, h5.below hb, h6⟩
theorem Pts.len {w : World} {v : Value} {l : List Pt} (h : Pts w v l) : ∃ p c, v = .slice p l.length c := by
  rcases h with ⟨⟨p, c, rfl⟩, rfl⟩ | ⟨b, off, cap, rfl, _⟩
  · exact ⟨p, c, rfl⟩
  · exact ⟨_, _, rfl⟩

set_option maxRecDepth 100000 in
set_option maxHeartbeats 1000000 in
theorem isPath_calls (x : Pt) (sv : Value) (w : World) (h1 : x.key.size ≤ maxLen) (h2 : x.dat.size ≤ maxLen) (hs : Strs w sv x.sides) :
    Calls Tryz.prog 113 #[x.val sv] w fun e w' => e = .returned (.bool (ptOk x)) ∧ Below w.heap.size w w' := by
  have hnot : ∀ (x : Bool) (w : World), (Op.unary .not (.bool x)).run Tryz.prog w = .ok (.bool (!x)) w := fun _ _ => rfl
  unfold maxLen at h1 h2
  have hw := fun wx => within_calls x.idx 4095 wx
  have HW : Hid _ := hw
  obtain ⟨p, c, rfl⟩ := hs.len
  have HS : Hid _ := hs
  clear hw hs
  unfold Pt.val
  by_cases e0 : 0 ≤ x.idx ∧ x.idx ≤ 4095
  · have d0 : decide (0 ≤ x.idx ∧ x.idx ≤ 4095) = true := by simpa using e0
    rw [d0] at HW
    by_cases e1 : x.key.size ≤ 64
    · have d1 : decide ((64 : Int) < x.key.size) = false := by simp only [decide_eq_false_iff_not]; omega
      by_cases e2 : x.dat.size ≤ 4096
      · have d2 : decide ((4096 : Int) < x.dat.size) = false := by simp only [decide_eq_false_iff_not]; omega
        by_cases e3 : x.sides.length ≤ 13
        · have d3 : decide ((13 : Int) < (x.sides.length : Int)) = false := by simp only [decide_eq_false_iff_not]; omega
          have hfin : Hid (ptOk x = x.sides.all sdOk) := by show _ = _; unfold ptOk; rw [d0, decide_eq_true e1, decide_eq_true e2, decide_eq_true e3]; simp
          go_enter Tryz.func113, Tryz.ntmps113
          go_wp2_with fail
          refine (HW.out _).mono ?_
          rintro e w1 ⟨rfl, rfl⟩
          go_wp2
          go_loopw [28] (fun i wr => ∃ k : Nat, k ≤ x.sides.length ∧ i = .int .i64 k ∧ Hid (ptOk x = (x.sides.drop k).all sdOk) ∧ Below w.heap.size w wr) (fun i _ => x.sides.length - (intOf i).toNat)
          case atStart => exact ⟨0, Nat.zero_le _, rfl, hfin, by go_grown⟩
          case round =>
            obtain ⟨k, hk, rfl, hR, hb⟩ := hrel
            clear hfin
            by_cases hlt : k < x.sides.length
            · have hd : decide ((k : Int) < x.sides.length) = true := by simp only [decide_eq_true_eq]; omega
              rcases HS.out with ⟨_, hn⟩ | ⟨b, off, cap, hv, hc⟩
              · rw [hn] at hlt; simp at hlt
              · simp only [Value.slice.injEq] at hv
                obtain ⟨rfl, _, rfl⟩ := hv
                obtain ⟨c1, z1⟩ := hc k hlt
                have hbl := World.block_lt_of_cell? w _ c1
                have g1 := (hb.cell (p := ⟨b, off + k, none⟩) hbl).trans c1
                have hdr : x.sides.drop k = x.sides[k] :: x.sides.drop (k + 1) := List.drop_eq_getElem_cons hlt
                have hst : Hid (ptOk x = (sdOk x.sides[k] && (x.sides.drop (k + 1)).all sdOk)) := by show _ = _; rw [hR.out, hdr, List.all_cons]
                unfold maxLen at z1
                clear c1 hc hR hdr
                generalize x.sides[k] = t at g1 z1 hst
                by_cases et : t.size ≤ 32
                · have hst2 : Hid (ptOk x = (x.sides.drop (k + 1)).all sdOk) := by show _ = _; rw [hst.out, show sdOk t = true from decide_eq_true et, Bool.true_and]
                  have dt : decide ((32 : Int) < t.size) = false := by simp only [decide_eq_false_iff_not]; omega
                  clear hst
                  go_wp2
                  go_roundw
                  case rel => exact ⟨k + 1, by omega, by go_num, hst2, hb⟩
                  case measure => simp [intOf]; omega
                · have hst2 : Hid (ptOk x = false) := by show _ = _; rw [hst.out, show sdOk t = false from decide_eq_false et, Bool.false_and]
                  have dt : decide ((32 : Int) < t.size) = true := by simp only [decide_eq_true_eq]; omega
                  clear hst
                  go_wp2
                  go_ret
                  exact ⟨by rw [hst2.out]; rfl, hb⟩
            · have hd : decide ((k : Int) < x.sides.length) = false := by simp only [decide_eq_false_iff_not]; omega
              have hfin2 : Hid (ptOk x = true) := by show _ = _; rw [hR.out, List.drop_of_length_le (by omega)]; rfl
              clear hR
              go_wp2
              go_ret
              exact ⟨by rw [hfin2.out]; rfl, hb⟩
        · have d3 : decide ((13 : Int) < (x.sides.length : Int)) = true := by simp only [decide_eq_true_eq]; omega
          have hfin : ptOk x = false := by unfold ptOk; rw [decide_eq_false e3]; simp
          rw [hfin]
          go_enter Tryz.func113, Tryz.ntmps113
          go_wp2_with fail
          refine (HW.out _).mono ?_
          rintro e w1 ⟨rfl, rfl⟩
          go_wp2
          go_ret
          exact ⟨rfl, by go_grown⟩
      · have d2 : decide ((4096 : Int) < x.dat.size) = true := by simp only [decide_eq_true_eq]; omega
        have hfin : ptOk x = false := by unfold ptOk; rw [decide_eq_false e2]; simp
        rw [hfin]
        go_enter Tryz.func113, Tryz.ntmps113
        go_wp2_with fail
        refine (HW.out _).mono ?_
        rintro e w1 ⟨rfl, rfl⟩
        go_wp2
        go_ret
        exact ⟨rfl, by go_grown⟩
    · have d1 : decide ((64 : Int) < x.key.size) = true := by simp only [decide_eq_true_eq]; omega
      have hfin : ptOk x = false := by unfold ptOk; rw [decide_eq_false e1]; simp
      rw [hfin]
      go_enter Tryz.func113, Tryz.ntmps113
      go_wp2_with fail
      refine (HW.out _).mono ?_
      rintro e w1 ⟨rfl, rfl⟩
      go_wp2
      go_ret
      exact ⟨rfl, by go_grown⟩
  · have d0 : decide (0 ≤ x.idx ∧ x.idx ≤ 4095) = false := by simpa using e0
    rw [d0] at HW
    have hfin : ptOk x = false := by unfold ptOk; rw [d0]; simp
    rw [hfin]
    go_enter Tryz.func113, Tryz.ntmps113
    go_wp2_with fail
    refine (HW.out _).mono ?_
    rintro e w1 ⟨rfl, rfl⟩
    go_wp2
    go_ret
    exact ⟨rfl, by go_grown⟩

set_option maxRecDepth 100000 in
set_option maxHeartbeats 1000000 in
theorem isProof_calls (x : Pf) (lv : Value) (w : World) (hs : Pts w lv x.paths) :
    Calls Tryz.prog 98 #[x.val lv] w fun e w' => e = .returned (.bool (pfOk x)) ∧ Below w.heap.size w w' := by
  have hnot : ∀ (x : Bool) (w : World), (Op.unary .not (.bool x)).run Tryz.prog w = .ok (.bool (!x)) w := fun _ _ => rfl
  have hw := fun wx => within_calls x.cnt 4096 wx
  have HW : Hid _ := hw
  obtain ⟨p, c, rfl⟩ := hs.len
  have HS : Hid _ := hs
  clear hw hs
  unfold Pf.val
  by_cases e0 : 0 ≤ x.cnt ∧ x.cnt ≤ 4096
  · have d0 : decide (0 ≤ x.cnt ∧ x.cnt ≤ 4096) = true := by simpa using e0
    rw [d0] at HW
    by_cases e3 : x.paths.length ≤ 2
    · have d3 : decide ((2 : Int) < (x.paths.length : Int)) = false := by simp only [decide_eq_false_iff_not]; omega
      have hfin : Hid (pfOk x = x.paths.all ptOk) := by show _ = _; unfold pfOk; rw [d0, decide_eq_true e3]; simp
      go_enter Tryz.func98, Tryz.ntmps98
      go_wp2_with fail
      refine (HW.out _).mono ?_
      rintro e w1 ⟨rfl, rfl⟩
      go_wp2
      go_loopw [18] (fun i wr => ∃ k : Nat, k ≤ x.paths.length ∧ i = .int .i64 k ∧ Hid (pfOk x = (x.paths.drop k).all ptOk) ∧ Below w.heap.size w wr) (fun i _ => x.paths.length - (intOf i).toNat)
      case atStart => exact ⟨0, Nat.zero_le _, rfl, hfin, by go_grown⟩
      case round =>
        obtain ⟨k, hk, rfl, hR, hb⟩ := hrel
        clear hfin
        by_cases hlt : k < x.paths.length
        · have hd : decide ((k : Int) < x.paths.length) = true := by simp only [decide_eq_true_eq]; omega
          rcases HS.out with ⟨_, hn⟩ | ⟨b, off, cap, hv, hc⟩
          · rw [hn] at hlt; simp at hlt
          · simp only [Value.slice.injEq] at hv
            obtain ⟨rfl, _, rfl⟩ := hv
            obtain ⟨sv, c1, c2, c3, c4, hS, z1, z2⟩ := hc k hlt
            have hbl := World.block_lt_of_cell? w _ c1
            have g1 := (hb.cell (p := ⟨b, off + k * 4, none⟩) hbl).trans c1
            have g2 := (hb.cell (p := ⟨b, off + k * 4 + 1, none⟩) hbl).trans c2
            have g3 := (hb.cell (p := ⟨b, off + k * 4 + 2, none⟩) hbl).trans c3
            have g4 := (hb.cell (p := ⟨b, off + k * 4 + 3, none⟩) hbl).trans c4
            have hdr : x.paths.drop k = x.paths[k] :: x.paths.drop (k + 1) := List.drop_eq_getElem_cons hlt
            have hst : Hid (pfOk x = (ptOk x.paths[k] && (x.paths.drop (k + 1)).all ptOk)) := by show _ = _; rw [hR.out, hdr, List.all_cons]
            have hz := hb.size
            clear c1 c2 c3 c4 hc hR hdr
            generalize x.paths[k] = t at g1 g2 g3 g4 hS z1 z2 hst
            have hB1 := hb.alloc hz (.cells #[.int .i64 t.idx, .string t.key, .string t.dat, sv] 80)
            have hip := isPath_calls t sv _ z1 z2 (hS.below hB1)
            obtain ⟨ps, cs, rfl⟩ := hS.len
            have HI : Hid _ := hip
            clear hS hip
            unfold Pt.val at HI
            cases ht : ptOk t with
            | true =>
              have hst2 : Hid (pfOk x = (x.paths.drop (k + 1)).all ptOk) := by show _ = _; rw [hst.out, ht, Bool.true_and]
              rw [ht] at HI
              clear hst ht
              go_wp2_with fail
              refine (Calls.mono HI.out) ?_
              rintro e w1 ⟨rfl, b1⟩
              have hB2 := hB1.trans (b1.mono hB1.size)
              go_wp2
              go_roundw
              case rel => exact ⟨k + 1, by omega, by go_num, hst2, hB2⟩
              case measure => simp [intOf]; omega
            | false =>
              have hst2 : Hid (pfOk x = false) := by show _ = _; rw [hst.out, ht, Bool.false_and]
              rw [ht] at HI
              clear hst ht
              go_wp2_with fail
              refine (Calls.mono HI.out) ?_
              rintro e w1 ⟨rfl, b1⟩
              have hB2 := hB1.trans (b1.mono hB1.size)
              go_wp2
              go_ret
              exact ⟨by rw [hst2.out]; rfl, hB2⟩
        · have hd : decide ((k : Int) < x.paths.length) = false := by simp only [decide_eq_false_iff_not]; omega
          have hfin2 : Hid (pfOk x = true) := by show _ = _; rw [hR.out, List.drop_of_length_le (by omega)]; rfl
          clear hR
          go_wp2
          go_ret
          exact ⟨by rw [hfin2.out]; rfl, hb⟩
    · have d3 : decide ((2 : Int) < (x.paths.length : Int)) = true := by simp only [decide_eq_true_eq]; omega
      have hfin : pfOk x = false := by unfold pfOk; rw [decide_eq_false e3]; simp
      rw [hfin]
      go_enter Tryz.func98, Tryz.ntmps98
      go_wp2_with fail
      refine (HW.out _).mono ?_
      rintro e w1 ⟨rfl, rfl⟩
      go_wp2
      go_ret
      exact ⟨rfl, by go_grown⟩
  · have d0 : decide (0 ≤ x.cnt ∧ x.cnt ≤ 4096) = false := by simpa using e0
    rw [d0] at HW
    have hfin : pfOk x = false := by unfold pfOk; rw [d0]; simp
    rw [hfin]
    go_enter Tryz.func98, Tryz.ntmps98
    go_wp2_with fail
    refine (HW.out _).mono ?_
    rintro e w1 ⟨rfl, rfl⟩
    go_wp2
    go_ret
    exact ⟨rfl, by go_grown⟩
end Go.Proofs.YtpcafjbebhcilaaGreat
