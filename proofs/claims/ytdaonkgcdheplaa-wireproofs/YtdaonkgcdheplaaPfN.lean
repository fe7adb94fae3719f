/- Reading a path: the document's answer. -/
import Derived.Test.YtdaonkgcdheplaaPfO
import Derived.Test.YtdaonkgcdheplaaPfX
import Derived.Test.YtdaonkgcdheplaaRcM
namespace Go.Proofs.Ytdaonkgcdheplaa
open Go.RowKit
set_option linter.unusedVariables false
set_option linter.unusedSimpArgs false

def GotPt (r : Except Int (Pt × Nat)) (w : World) (e : Ending) (w' : World) : Prop :=
  match r with
  | .ok (x, nx) => ∃ sv, e = .returned (.tuple #[x.val sv, .int .i64 nx, .int .i64 0]) ∧ w'.ownsRow w.heap.size 9 1 sv x.sides.length (stCells x.sides) ∧ Below w.heap.size w w'
  | .error er => e = .returned (.tuple #[.agg #[.int .i64 0, .string ⟨#[]⟩, .string ⟨#[]⟩, .slice none 0 0], .int .i64 0, .int .i64 er]) ∧ Below w.heap.size w w'

theorem ptOut {w wr : World} {z0 z1 z2 z3 c0 c1 c2 c3 : Value} (Y : Blk wr w.heap.size #[z0, z1, z2, z3] 74) (hb : Below w.heap.size w wr) : ∃ W, ((((wr.setCell ⟨w.heap.size, 0, none⟩ c0).setCell ⟨w.heap.size, 1, none⟩ c1).setCell ⟨w.heap.size, 2, none⟩ c2).setCell ⟨w.heap.size, 3, none⟩ c3) = W ∧
    Blk W w.heap.size #[c0, c1, c2, c3] 74 ∧ Below w.heap.size w W := by
  refine ⟨_, rfl, ?_, ?_⟩
  · have hy := (((Y.set 0 c0).set 1 c1).set 2 c2).set 3 c3
    simpa using hy
  · exact (((hb.setCell (p := ⟨w.heap.size, 0, none⟩) (Nat.le_refl _) _).setCell (p := ⟨w.heap.size, 1, none⟩) (Nat.le_refl _) _).setCell (p := ⟨w.heap.size, 2, none⟩) (Nat.le_refl _) _).setCell (p := ⟨w.heap.size, 3, none⟩) (Nat.le_refl _) _

set_option maxRecDepth 100000 in
set_option maxHeartbeats 2000000 in
theorem path_ref (s : ByteArray) (a : Nat) (w : World) (hs : s.size ≤ maxLen) (ha : a ≤ s.size) :
    Calls Try.prog 45 #[.string s, .int .i64 a] w (GotPt (rdPt s a) w) := by
  obtain ⟨i0, hi, hz0, hz1, hz2⟩ := info_parts infoString
  have hint := int_ref s a ((w.alloc zPath).alloc zPath) hs ha
  have hB0 : Below w.heap.size w ((w.alloc zPath).alloc zPath) := by go_grown
  go_enter Try.func45, Try.ntmps45
  go_wp2_with fail
  refine hint.mono ?_
  clear hint
  cases h1 : rdInt s a with
  | error er =>
    have hne : (er != 0) = true := by simpa using rdInt_nz h1
    have hfin : Hid (rdPt s a = .error er) := by show _ = _; unfold rdPt; rw [h1]
    simp only [got]
    rintro e w1 ⟨rfl, rfl⟩
    clear h1
    go_wp2
    refine bodyPost_ret (v := .tuple #[.agg #[.int .i64 0, .string ⟨#[]⟩, .string ⟨#[]⟩, .slice none 0 0], .int .i64 0, .int .i64 er]) (by simp [results, Try.results45, go_sem]) rfl ?_
    unfold GotPt
    rw [hfin.out]
    exact ⟨rfl, hB0⟩
  | ok p1 =>
  obtain ⟨n, a1⟩ := p1
  have l1 := rdInt_le h1
  simp only [got]
  rintro e w1 ⟨rfl, rfl⟩
  have ht := text_ref s a1 ((w.alloc zPath).alloc zPath) hs l1.2.1
  go_wp2_with fail
  refine ht.mono ?_
  clear ht
  cases h2 : rdText s a1 with
  | error er =>
    have hne : (er != 0) = true := by simpa using rdText_nz h2
    have hfin : Hid (rdPt s a = .error er) := by show _ = _; unfold rdPt; rw [h1]; simp only [h2]
    simp only [gotT]
    rintro e w1 ⟨rfl, rfl⟩
    clear h1 h2
    go_wp2
    refine bodyPost_ret (v := .tuple #[.agg #[.int .i64 0, .string ⟨#[]⟩, .string ⟨#[]⟩, .slice none 0 0], .int .i64 0, .int .i64 er]) (by simp [results, Try.results45, go_sem]) rfl ?_
    unfold GotPt
    rw [hfin.out]
    exact ⟨rfl, hB0⟩
  | ok p2 =>
  obtain ⟨k, a2⟩ := p2
  have l2 := rdText_le h2
  simp only [gotT]
  rintro e w1 ⟨rfl, rfl⟩
  have ht := text_ref s a2 ((w.alloc zPath).alloc zPath) hs l2.2.1
  go_wp2_with fail
  refine ht.mono ?_
  clear ht
  cases h3 : rdText s a2 with
  | error er =>
    have hne : (er != 0) = true := by simpa using rdText_nz h3
    have hfin : Hid (rdPt s a = .error er) := by show _ = _; unfold rdPt; rw [h1]; simp only [h2, h3]
    simp only [gotT]
    rintro e w1 ⟨rfl, rfl⟩
    clear h1 h2 h3
    go_wp2
    refine bodyPost_ret (v := .tuple #[.agg #[.int .i64 0, .string ⟨#[]⟩, .string ⟨#[]⟩, .slice none 0 0], .int .i64 0, .int .i64 er]) (by simp [results, Try.results45, go_sem]) rfl ?_
    unfold GotPt
    rw [hfin.out]
    exact ⟨rfl, hB0⟩
  | ok p3 =>
  obtain ⟨d, a3⟩ := p3
  have l3 := rdText_le h3
  simp only [gotT]
  rintro e w1 ⟨rfl, rfl⟩
  have hpt : Hid (rdPt s a = match rdSides s a3 with
      | .error e => .error e
      | .ok (l, a4) => .ok (⟨n, k, d, l⟩, a4)) := by show _ = _; unfold rdPt; rw [h1]; simp only [h2, h3]; rfl
  clear h1 h2 h3
  have hint := int_ref s a3 ((w.alloc zPath).alloc zPath) hs l3.2.1
  go_wp2_with fail
  refine hint.mono ?_
  clear hint
  cases h4 : rdInt s a3 with
  | error er =>
    have hne : (er != 0) = true := by simpa using rdInt_nz h4
    have hfin : Hid (rdPt s a = .error er) := by show _ = _; rw [hpt.out]; unfold rdSides rdCnt rdCount; rw [h4]
    simp only [got]
    rintro e w1 ⟨rfl, rfl⟩
    clear h4
    go_wp2
    refine bodyPost_ret (v := .tuple #[.agg #[.int .i64 0, .string ⟨#[]⟩, .string ⟨#[]⟩, .slice none 0 0], .int .i64 0, .int .i64 er]) (by simp [results, Try.results45, go_sem]) rfl ?_
    unfold GotPt
    rw [hfin.out]
    exact ⟨rfl, hB0⟩
  | ok p4 =>
  obtain ⟨m, a4⟩ := p4
  have l4 := rdInt_le h4
  simp only [got]
  rintro e w1 ⟨rfl, rfl⟩
  by_cases hm : 13 < m
  · have hdm : decide ((13 : Int) < m) = true := by simp only [decide_eq_true_eq]; omega
    have hfin : Hid (rdPt s a = .error 2) := by show _ = _; rw [hpt.out]; unfold rdSides rdCnt rdCount; rw [h4]; simp only [hm, if_true]
    clear h4
    go_wp2
    refine bodyPost_ret (v := .tuple #[.agg #[.int .i64 0, .string ⟨#[]⟩, .string ⟨#[]⟩, .slice none 0 0], .int .i64 0, .int .i64 2]) (by simp [results, Try.results45, go_sem]) rfl ?_
    unfold GotPt
    rw [hfin.out]
    exact ⟨rfl, hB0⟩
  have hdm : decide ((13 : Int) < m) = false := by simp only [decide_eq_false_iff_not]; omega
  have hsd : Hid (rdSides s a3 = rdRep (rdText s) m a4 []) := by show _ = _; unfold rdSides rdCnt rdCount; rw [h4]; simp only [hm, if_false]
  clear h4
  have X0 := blk_new (w.alloc zPath) (w.heap.size + 1) #[.int .i64 0, .string ⟨#[]⟩, .string ⟨#[]⟩, .slice none 0 0] 74 (by simp)
  have Y0 := (blk_new w w.heap.size #[.int .i64 0, .string ⟨#[]⟩, .string ⟨#[]⟩, .slice none 0 0] 74 rfl).alloc zPath
  go_wp2
  go_loopw [1, 13, 14] (fun at' sv i wr => ∃ (j a5 : Nat) (l : List ByteArray), j ≤ m ∧ at' = .int .i64 a5 ∧ i = .int .i64 j ∧ l.length = j ∧ a5 ≤ s.size ∧ Hid (rdSides s a3 = rdRep (rdText s) (m - j) a5 l) ∧ wr.ownsRow (w.heap.size + 2) 9 1 sv j (stCells l) ∧ Blk wr (w.heap.size + 1) #[.int .i64 0, .string ⟨#[]⟩, .string ⟨#[]⟩, .slice none 0 0] 74 ∧ Blk wr w.heap.size #[.int .i64 0, .string ⟨#[]⟩, .string ⟨#[]⟩, .slice none 0 0] 74 ∧ Below w.heap.size w wr) (fun _ _ i _ => m - (intOf i).toNat)
  case atStart => exact ⟨0, a4, [], Nat.zero_le _, rfl, rfl, rfl, l4.2.1, hsd, World.ownsRow_nil _ _ _ _, X0, Y0, hB0⟩
  case round =>
    obtain ⟨j, a5, l, hj, rfl, rfl, hlj, ha5, hR, hown, X, Y, hb⟩ := hrel
    have hz := hb.size
    have hxl := X.lt
    clear hsd X0 Y0 hB0
    have x0 := X.cell (o := 0) rfl
    have x1 := X.cell (o := 1) rfl
    have x2 := X.cell (o := 2) rfl
    have x3 := X.cell (o := 3) rfl
    have y0 := Y.cell (o := 0) rfl
    have y1 := Y.cell (o := 1) rfl
    have y2 := Y.cell (o := 2) rfl
    have y3 := Y.cell (o := 3) rfl
    have q0 := Y.frozen (o := 0)
    have q1 := Y.frozen (o := 1)
    have q2 := Y.frozen (o := 2)
    have q3 := Y.frozen (o := 3)
    by_cases hlt : j < m
    · have hd : decide ((j : Int) < m) = true := by simp only [decide_eq_true_eq]; omega
      have hstep : Hid (rdSides s a3 = rdRep (rdText s) (m - (j + 1) + 1) a5 l) := by show _ = _; rw [hR.out, show m - j = (m - (j + 1)) + 1 by omega]
      clear hR
      have ht := text_ref s a5 wr hs ha5
      cases h5 : rdText s a5 with
      | error er =>
        have hne : (er != 0) = true := by simpa using rdText_nz h5
        have hfin : Hid (rdPt s a = .error er) := by show _ = _; rw [hpt.out, hstep.out]; simp only [rdRep, h5]
        rw [h5] at ht
        simp only [gotT] at ht
        clear h5 hstep
        go_wp2_with fail
        refine ht.mono ?_
        rintro e w2 ⟨rfl, rfl⟩
        go_wp2
        obtain ⟨W, hW, YW, BW⟩ := ptOut (c0 := .int .i64 0) (c1 := .string ⟨#[]⟩) (c2 := .string ⟨#[]⟩) (c3 := .slice none 0 0) Y hb
        rw [hW]
        have z0 := YW.cell (o := 0) rfl
        have z1 := YW.cell (o := 1) rfl
        have z2 := YW.cell (o := 2) rfl
        have z3 := YW.cell (o := 3) rfl
        refine bodyPost_ret (v := .tuple #[.agg #[.int .i64 0, .string ⟨#[]⟩, .string ⟨#[]⟩, .slice none 0 0], .int .i64 0, .int .i64 er]) (by simp [results, Try.results45, go_sem, z0, z1, z2, z3]) rfl ?_
        unfold GotPt
        rw [hfin.out]
        exact ⟨rfl, BW⟩
      | ok q =>
        obtain ⟨t, a6⟩ := q
        have l5 := rdText_le h5
        have hfin2 : Hid (rdSides s a3 = rdRep (rdText s) (m - (j + 1)) a6 (l ++ [t])) := by show _ = _; rw [hstep.out]; simp only [rdRep, h5]
        rw [h5] at ht
        simp only [gotT] at ht
        clear h5 hstep
        have X2 := X.alloc (.cells #[.string t] 9)
        have Y2 := Y.alloc (.cells #[.string t] 9)
        have B2 := hb.alloc hz (.cells #[.string t] 9)
        go_wp2_with fail
        refine ht.mono ?_
        rintro e w2 ⟨rfl, rfl⟩
        clear x0 x1 x2 x3 y0 y1 y2 y3 q0 q1 q2 q3
        go_wp2_with (at_builtin; refine wpList_append_own _ rfl (.tmp 81) (.tmp 83) 72 rfl (w.heap.size + 2) 9 i0 (.string ⟨#[]⟩) 1 16 Try.underlying72 hi hz0 hz1 hz2 rfl (by decide) _ _ _ rfl (hown.alloc _) ⟨w2.heap.size, 0, none⟩ 1 1 [.string t] rfl rfl ?c1 ?c2 ?c3 ?c4 ?c5 ?_)
        case c1 =>
          intro j u hj
          rw [Addr.add_lit]
          refine (blk_new w2 w2.heap.size _ _ rfl).cell ?_
          simpa using hj
        case c2 =>
          intro u hu
          simp at hu
          subst hu; rfl
        case c3 => unfold maxLen; omega
        case c4 => omega
        case c5 => simp; omega
        intro v' w3 hown' hgrow _
        go_wp2
        refine ⟨⟨j + 1, a6, l ++ [t], by omega, rfl, by go_num, by simp; omega, l5.2.1, hfin2, ?_, ?_, ?_, ?_⟩, by simp [intOf]; omega⟩
        · have e : stCells (l ++ [t]) = stCells l ++ [.string t] := by simp [stCells]
          rw [e]; exact hown'
        · exact (hgrow.block (w.heap.size + 1) (by simp; omega) (fun e => by have := (hown.lt _ e.symm).1; omega)).trans X2
        · exact (hgrow.block w.heap.size (by simp; omega) (fun e => by have := (hown.lt _ e.symm).1; omega)).trans Y2
        · exact below_grown B2 hgrow (fun k hk => by have := (hown.lt k hk).1; omega) B2.size
    · have hd : decide ((j : Int) < m) = false := by simp only [decide_eq_false_iff_not]; omega
      have hfin : Hid (rdPt s a = .ok (⟨n, k, d, l⟩, a5)) := by
        show _ = _
        rw [hpt.out, hR.out, show m - j = 0 by omega]; rfl
      clear hR
      subst hlj
      obtain ⟨pv, cv, rfl⟩ := own_slice hown
      go_wp2
      obtain ⟨W, hW, YW, BW⟩ := ptOut (c0 := .int .i64 n) (c1 := .string k) (c2 := .string d) (c3 := .slice pv l.length cv) Y hb
      have ownW : W.ownsRow (w.heap.size + 2) 9 1 (.slice pv l.length cv) l.length (stCells l) := by
        rw [← hW]
        exact ownsRow_setCell_below (ownsRow_setCell_below (ownsRow_setCell_below (ownsRow_setCell_below hown (by simp) _) (by simp) _) (by simp) _) (by simp) _
      rw [hW]
      have z0 := YW.cell (o := 0) rfl
      have z1 := YW.cell (o := 1) rfl
      have z2 := YW.cell (o := 2) rfl
      have z3 := YW.cell (o := 3) rfl
      refine bodyPost_ret (v := .tuple #[Pt.val ⟨n, k, d, l⟩ (.slice pv l.length cv), .int .i64 a5, .int .i64 0]) (by simp [results, Try.results45, go_sem, Pt.val, z0, z1, z2, z3]) rfl ?_
      unfold GotPt
      rw [hfin.out]
      exact ⟨_, rfl, ownsRow_weak ownW (by omega), BW⟩
end Go.Proofs.Ytdaonkgcdheplaa
