/- The proof that bytes are: the document's answer. -/
import Derived.Test.YtdaonkgcdheplaaPfN
namespace Go.Proofs.Ytdaonkgcdheplaa
open Go.RowKit
set_option linter.unusedVariables false
set_option linter.unusedSimpArgs false

theorem pfOut {w wr : World} {z0 z1 c0 c1 : Value} (Y : Blk wr w.heap.size #[z0, z1] 33) (hb : Below w.heap.size w wr) : ∃ W, ((wr.setCell ⟨w.heap.size, 0, none⟩ c0).setCell ⟨w.heap.size, 1, none⟩ c1) = W ∧
    Blk W w.heap.size #[c0, c1] 33 ∧ Below w.heap.size w W := by
  refine ⟨_, rfl, ?_, ?_⟩
  · have hy := (Y.set 0 c0).set 1 c1
    simpa using hy
  · exact (hb.setCell (p := ⟨w.heap.size, 0, none⟩) (Nat.le_refl _) _).setCell (p := ⟨w.heap.size, 1, none⟩) (Nat.le_refl _) _

set_option maxRecDepth 100000 in
set_option maxHeartbeats 2000000 in
theorem ofProof_ref (s : ByteArray) (w : World) (hs : s.size ≤ maxLen) :
    Calls Try.prog 16 #[.string s] w (GotPf (ofPfR s) w) := by
  have hnot : ∀ (x : Bool) (w : World), (Op.unary .not (.bool x)).run Try.prog w = .ok (.bool (!x)) w := fun _ _ => rfl
  obtain ⟨i0, hi, hz0, hz1, hz2⟩ := info_parts infoPath
  by_cases hbig : 1048576 < s.size
  · have hfin : Hid (ofPfR s = .error 4) := by show _ = _; unfold ofPfR; rw [if_pos hbig]
    have hd : decide ((1048576 : Int) < (s.size : Int)) = true := by simp only [decide_eq_true_eq]; omega
    unfold maxLen at hs
    go_enter Try.func16, Try.ntmps16
    go_wp2
    refine bodyPost_ret (v := .tuple #[.agg #[.int .i64 0, .slice none 0 0], .int .i64 4]) (by simp [results, Try.results16, go_sem]) rfl ?_
    rw [hfin.out]
    exact ⟨rfl, by go_grown⟩
  have hd : decide ((1048576 : Int) < (s.size : Int)) = false := by simp only [decide_eq_false_iff_not]; omega
  have hint := fun wx => int_ref s 0 wx hs (Nat.zero_le _)
  have HN : Hid _ := hint
  clear hint
  go_enter Try.func16, Try.ntmps16
  go_wp2_with fail
  refine (HN.out _).mono ?_
  cases h1 : rdInt s 0 with
  | error er =>
    have hne : (er != 0) = true := by simpa using rdInt_nz h1
    have hfin : Hid (ofPfR s = .error er) := by show _ = _; unfold ofPfR rdPf; rw [if_neg hbig, h1]
    simp only [got]
    rintro e w1 ⟨rfl, rfl⟩
    clear h1
    go_wp2
    refine bodyPost_ret (v := .tuple #[.agg #[.int .i64 0, .slice none 0 0], .int .i64 er]) (by simp [results, Try.results16, go_sem]) rfl ?_
    rw [hfin.out]
    exact ⟨rfl, by go_grown⟩
  | ok p1 =>
  obtain ⟨n, a1⟩ := p1
  have l1 := rdInt_le h1
  simp only [got]
  rintro e w1 ⟨rfl, rfl⟩
  have hint := fun wx => int_ref s a1 wx hs l1.2.1
  have HM : Hid _ := hint
  clear hint
  go_wp2_with fail
  refine (HM.out _).mono ?_
  have hof : Hid (ofPfR s = match rdPts s a1 with
      | .error e => .error e
      | .ok (l, nx) => if nx < s.size then .error 12 else if pfOk ⟨n, l⟩ = true then .ok ⟨n, l⟩ else .error 14) := by
    show _ = _
    unfold ofPfR rdPf
    rw [if_neg hbig, h1]
    simp only
    cases rdPts s a1 with
    | error e => rfl
    | ok p => rfl
  clear h1
  cases h4 : rdInt s a1 with
  | error er =>
    have hne : (er != 0) = true := by simpa using rdInt_nz h4
    have hfin : Hid (ofPfR s = .error er) := by show _ = _; rw [hof.out]; unfold rdPts rdCnt rdCount; rw [h4]
    simp only [got]
    rintro e w1 ⟨rfl, rfl⟩
    clear h4
    go_wp2
    refine bodyPost_ret (v := .tuple #[.agg #[.int .i64 0, .slice none 0 0], .int .i64 er]) (by simp [results, Try.results16, go_sem]) rfl ?_
    rw [hfin.out]
    exact ⟨rfl, by go_grown⟩
  | ok p4 =>
  obtain ⟨m, a4⟩ := p4
  have l4 := rdInt_le h4
  simp only [got]
  rintro e w1 ⟨rfl, rfl⟩
  by_cases hm : 2 < m
  · have hdm : decide ((2 : Int) < m) = true := by simp only [decide_eq_true_eq]; omega
    have hfin : Hid (ofPfR s = .error 2) := by show _ = _; rw [hof.out]; unfold rdPts rdCnt rdCount; rw [h4]; simp only [hm, if_true]
    clear h4
    go_wp2
    refine bodyPost_ret (v := .tuple #[.agg #[.int .i64 0, .slice none 0 0], .int .i64 2]) (by simp [results, Try.results16, go_sem]) rfl ?_
    rw [hfin.out]
    exact ⟨rfl, by go_grown⟩
  have hdm : decide ((2 : Int) < m) = false := by simp only [decide_eq_false_iff_not]; omega
  have hsd : Hid (rdPts s a1 = rdRep (rdPt s) m a4 []) := by show _ = _; unfold rdPts rdCnt rdCount; rw [h4]; simp only [hm, if_false]
  clear h4
  have X0 := blk_new (w.alloc zProof) (w.heap.size + 1) #[.int .i64 n, .slice none 0 0] 33 (by simp)
  have Y0 := (blk_new w w.heap.size #[.int .i64 0, .slice none 0 0] 33 rfl).alloc (.cells #[.int .i64 n, .slice none 0 0] 33)
  have hB0 : Below w.heap.size w ((w.alloc zProof).alloc (.cells #[.int .i64 n, .slice none 0 0] 33)) := by go_grown
  go_wp2
  go_loopw [5, 9] (fun at' i wr => ∃ (j a5 : Nat) (ps : List (Pt × Value)) (lv : Value), j ≤ m ∧ at' = .int .i64 a5 ∧ i = .int .i64 j ∧ ps.length = j ∧ a5 ≤ s.size ∧ Hid (rdPts s a1 = rdRep (rdPt s) (m - j) a5 (ps.map Prod.fst)) ∧ PtsOwn wr (w.heap.size + 2) lv ps ∧ Blk wr (w.heap.size + 1) #[.int .i64 n, lv] 33 ∧ Blk wr w.heap.size #[.int .i64 0, .slice none 0 0] 33 ∧ Below w.heap.size w wr) (fun _ i _ => m - (intOf i).toNat)
  case atStart => exact ⟨0, a4, [], .slice none 0 0, Nat.zero_le _, rfl, rfl, rfl, l4.2.1, hsd, ⟨World.ownsRow_nil _ _ _ _, fun q hq => by cases hq⟩, X0, Y0, hB0⟩
  case round =>
    obtain ⟨j, a5, ps, lv, hj, rfl, rfl, hlj, ha5, hR, hown, X, Y, hb⟩ := hrel
    have hz := hb.size
    have hxl := X.lt
    clear hsd X0 Y0 hB0
    subst hlj
    obtain ⟨p0, c0, rfl⟩ := own_slice hown.row
    have HO : Hid (PtsOwn wr (w.heap.size + 2) (.slice p0 ps.length c0) ps) := hown
    clear hown
    by_cases hlt : ps.length < m
    · have hd : decide ((ps.length : Int) < m) = true := by simp only [decide_eq_true_eq]; omega
      have hstep : Hid (rdPts s a1 = rdRep (rdPt s) (m - (ps.length + 1) + 1) a5 (ps.map Prod.fst)) := by show _ = _; rw [hR.out, show m - ps.length = (m - (ps.length + 1)) + 1 by omega]
      clear hR
      have ht := path_ref s a5 wr hs ha5
      cases h5 : rdPt s a5 with
      | error er =>
        have hne : (er != 0) = true := by simpa using rdPt_nz ha5 h5
        have hfin : Hid (ofPfR s = .error er) := by show _ = _; rw [hof.out, hstep.out]; simp only [rdRep, h5]
        rw [h5] at ht
        clear h5 hstep
        go_wp2_with fail
        refine ht.mono ?_
        rintro e w2 ⟨rfl, b2⟩
        have Y2 := Y.below b2
        have B2 := hb.trans (b2.mono hz)
        have y0 := Y2.cell (o := 0) rfl
        have y1 := Y2.cell (o := 1) rfl
        have q0 := Y2.frozen (o := 0)
        have q1 := Y2.frozen (o := 1)
        have hlt2 := Y2.lt
        have hnw : ¬ w.heap.size = w2.heap.size := by omega
        go_wp2
        obtain ⟨W, hW, YW, BW⟩ := pfOut (c0 := .int .i64 0) (c1 := .slice none 0 0) Y2 B2
        rw [hW]
        have z0 := (YW.alloc zPath).cell (o := 0) rfl
        have z1 := (YW.alloc zPath).cell (o := 1) rfl
        refine bodyPost_ret (v := .tuple #[.agg #[.int .i64 0, .slice none 0 0], .int .i64 er]) (by simp only [results, Try.results16]; simp [go_sem, z0, z1]) rfl ?_
        rw [hfin.out]
        exact ⟨rfl, BW.alloc BW.size _⟩
      | ok q =>
        obtain ⟨t, a6⟩ := q
        have l5 := rdPt_le h5
        have hfin2 : Hid (rdPts s a1 = rdRep (rdPt s) (m - (ps.length + 1)) a6 (ps.map Prod.fst ++ [t])) := by show _ = _; rw [hstep.out]; simp only [rdRep, h5]
        rw [h5] at ht
        clear h5 hstep
        go_wp2_with fail
        refine ht.mono ?_
        rintro e w2 ⟨sv, rfl, ownT0, b2⟩
        obtain ⟨px, cx, rfl⟩ := own_slice ownT0
        have ownT := ownsRow_weak ownT0 (base' := w.heap.size + 2) (by omega)
        have X2 := (X.below b2).alloc (.cells #[.int .i64 t.idx, .string t.key, .string t.dat, .slice px t.sides.length cx] 74)
        have Y2 := (Y.below b2).alloc (.cells #[.int .i64 t.idx, .string t.key, .string t.dat, .slice px t.sides.length cx] 74)
        have B2 := hb.trans (b2.mono hz)
        have own2 := HO.out.below b2
        have hzb := b2.size
        have X3 := X2.alloc (.cells #[.int .i64 t.idx, .string t.key, .string t.dat, .slice px t.sides.length cx] 74)
        have Y3 := Y2.alloc (.cells #[.int .i64 t.idx, .string t.key, .string t.dat, .slice px t.sides.length cx] 74)
        have B3 := (B2.alloc B2.size (.cells #[.int .i64 t.idx, .string t.key, .string t.dat, .slice px t.sides.length cx] 74)).alloc (by simp; omega) (.cells #[.int .i64 t.idx, .string t.key, .string t.dat, .slice px t.sides.length cx] 74)
        have hsz1 : (w2.alloc (.cells #[.int .i64 t.idx, .string t.key, .string t.dat, .slice px t.sides.length cx] 74)).heap.size = w2.heap.size + 1 := by simp
        have c1 := X2.cell (o := 1) rfl
        have hcc : w2.cell? ⟨w.heap.size + 1, 1, none⟩ = some (.slice p0 ps.length c0) := (X.below b2).cell (o := 1) rfl
        have hx2 := (X.below b2).lt
        have hnw : ¬ w.heap.size + 1 = w2.heap.size := by omega
        unfold Pt.val
        go_wp2_with (at_builtin; refine wpList_append_own _ rfl (.tmp 60) (.tmp 62) 31 rfl (w.heap.size + 2) 74 i0 (.agg #[.int .i64 0, .string ⟨#[]⟩, .string ⟨#[]⟩, .slice none 0 0]) 4 64 Try.underlying31 hi hz0 hz1 hz2 rfl (by decide) _ ps.length (ptCells ps) rfl ((own2.row.alloc _).alloc _) ⟨w2.heap.size + 1, 0, none⟩ 1 1 [.int .i64 t.idx, .string t.key, .string t.dat, .slice px t.sides.length cx] rfl rfl ?c1 ?c2 ?c3 ?c4 ?c5 ?_)
        case c1 =>
          intro j u hj
          rw [Addr.add_lit]
          refine (blk_new (w2.alloc (.cells #[.int .i64 t.idx, .string t.key, .string t.dat, .slice px t.sides.length cx] 74)) (w2.heap.size + 1) _ _ hsz1.symm).cell ?_
          simpa using hj
        case c2 =>
          intro u hu
          simp at hu
          rcases hu with rfl | rfl | rfl | rfl <;> rfl
        case c3 => unfold maxLen; omega
        case c4 => omega
        case c5 => simp; omega
        intro v' w6 hown' hgrow _
        obtain ⟨pv, cv, rfl⟩ := own_slice hown'
        have X6 : Blk w6 (w.heap.size + 1) #[.int .i64 n, .slice p0 ps.length c0] 33 := (hgrow.block (w.heap.size + 1) (by simp; omega) (fun e => by have := (own2.row.lt _ e.symm).1; omega)).trans X3
        have Y6 : Blk w6 w.heap.size #[.int .i64 0, .slice none 0 0] 33 := (hgrow.block w.heap.size (by simp; omega) (fun e => by have := (own2.row.lt _ e.symm).1; omega)).trans Y3
        have B6 : Below w.heap.size w w6 := below_grown B3 hgrow (fun k hk => by have := (own2.row.lt k hk).1; omega) B3.size
        have E6 : ∀ q ∈ ps ++ [(t, Value.slice px t.sides.length cx)], w6.ownsRow (w.heap.size + 2) 9 1 q.2 q.1.sides.length (stCells q.1.sides) := fun q hq => by
          have h5 : w2.ownsRow (w.heap.size + 2) 9 1 q.2 q.1.sides.length (stCells q.1.sides) := by
            rcases List.mem_append.1 hq with h | h
            · exact own2.each q h
            · simp at h; subst h; exact ownT
          refine ((h5.alloc _).alloc _).kept hgrow ?_
          rcases own2.row.2 with ⟨h, _⟩ | ⟨g, cap, cur, h, _⟩
          · rw [h]
            rcases h5.2 with ⟨h', _⟩ | ⟨g', cap', cur', h', _⟩
            · rw [h']; exact Or.inl rfl
            · rw [h']; exact Or.inr (by simp [Value.ownBlock])
          · refine Or.inr (fun e => ?_)
            have e1 : Value.ownBlock (.slice p0 ps.length c0) = some g := by rw [h]; rfl
            rw [e1] at e
            exact own_apart own2.row h5 (by decide) e1 e
        have c6 := X6.cell (o := 1) rfl
        have g6 := X6.frozen (o := 1)
        have HE6 : Hid _ := E6
        clear E6
        go_wp2
        refine ⟨⟨ps.length + 1, a6, ps ++ [(t, .slice px t.sides.length cx)], .slice pv (ps.length + 1) cv, by omega, rfl, by go_num, by simp, l5.2.1, by rw [List.map_append]; exact hfin2, ?_, ?_, ?_, ?_⟩, by simp [intOf]; omega⟩
        · have e : ptCells (ps ++ [(t, Value.slice px t.sides.length cx)]) = ptCells ps ++ [.int .i64 t.idx, .string t.key, .string t.dat, .slice px t.sides.length cx] := by simp [ptCells]
          have el : (ps ++ [(t, Value.slice px t.sides.length cx)]).length = ps.length + 1 := by simp
          have hP : PtsOwn w6 (w.heap.size + 2) (.slice pv (ps.length + 1) cv) (ps ++ [(t, Value.slice px t.sides.length cx)]) := ⟨by rw [e, el]; exact hown', HE6.out⟩
          exact hP.kept (grown_set _ ⟨w.heap.size + 1, 1, none⟩ _) (by simp)
        · have hx := X6.set 1 (.slice pv (ps.length + 1) cv)
          simpa using hx
        · exact Y6.setOther (p := ⟨w.heap.size + 1, 1, none⟩) (by simp) _
        · exact B6.setCell (p := ⟨w.heap.size + 1, 1, none⟩) (by simp) _
    · have hd : decide ((ps.length : Int) < m) = false := by simp only [decide_eq_false_iff_not]; omega
      have hrd : rdPts s a1 = .ok (ps.map Prod.fst, a5) := by rw [hR.out, show m - ps.length = 0 by omega]; rfl
      have hle := rdPts_le hrd
      have hof2 : Hid (ofPfR s = if a5 < s.size then .error 12 else if pfOk ⟨n, ps.map Prod.fst⟩ = true then .ok ⟨n, ps.map Prod.fst⟩ else .error 14) := by show _ = _; rw [hof.out, hrd]
      clear hR hof hrd
      have x0 := X.cell (o := 0) rfl
      have x1 := X.cell (o := 1) rfl
      have y0 := Y.cell (o := 0) rfl
      have y1 := Y.cell (o := 1) rfl
      have q0 := Y.frozen (o := 0)
      have q1 := Y.frozen (o := 1)
      by_cases htail : a5 < s.size
      · have hdt : decide ((a5 : Int) < (s.size : Int)) = true := by simp only [decide_eq_true_eq]; omega
        have hfin : Hid (ofPfR s = .error 12) := by show _ = _; rw [hof2.out, if_pos htail]
        clear hof2
        go_wp2
        obtain ⟨W, hW, YW, BW⟩ := pfOut (c0 := .int .i64 0) (c1 := .slice none 0 0) Y hb
        rw [hW]
        have z0 := YW.cell (o := 0) rfl
        have z1 := YW.cell (o := 1) rfl
        refine bodyPost_ret (v := .tuple #[.agg #[.int .i64 0, .slice none 0 0], .int .i64 12]) (by simp only [results, Try.results16]; simp [go_sem, z0, z1]) rfl ?_
        rw [hfin.out]
        exact ⟨rfl, BW⟩
      · have hdt : decide ((a5 : Int) < (s.size : Int)) = false := by simp only [decide_eq_false_iff_not]; omega
        have hpts := pts_of_own HO.out hle.2.2.2
        have hip := proofFits_ref ⟨n, ps.map Prod.fst⟩ _ wr hpts
        unfold Pf.val at hip
        simp only at hip
        have HA : Hid _ := hip
        clear hip hpts
        cases hok : pfOk ⟨(n : Int), ps.map Prod.fst⟩ with
        | false =>
          have hfin : Hid (ofPfR s = .error 14) := by show _ = _; rw [hof2.out, if_neg htail, hok]; rfl
          rw [hok] at HA
          clear hof2 hok
          go_wp2_with fail
          refine Calls.mono HA.out ?_
          rintro e w2 ⟨rfl, b2⟩
          have Y2 := Y.below b2
          have B2 := hb.trans (b2.mono hz)
          clear x0 x1 y0 y1 q0 q1
          have y0 := Y2.cell (o := 0) rfl
          have y1 := Y2.cell (o := 1) rfl
          have q0 := Y2.frozen (o := 0)
          have q1 := Y2.frozen (o := 1)
          go_wp2
          obtain ⟨W, hW, YW, BW⟩ := pfOut (c0 := .int .i64 0) (c1 := .slice none 0 0) Y2 B2
          rw [hW]
          have z0 := YW.cell (o := 0) rfl
          have z1 := YW.cell (o := 1) rfl
          refine bodyPost_ret (v := .tuple #[.agg #[.int .i64 0, .slice none 0 0], .int .i64 14]) (by simp only [results, Try.results16]; simp [go_sem, z0, z1]) rfl ?_
          rw [hfin.out]
          exact ⟨rfl, BW⟩
        | true =>
          have hfin : Hid (ofPfR s = .ok ⟨n, ps.map Prod.fst⟩) := by show _ = _; rw [hof2.out, if_neg htail, if_pos hok]
          rw [hok] at HA
          clear hof2 hok
          go_wp2_with fail
          refine Calls.mono HA.out ?_
          rintro e w2 ⟨rfl, b2⟩
          have X2 := X.below b2
          have Y2 := Y.below b2
          have B2 := hb.trans (b2.mono hz)
          have own2 := HO.out.below b2
          have HO2 : Hid _ := own2
          clear x0 x1 y0 y1 q0 q1 own2
          have x0 := X2.cell (o := 0) rfl
          have x1 := X2.cell (o := 1) rfl
          have y0 := Y2.cell (o := 0) rfl
          have y1 := Y2.cell (o := 1) rfl
          have q0 := Y2.frozen (o := 0)
          have q1 := Y2.frozen (o := 1)
          go_wp2
          obtain ⟨W, hW, YW, BW⟩ := pfOut (c0 := .int .i64 n) (c1 := .slice p0 ps.length c0) Y2 B2
          have ownW : PtsOwn W (w.heap.size + 2) (.slice p0 ps.length c0) ps := by
            rw [← hW]
            exact (HO2.out.kept (grown_set _ ⟨w.heap.size, 0, none⟩ _) (by simp)).kept (grown_set _ ⟨w.heap.size, 1, none⟩ _) (by simp)
          rw [hW]
          have z0 := YW.cell (o := 0) rfl
          have z1 := YW.cell (o := 1) rfl
          refine bodyPost_ret (v := .tuple #[Pf.val ⟨n, ps.map Prod.fst⟩ (.slice p0 ps.length c0), .int .i64 0]) (by simp only [results, Try.results16]; simp [go_sem, Pf.val, z0, z1]) rfl ?_
          rw [hfin.out]
          exact ⟨_, ps, rfl, rfl, ownW.weak (by omega), BW⟩
end Go.Proofs.Ytdaonkgcdheplaa
