/- Reading a proof. -/
import Derived.Test.YtocphdikppeijaaGreatLy36
namespace Go.Proofs.YtocphdikppeijaaGreat
open Go.RowKit
set_option linter.unusedVariables false
set_option linter.unusedSimpArgs false

def ptCells (ps : List (Pt × Value)) : List Value := ps.flatMap fun q => [.int .i64 q.1.idx, .string q.1.key, .string q.1.dat, q.2]
theorem infoPath : (Tryz.prog.info? 111).map (fun i => (i.zero, i.size, i.bytes)) = some (some (.agg #[.int .i64 0, .string ⟨#[]⟩, .string ⟨#[]⟩, .slice none 0 0]), 4, 64) := by kernel_rfl

/-- A row of paths of one's own, each with its own row of sides. -/
structure PtsOwn (w : World) (base : Nat) (lv : Value) (ps : List (Pt × Value)) : Prop where
  row : w.ownsRow base 111 4 lv ps.length (ptCells ps)
  each : ∀ q ∈ ps, w.ownsRow base 9 1 q.2 q.1.sides.length (stCells q.1.sides)

theorem PtsOwn.kept {w w' : World} {base k : Nat} {lv : Value} {ps : List (Pt × Value)} (h : PtsOwn w base lv ps) (hg : w.grownBy w' (some k)) (hk : k < base) : PtsOwn w' base lv ps :=
  ⟨h.row.kept hg (Or.inr (fun e => by have := (h.row.lt _ e).1; omega)), fun q hq => (h.each q hq).kept hg (Or.inr (fun e => by have := ((h.each q hq).lt _ e).1; omega))⟩
theorem PtsOwn.below {w w' : World} {base : Nat} {lv : Value} {ps : List (Pt × Value)} (h : PtsOwn w base lv ps) (hb : Below w.heap.size w w') : PtsOwn w' base lv ps :=
  ⟨own_below1 h.row hb, fun q hq => own_below1 (h.each q hq) hb⟩
theorem PtsOwn.weak {w : World} {base base' : Nat} {lv : Value} {ps : List (Pt × Value)} (h : PtsOwn w base lv ps) (hb : base' ≤ base) : PtsOwn w base' lv ps :=
  ⟨ownsRow_weak h.row hb, fun q hq => ownsRow_weak (h.each q hq) hb⟩
theorem own_apart {w : World} {base z1 z2 n1 n2 g : Nat} {t1 t2 : TypeId} {v1 v2 : Value} {x1 x2 : List Value} (h1 : w.ownsRow base t1 z1 v1 n1 x1) (h2 : w.ownsRow base t2 z2 v2 n2 x2) (ht : t1 ≠ t2) (e1 : v1.ownBlock = some g) : v2.ownBlock ≠ some g := by
  intro e2
  rcases h1.2 with ⟨rfl, _⟩ | ⟨g1, c1, u1, rfl, _, q1, _⟩
  · simp [Value.ownBlock] at e1
  · rcases h2.2 with ⟨rfl, _⟩ | ⟨g2, c2, u2, rfl, _, q2, _⟩
    · simp [Value.ownBlock] at e2
    · simp [Value.ownBlock] at e1 e2
      subst e1; subst e2
      rw [q1] at q2
      simp at q2
      exact ht q2.2

/-- What reading a proof gives. -/
def ReadsPf (r : Except Int (Pf × Nat)) (b : Nat) (s : ByteArray) (w : World) (e : Ending) (w' : World) : Prop :=
  match r with
  | .ok (p, nx) => ∃ lv ps, e = .returned (p.val lv) ∧ p.paths = ps.map Prod.fst ∧ PtsOwn w' w.heap.size lv ps ∧ Off b w w' ∧ Rdr w' b s nx
  | .error er => e = .panicked (gu er) ∧ Off b w w'

abbrev zProof : Obj := .cells #[.int .i64 0, .slice none 0 0] 45

set_option maxRecDepth 100000 in
set_option maxHeartbeats 2000000 in
theorem proof_calls (b : Nat) (s : ByteArray) (a : Nat) (w : World) (hr : Rdr w b s a) (hs : s.size ≤ maxLen) (ha : a ≤ s.size) :
    Calls Tryz.prog 65 #[.pointer (some ⟨b, 0, none⟩)] w (ReadsPf (rdPf s a) b s w) := by
  obtain ⟨i0, hi, hz0, hz1, hz2⟩ := info_parts infoPath
  have hb := hr.lt
  have hr0 := (hr.alloc zProof).alloc zProof
  have hO0 := ((Off.refl b w).alloc zProof).alloc zProof
  have X0 := blk_new (w.alloc zProof) (w.heap.size + 1) #[.int .i64 0, .slice none 0 0] 45 (by simp)
  have Y0 := (blk_new w w.heap.size #[.int .i64 0, .slice none 0 0] 45 rfl).alloc zProof
  have hn := number_calls b s a _ hr0 hs ha
  go_enter Tryz.func65, Tryz.ntmps65
  go_wp2_with fail
  refine hn.mono ?_
  cases h1 : rdInt s a with
  | error er =>
    have hfin : Hid (rdPf s a = .error er) := by show _ = _; unfold rdPf; rw [h1]
    rintro e w1 ⟨rfl, ho⟩
    exact ⟨rfl, by unfold ReadsPf; rw [hfin.out]; exact ⟨rfl, hO0.trans ho⟩⟩
  | ok p1 =>
  obtain ⟨n, a1⟩ := p1
  have l1 := rdInt_le h1
  rintro e w1 ⟨rfl, ho1, hr1⟩
  have X1 := X0.off ho1 (by omega)
  have Y1 := Y0.off ho1 (by omega)
  have O1 := hO0.trans ho1
  have c0 := X1.cell (o := 0) rfl
  have f0 := X1.frozen (o := 0)
  obtain ⟨W1, hW1, X6, Y6, R6, O6⟩ : ∃ W1, (w1.setCell ⟨w.heap.size + 1, 0, none⟩ (.int .i64 n)) = W1 ∧ Blk W1 (w.heap.size + 1) #[.int .i64 n, .slice none 0 0] 45 ∧ Blk W1 w.heap.size #[.int .i64 0, .slice none 0 0] 45 ∧ Rdr W1 b s a1 ∧ Off b w W1 := by
    refine ⟨_, rfl, ?_, ?_, ?_, ?_⟩
    · have hx := X1.set 0 (.int .i64 n)
      simpa using hx
    · exact Y1.setOther (p := ⟨w.heap.size + 1, 0, none⟩) (by simp) _
    · exact hr1.setOther (p := ⟨w.heap.size + 1, 0, none⟩) (by simp; omega) _
    · exact Off.own O1 (p := ⟨w.heap.size + 1, 0, none⟩) (by simp) _
  have hc := count_calls b s a1 2 W1 R6 hs l1.2.1
  go_wp2_with fail
  refine hc.mono ?_
  clear hW1 c0 f0 X1 Y1 O1 ho1 hr1 X0 Y0 hO0 hr0 hn hc
  have hpt : Hid (rdPf s a = match rdPts s a1 with
      | .error e => .error e
      | .ok (l, a2) => .ok (⟨n, l⟩, a2)) := by show _ = _; unfold rdPf; rw [h1]; rfl
  clear h1
  cases h4 : rdCount s a1 2 with
  | error er =>
    have hfin : Hid (rdPf s a = .error er) := by show _ = _; rw [hpt.out]; unfold rdPts rdCnt; rw [h4]
    rintro e w4 ⟨rfl, ho⟩
    exact ⟨rfl, by unfold ReadsPf; rw [hfin.out]; exact ⟨rfl, O6.trans ho⟩⟩
  | ok p4 =>
  obtain ⟨m, a4⟩ := p4
  have l4 := rdCount_le h4
  have hsd : Hid (rdPts s a1 = rdRep (rdPt s) m a4 []) := by show _ = _; unfold rdPts rdCnt; rw [h4]
  clear h4
  rintro e w4 ⟨rfl, ho4, hr4⟩
  have X7 := X6.off ho4 (by omega)
  have Y7 := Y6.off ho4 (by omega)
  have O7 := O6.trans ho4
  clear X6 Y6 O6 R6 ho4
  go_wp2
  go_loopw [9] (fun i wr => ∃ (j a5 : Nat) (ps : List (Pt × Value)) (lv : Value), j ≤ m ∧ i = .int .i64 j ∧ ps.length = j ∧ a5 ≤ s.size ∧ Hid (rdPts s a1 = rdRep (rdPt s) (m - j) a5 (ps.map Prod.fst)) ∧ PtsOwn wr (w.heap.size + 2) lv ps ∧ Blk wr (w.heap.size + 1) #[.int .i64 n, lv] 45 ∧ Blk wr w.heap.size #[.int .i64 0, .slice none 0 0] 45 ∧ Off b w wr ∧ Rdr wr b s a5) (fun i _ => m - (intOf i).toNat)
  case atStart => exact ⟨0, a4, [], .slice none 0 0, Nat.zero_le _, rfl, rfl, l4.2.1, hsd, ⟨World.ownsRow_nil _ _ _ _, fun q hq => by cases hq⟩, X7, Y7, O7, hr4⟩
  case round =>
    obtain ⟨j, a5, ps, lv, hj, rfl, hlj, ha5, hR, hown, X, Y, ho, hrr⟩ := hrel
    have hz := ho.size
    have hxl := X.lt
    clear hsd X7 Y7 O7 hr4
    have hown0 := hown.row
    rw [hlj] at hown0
    have hown : PtsOwn wr (w.heap.size + 2) lv ps := hown
    by_cases hlt : j < m
    · have hd : decide ((j : Int) < m) = true := by simp only [decide_eq_true_eq]; omega
      have hstep : Hid (rdPts s a1 = rdRep (rdPt s) (m - (j + 1) + 1) a5 (ps.map Prod.fst)) := by show _ = _; rw [hR.out, show m - j = (m - (j + 1)) + 1 by omega]
      clear hR
      have ht := path_calls b s a5 wr.drew hrr.drew hs ha5
      have c3 := X.cell (o := 1) rfl
      have f3 := X.frozen (o := 1)
      cases h5 : rdPt s a5 with
      | error er =>
        have hfin : Hid (rdPf s a = .error er) := by show _ = _; rw [hpt.out, hstep.out]; simp only [rdRep, h5]
        rw [h5] at ht
        clear h5 hstep
        go_wp2_with fail
        refine wp_region_any (by kernel_rfl) ?_
        change wpAny _ _ _ _ _ _ _ (World.drew _)
        refine wpAny_take (i := 0) (v := .pointer (some ⟨w.heap.size + 1, 1, none⟩)) rfl (by kernel_rfl) (by kernel_rfl) (by kernel_rfl) (fun _ _ _ h => h) (Or.inl ⟨by rfl, fun w => by go_simp⟩) ?_
        refine wpAny_take (i := 2) (v := .pointer (some ⟨b, 0, none⟩)) rfl (by kernel_rfl) (by kernel_rfl) (by kernel_rfl) (fun _ _ _ h => h) (Or.inl ⟨by rfl, fun w => by go_simp⟩) ?_
        refine wpAny_ready (rs := [1, 3]) (by kernel_rfl) (by simp) ?_
        refine AllReady.cons rfl (fun K hK => ?_) (AllReady.cons rfl (fun K hK => ?_) AllReady.nil)
        · go_simp
          refine hK _ _ ?_
          clear hK
          refine wpAny_ready (rs := [3]) (by kernel_rfl) (by simp) ?_
          refine AllReady.cons rfl (fun K hK => ?_) AllReady.nil
          go_simp
          refine ht.mono ?_
          rintro e w5 ⟨rfl, ho5⟩
          exact ⟨rfl, by unfold ReadsPf; rw [hfin.out]; exact ⟨rfl, ho.drew.trans ho5⟩⟩
        · go_simp
          refine ht.mono ?_
          rintro e w5 ⟨rfl, ho5⟩
          exact ⟨rfl, by unfold ReadsPf; rw [hfin.out]; exact ⟨rfl, ho.drew.trans ho5⟩⟩
      | ok q =>
        obtain ⟨t, a6⟩ := q
        have l5 := rdPt_le h5
        have hfin2 : Hid (rdPts s a1 = rdRep (rdPt s) (m - (j + 1)) a6 (ps.map Prod.fst ++ [t])) := by show _ = _; rw [hstep.out]; simp only [rdRep, h5]
        rw [h5] at ht
        clear h5 hstep
        go_wp2_with fail
        refine wp_region_any (by kernel_rfl) ?_
        change wpAny _ _ _ _ _ _ _ (World.drew _)
        refine wpAny_take (i := 0) (v := .pointer (some ⟨w.heap.size + 1, 1, none⟩)) rfl (by kernel_rfl) (by kernel_rfl) (by kernel_rfl) (fun _ _ _ h => h) (Or.inl ⟨by rfl, fun w => by go_simp⟩) ?_
        refine wpAny_take (i := 2) (v := .pointer (some ⟨b, 0, none⟩)) rfl (by kernel_rfl) (by kernel_rfl) (by kernel_rfl) (fun _ _ _ h => h) (Or.inl ⟨by rfl, fun w => by go_simp⟩) ?_
        refine wpAny_ready (rs := [1, 3]) (by kernel_rfl) (by simp) ?_
        refine AllReady.cons rfl (fun K hK => ?_) (AllReady.cons rfl (fun K hK => ?_) AllReady.nil)
        · go_simp
          refine hK _ _ ?_
          clear hK
          refine wpAny_ready (rs := [3]) (by kernel_rfl) (by simp) ?_
          refine AllReady.cons rfl (fun K hK => ?_) AllReady.nil
          go_simp
          refine ht.mono ?_
          rintro e w5 ⟨sv, rfl, ownT0, ho5, hr5⟩
          refine hK _ _ ?_
          clear hK
          obtain ⟨px, cx, rfl⟩ := own_slice ownT0
          have ownT := ownsRow_weak ownT0 (base' := w.heap.size + 2) (by show w.heap.size + 2 ≤ wr.heap.size; omega)
          have X5 := X.drew'.off ho5 (by omega)
          have Y5 := Y.drew'.off ho5 (by omega)
          have O5 := ho.drew.trans ho5
          have hz5 := O5.size
          have hx5 := X5.lt
          have own5 : PtsOwn w5 (w.heap.size + 2) lv ps := (hown.below (Below.refl _ _).drew).kept ho5.by (by omega)
          have c5 := X5.cell (o := 1) rfl
          unfold Pt.val
          refine wpAny_ready (rs := [4]) (by kernel_rfl) (by simp) ?_
          refine AllReady.cons rfl (fun K hK => ?_) AllReady.nil
          go_simp
          refine hK _ _ ?_
          clear hK
          refine wpAny_ready (rs := [5]) (by kernel_rfl) (by simp) ?_
          refine AllReady.cons rfl (fun K hK => ?_) AllReady.nil
          refine step_if rfl ?_
          refine wp_append_own _ (.tmp 12) (.tmp 15) 43 rfl (w.heap.size + 2) 111 i0 (.agg #[.int .i64 0, .string ⟨#[]⟩, .string ⟨#[]⟩, .slice none 0 0]) 4 64 Tryz.underlying43 hi hz0 hz1 hz2 rfl (by decide) lv ps.length (ptCells ps) rfl (own5.row.alloc _) ⟨w5.heap.size, 0, none⟩ 1 1 [.int .i64 t.idx, .string t.key, .string t.dat, .slice px t.sides.length cx] rfl rfl ?_ ?_ ?_ ?_ ?_ ?_
          · intro j u hj
            rw [Addr.add_lit]
            refine (blk_new w5 w5.heap.size _ _ rfl).cell ?_
            simpa using hj
          · intro u hu
            simp at hu
            rcases hu with rfl | rfl | rfl | rfl <;> rfl
          · unfold maxLen; omega
          · omega
          · simp; omega
          intro v' w6 hown' hgrow _
          rw [hlj] at hown'
          obtain ⟨pv, cv, rfl⟩ := own_slice hown'
          refine hK _ _ ?_
          clear hK
          have X6 : Blk w6 (w.heap.size + 1) #[.int .i64 n, lv] 45 := (hgrow.block (w.heap.size + 1) (by simp; omega) (fun e => by have := (hown.row.lt _ e.symm).1; omega)).trans (X5.alloc _)
          have Y6 : Blk w6 w.heap.size #[.int .i64 0, .slice none 0 0] 45 := (hgrow.block w.heap.size (by simp; omega) (fun e => by have := (hown.row.lt _ e.symm).1; omega)).trans (Y5.alloc _)
          have R6 : Rdr w6 b s a6 := (hr5.alloc _).grown hgrow (fun e => by have := (hown.row.lt b e.symm).1; omega)
          have O6 : Off b w w6 := (O5.alloc _).grown hgrow (fun k hk => by have := (hown.row.lt k hk).1; omega)
          have E6 : ∀ q ∈ ps ++ [(t, Value.slice px t.sides.length cx)], w6.ownsRow (w.heap.size + 2) 9 1 q.2 q.1.sides.length (stCells q.1.sides) := fun q hq => by
            have h5 : w5.ownsRow (w.heap.size + 2) 9 1 q.2 q.1.sides.length (stCells q.1.sides) := by
              rcases List.mem_append.1 hq with h | h
              · exact own5.each q h
              · simp at h; subst h; exact ownT
            refine (h5.alloc _).kept hgrow ?_
            rcases hown.row.2 with ⟨h, _⟩ | ⟨g, cap, cur, h, _⟩
            · rw [h]
              rcases h5.2 with ⟨h', _⟩ | ⟨g', cap', cur', h', _⟩
              · rw [h']; exact Or.inl rfl
              · rw [h']; exact Or.inr (by simp [Value.ownBlock])
            · refine Or.inr (fun e => ?_)
              have e1 : Value.ownBlock lv = some g := by rw [h]; rfl
              rw [e1] at e
              exact own_apart own5.row h5 (by decide) e1 e
          have c6 := X6.cell (o := 1) rfl
          have g6 := X6.frozen (o := 1)
          refine wpAny_ready (rs := [6]) (by kernel_rfl) (by simp) ?_
          refine AllReady.cons rfl (fun K hK => ?_) AllReady.nil
          go_simp
          refine hK _ _ ?_
          clear hK
          refine wpAny_ready (rs := [7]) (by kernel_rfl) (by simp) ?_
          refine AllReady.cons rfl (fun K hK => ?_) AllReady.nil
          go_simp
          refine hK _ _ ?_
          clear hK
          refine wpAny_done (by kernel_rfl) ?_ _
          go_wp2
          refine ⟨⟨j + 1, a6, ps ++ [(t, .slice px t.sides.length cx)], .slice pv (j + 1) cv, by omega, by go_num, by simp; omega, l5.2.1, by rw [List.map_append]; exact hfin2, ?_, ?_, ?_, ?_, ?_⟩, by simp [intOf]; omega⟩
          · have e : ptCells (ps ++ [(t, Value.slice px t.sides.length cx)]) = ptCells ps ++ [.int .i64 t.idx, .string t.key, .string t.dat, .slice px t.sides.length cx] := by simp [ptCells]
            have el : (ps ++ [(t, Value.slice px t.sides.length cx)]).length = j + 1 := by simp; omega
            have hP : PtsOwn w6 (w.heap.size + 2) (.slice pv (j + 1) cv) (ps ++ [(t, Value.slice px t.sides.length cx)]) := ⟨by rw [e, el]; exact hown', E6⟩
            exact hP.kept (grown_set _ ⟨w.heap.size + 1, 1, none⟩ _) (by simp)
          · have hx := X6.set 1 (.slice pv (j + 1) cv)
            simpa using hx
          · exact Y6.setOther (p := ⟨w.heap.size + 1, 1, none⟩) (by simp) _
          · exact Off.own O6 (p := ⟨w.heap.size + 1, 1, none⟩) (by simp) _
          · exact R6.setOther (p := ⟨w.heap.size + 1, 1, none⟩) (by simp; omega) _
        · go_simp
          refine ht.mono ?_
          rintro e w5 ⟨sv, rfl, ownT0, ho5, hr5⟩
          refine hK _ _ ?_
          clear hK
          obtain ⟨px, cx, rfl⟩ := own_slice ownT0
          have ownT := ownsRow_weak ownT0 (base' := w.heap.size + 2) (by show w.heap.size + 2 ≤ wr.heap.size; omega)
          have X5 := X.drew'.off ho5 (by omega)
          have Y5 := Y.drew'.off ho5 (by omega)
          have O5 := ho.drew.trans ho5
          have hz5 := O5.size
          have hx5 := X5.lt
          have own5 : PtsOwn w5 (w.heap.size + 2) lv ps := (hown.below (Below.refl _ _).drew).kept ho5.by (by omega)
          have c5 := X5.cell (o := 1) rfl
          unfold Pt.val
          refine wpAny_ready (rs := [1, 4]) (by kernel_rfl) (by simp) ?_
          refine AllReady.cons rfl (fun K hK => ?_) (AllReady.cons rfl (fun K hK => ?_) AllReady.nil)
          · go_simp
            refine hK _ _ ?_
            clear hK
            refine wpAny_ready (rs := [4]) (by kernel_rfl) (by simp) ?_
            refine AllReady.cons rfl (fun K hK => ?_) AllReady.nil
            go_simp
            refine hK _ _ ?_
            clear hK
            refine wpAny_ready (rs := [5]) (by kernel_rfl) (by simp) ?_
            refine AllReady.cons rfl (fun K hK => ?_) AllReady.nil
            refine step_if rfl ?_
            refine wp_append_own _ (.tmp 12) (.tmp 15) 43 rfl (w.heap.size + 2) 111 i0 (.agg #[.int .i64 0, .string ⟨#[]⟩, .string ⟨#[]⟩, .slice none 0 0]) 4 64 Tryz.underlying43 hi hz0 hz1 hz2 rfl (by decide) lv ps.length (ptCells ps) rfl (own5.row.alloc _) ⟨w5.heap.size, 0, none⟩ 1 1 [.int .i64 t.idx, .string t.key, .string t.dat, .slice px t.sides.length cx] rfl rfl ?_ ?_ ?_ ?_ ?_ ?_
            · intro j u hj
              rw [Addr.add_lit]
              refine (blk_new w5 w5.heap.size _ _ rfl).cell ?_
              simpa using hj
            · intro u hu
              simp at hu
              rcases hu with rfl | rfl | rfl | rfl <;> rfl
            · unfold maxLen; omega
            · omega
            · simp; omega
            intro v' w6 hown' hgrow _
            rw [hlj] at hown'
            obtain ⟨pv, cv, rfl⟩ := own_slice hown'
            refine hK _ _ ?_
            clear hK
            have X6 : Blk w6 (w.heap.size + 1) #[.int .i64 n, lv] 45 := (hgrow.block (w.heap.size + 1) (by simp; omega) (fun e => by have := (hown.row.lt _ e.symm).1; omega)).trans (X5.alloc _)
            have Y6 : Blk w6 w.heap.size #[.int .i64 0, .slice none 0 0] 45 := (hgrow.block w.heap.size (by simp; omega) (fun e => by have := (hown.row.lt _ e.symm).1; omega)).trans (Y5.alloc _)
            have R6 : Rdr w6 b s a6 := (hr5.alloc _).grown hgrow (fun e => by have := (hown.row.lt b e.symm).1; omega)
            have O6 : Off b w w6 := (O5.alloc _).grown hgrow (fun k hk => by have := (hown.row.lt k hk).1; omega)
            have E6 : ∀ q ∈ ps ++ [(t, Value.slice px t.sides.length cx)], w6.ownsRow (w.heap.size + 2) 9 1 q.2 q.1.sides.length (stCells q.1.sides) := fun q hq => by
              have h5 : w5.ownsRow (w.heap.size + 2) 9 1 q.2 q.1.sides.length (stCells q.1.sides) := by
                rcases List.mem_append.1 hq with h | h
                · exact own5.each q h
                · simp at h; subst h; exact ownT
              refine (h5.alloc _).kept hgrow ?_
              rcases hown.row.2 with ⟨h, _⟩ | ⟨g, cap, cur, h, _⟩
              · rw [h]
                rcases h5.2 with ⟨h', _⟩ | ⟨g', cap', cur', h', _⟩
                · rw [h']; exact Or.inl rfl
                · rw [h']; exact Or.inr (by simp [Value.ownBlock])
              · refine Or.inr (fun e => ?_)
                have e1 : Value.ownBlock lv = some g := by rw [h]; rfl
                rw [e1] at e
                exact own_apart own5.row h5 (by decide) e1 e
            have c6 := X6.cell (o := 1) rfl
            have g6 := X6.frozen (o := 1)
            refine wpAny_ready (rs := [6]) (by kernel_rfl) (by simp) ?_
            refine AllReady.cons rfl (fun K hK => ?_) AllReady.nil
            go_simp
            refine hK _ _ ?_
            clear hK
            refine wpAny_ready (rs := [7]) (by kernel_rfl) (by simp) ?_
            refine AllReady.cons rfl (fun K hK => ?_) AllReady.nil
            go_simp
            refine hK _ _ ?_
            clear hK
            refine wpAny_done (by kernel_rfl) ?_ _
            go_wp2
            refine ⟨⟨j + 1, a6, ps ++ [(t, .slice px t.sides.length cx)], .slice pv (j + 1) cv, by omega, by go_num, by simp; omega, l5.2.1, by rw [List.map_append]; exact hfin2, ?_, ?_, ?_, ?_, ?_⟩, by simp [intOf]; omega⟩
            · have e : ptCells (ps ++ [(t, Value.slice px t.sides.length cx)]) = ptCells ps ++ [.int .i64 t.idx, .string t.key, .string t.dat, .slice px t.sides.length cx] := by simp [ptCells]
              have el : (ps ++ [(t, Value.slice px t.sides.length cx)]).length = j + 1 := by simp; omega
              have hP : PtsOwn w6 (w.heap.size + 2) (.slice pv (j + 1) cv) (ps ++ [(t, Value.slice px t.sides.length cx)]) := ⟨by rw [e, el]; exact hown', E6⟩
              exact hP.kept (grown_set _ ⟨w.heap.size + 1, 1, none⟩ _) (by simp)
            · have hx := X6.set 1 (.slice pv (j + 1) cv)
              simpa using hx
            · exact Y6.setOther (p := ⟨w.heap.size + 1, 1, none⟩) (by simp) _
            · exact Off.own O6 (p := ⟨w.heap.size + 1, 1, none⟩) (by simp) _
            · exact R6.setOther (p := ⟨w.heap.size + 1, 1, none⟩) (by simp; omega) _
          · go_simp
            refine hK _ _ ?_
            clear hK
            have c5' := (X5.alloc (.cells #[.int .i64 t.idx, .string t.key, .string t.dat, .slice px t.sides.length cx] 111)).cell (o := 1) rfl
            refine wpAny_ready (rs := [1]) (by kernel_rfl) (by simp) ?_
            refine AllReady.cons rfl (fun K hK => ?_) AllReady.nil
            go_simp
            refine hK _ _ ?_
            clear hK
            refine wpAny_ready (rs := [5]) (by kernel_rfl) (by simp) ?_
            refine AllReady.cons rfl (fun K hK => ?_) AllReady.nil
            refine step_if rfl ?_
            refine wp_append_own _ (.tmp 12) (.tmp 15) 43 rfl (w.heap.size + 2) 111 i0 (.agg #[.int .i64 0, .string ⟨#[]⟩, .string ⟨#[]⟩, .slice none 0 0]) 4 64 Tryz.underlying43 hi hz0 hz1 hz2 rfl (by decide) lv ps.length (ptCells ps) rfl (own5.row.alloc _) ⟨w5.heap.size, 0, none⟩ 1 1 [.int .i64 t.idx, .string t.key, .string t.dat, .slice px t.sides.length cx] rfl rfl ?_ ?_ ?_ ?_ ?_ ?_
            · intro j u hj
              rw [Addr.add_lit]
              refine (blk_new w5 w5.heap.size _ _ rfl).cell ?_
              simpa using hj
            · intro u hu
              simp at hu
              rcases hu with rfl | rfl | rfl | rfl <;> rfl
            · unfold maxLen; omega
            · omega
            · simp; omega
            intro v' w6 hown' hgrow _
            rw [hlj] at hown'
            obtain ⟨pv, cv, rfl⟩ := own_slice hown'
            refine hK _ _ ?_
            clear hK
            have X6 : Blk w6 (w.heap.size + 1) #[.int .i64 n, lv] 45 := (hgrow.block (w.heap.size + 1) (by simp; omega) (fun e => by have := (hown.row.lt _ e.symm).1; omega)).trans (X5.alloc _)
            have Y6 : Blk w6 w.heap.size #[.int .i64 0, .slice none 0 0] 45 := (hgrow.block w.heap.size (by simp; omega) (fun e => by have := (hown.row.lt _ e.symm).1; omega)).trans (Y5.alloc _)
            have R6 : Rdr w6 b s a6 := (hr5.alloc _).grown hgrow (fun e => by have := (hown.row.lt b e.symm).1; omega)
            have O6 : Off b w w6 := (O5.alloc _).grown hgrow (fun k hk => by have := (hown.row.lt k hk).1; omega)
            have E6 : ∀ q ∈ ps ++ [(t, Value.slice px t.sides.length cx)], w6.ownsRow (w.heap.size + 2) 9 1 q.2 q.1.sides.length (stCells q.1.sides) := fun q hq => by
              have h5 : w5.ownsRow (w.heap.size + 2) 9 1 q.2 q.1.sides.length (stCells q.1.sides) := by
                rcases List.mem_append.1 hq with h | h
                · exact own5.each q h
                · simp at h; subst h; exact ownT
              refine (h5.alloc _).kept hgrow ?_
              rcases hown.row.2 with ⟨h, _⟩ | ⟨g, cap, cur, h, _⟩
              · rw [h]
                rcases h5.2 with ⟨h', _⟩ | ⟨g', cap', cur', h', _⟩
                · rw [h']; exact Or.inl rfl
                · rw [h']; exact Or.inr (by simp [Value.ownBlock])
              · refine Or.inr (fun e => ?_)
                have e1 : Value.ownBlock lv = some g := by rw [h]; rfl
                rw [e1] at e
                exact own_apart own5.row h5 (by decide) e1 e
            have c6 := X6.cell (o := 1) rfl
            have g6 := X6.frozen (o := 1)
            refine wpAny_ready (rs := [6]) (by kernel_rfl) (by simp) ?_
            refine AllReady.cons rfl (fun K hK => ?_) AllReady.nil
            go_simp
            refine hK _ _ ?_
            clear hK
            refine wpAny_ready (rs := [7]) (by kernel_rfl) (by simp) ?_
            refine AllReady.cons rfl (fun K hK => ?_) AllReady.nil
            go_simp
            refine hK _ _ ?_
            clear hK
            refine wpAny_done (by kernel_rfl) ?_ _
            go_wp2
            refine ⟨⟨j + 1, a6, ps ++ [(t, .slice px t.sides.length cx)], .slice pv (j + 1) cv, by omega, by go_num, by simp; omega, l5.2.1, by rw [List.map_append]; exact hfin2, ?_, ?_, ?_, ?_, ?_⟩, by simp [intOf]; omega⟩
            · have e : ptCells (ps ++ [(t, Value.slice px t.sides.length cx)]) = ptCells ps ++ [.int .i64 t.idx, .string t.key, .string t.dat, .slice px t.sides.length cx] := by simp [ptCells]
              have el : (ps ++ [(t, Value.slice px t.sides.length cx)]).length = j + 1 := by simp; omega
              have hP : PtsOwn w6 (w.heap.size + 2) (.slice pv (j + 1) cv) (ps ++ [(t, Value.slice px t.sides.length cx)]) := ⟨by rw [e, el]; exact hown', E6⟩
              exact hP.kept (grown_set _ ⟨w.heap.size + 1, 1, none⟩ _) (by simp)
            · have hx := X6.set 1 (.slice pv (j + 1) cv)
              simpa using hx
            · exact Y6.setOther (p := ⟨w.heap.size + 1, 1, none⟩) (by simp) _
            · exact Off.own O6 (p := ⟨w.heap.size + 1, 1, none⟩) (by simp) _
            · exact R6.setOther (p := ⟨w.heap.size + 1, 1, none⟩) (by simp; omega) _
    · have hd : decide ((j : Int) < m) = false := by simp only [decide_eq_false_iff_not]; omega
      have hfin : Hid (rdPf s a = .ok (⟨n, ps.map Prod.fst⟩, a5)) := by
        show _ = _
        rw [hpt.out, hR.out, show m - j = 0 by omega]; rfl
      clear hR
      subst hlj
      obtain ⟨pv, cv, rfl⟩ := own_slice hown.row
      have x0 := X.cell (o := 0) rfl
      have x1 := X.cell (o := 1) rfl
      have y0 := Y.cell (o := 0) rfl
      have y1 := Y.cell (o := 1) rfl
      have q0 := Y.frozen (o := 0)
      have q1 := Y.frozen (o := 1)
      clear hown0
      have HO : Hid _ := hown
      clear hown
      go_wp2
      obtain ⟨WE, hWE, YE, RE, OE, ownE⟩ : ∃ WE, ((wr.setCell ⟨w.heap.size, 0, none⟩ (.int .i64 n)).setCell ⟨w.heap.size, 1, none⟩ (.slice pv ps.length cv)) = WE ∧
          Blk WE w.heap.size #[.int .i64 n, .slice pv ps.length cv] 45 ∧ Rdr WE b s a5 ∧ Off b w WE ∧ PtsOwn WE (w.heap.size + 2) (.slice pv ps.length cv) ps := by
        refine ⟨_, rfl, ?_, ?_, ?_, ?_⟩
        · have hy := (Y.set 0 (.int .i64 n)).set 1 (.slice pv ps.length cv)
          simpa using hy
        · exact (hrr.setOther (by simp; omega) _).setOther (by simp; omega) _
        · exact Off.own (Off.own ho (by simp) _) (by simp) _
        · exact (HO.out.kept (grown_set _ ⟨w.heap.size, 0, none⟩ _) (by simp)).kept (grown_set _ ⟨w.heap.size, 1, none⟩ _) (by simp)
      rw [hWE]
      have z0 := YE.cell (o := 0) rfl
      have z1 := YE.cell (o := 1) rfl
      refine bodyPost_ret (v := Pf.val ⟨n, ps.map Prod.fst⟩ (.slice pv ps.length cv)) (by simp [results, Tryz.results65, go_sem, Pf.val, z0, z1]) rfl ?_
      unfold ReadsPf
      rw [hfin.out]
      exact ⟨_, ps, rfl, rfl, ownE.weak (by omega), OE, RE⟩
end Go.Proofs.YtocphdikppeijaaGreat
