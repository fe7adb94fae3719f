/- OfProof: the proof that bytes are. -/
import Derived.Test.YtocphdikppeijaaGreatLy37
import Derived.Test.YtocphdikppeijaaGreatLy19
namespace Go.Proofs.YtocphdikppeijaaGreat
open Go.RowKit
set_option linter.unusedVariables false
set_option linter.unusedSimpArgs false

set_option maxRecDepth 100000 in
set_option maxHeartbeats 1000000 in
theorem ofProof1_panicking (b : Nat) (c0 c1 : Value) (z e0 : Int) (w : World) (X : Blk w b #[c0, c1] 45) (Y : Blk w (b + 1) #[.int .i64 z] 35) :
    CallsD Tryz.prog 62 #[.pointer (some ⟨b, 0, none⟩), .pointer (some ⟨b + 1, 0, none⟩)] (.panicking (gu e0)) w fun e u' w' =>
      e = .returned (.tuple #[]) ∧ u' = .panicking [{ v := .iface 163 (.agg #[.int .i64 e0]), recovered := true }] ∧ Below b w w' ∧
      Blk w' b #[.int .i64 0, .slice none 0 0] 45 ∧ Blk w' (b + 1) #[.int .i64 e0] 35 := by
  refine callsD_of_wpS Tryz.func62 rfl fun c₀ cs hu => ?_
  apply wpS_seq
  apply wpS_region
  simp [wpOpsS, go_sem, recoverD, hu, gu, Tryz.ntmps62, Exit.thenS]
  show Code.wpS Tryz.prog _ _ { tmps := #[Value.pointer (some ⟨b, 0, none⟩), Value.pointer (some ⟨b + 1, 0, none⟩), .iface 163 (.agg #[.int .i64 e0]), .iface 163 (.agg #[.int .i64 e0]), undef, undef, undef, undef, undef], defers := [] } _ _
  refine wpS_of_wp ?_
  go_wp2_with fail
  refine (reason_calls e0 w).mono ?_
  rintro e w1 ⟨rfl, hb1⟩
  have X1 := X.below hb1
  have Y1 := Y.below hb1
  have hlt := X.lt
  have d0 := X1.cell (o := 0) rfl
  have f0 := X1.frozen (o := 0)
  have d1 := X1.cell (o := 1) rfl
  have f1 := X1.frozen (o := 1)
  have y0 := Y1.cell (o := 0) rfl
  have g0 := Y1.frozen (o := 0)
  go_wp2
  refine ⟨rfl, _, rfl, .tuple #[], by simp [results, Tryz.results62], rfl, rfl, ?_, ?_, ?_⟩
  · exact ((((hb1.mono (Nat.le_of_lt hlt)).setCell (p := ⟨b, 0, none⟩) (Nat.le_refl _) _).setCell (p := ⟨b, 1, none⟩) (Nat.le_refl _) _).setCell (p := ⟨b + 1, 0, none⟩) (by simp) _)
  · have hx := (((X1.set 0 (.int .i64 0)).set 1 (.slice none 0 0)).setOther (p := ⟨b + 1, 0, none⟩) (by simp) (.int .i64 e0))
    simpa using hx
  · have hy := (((Y1.setOther (p := ⟨b, 0, none⟩) (by simp) (.int .i64 0)).setOther (p := ⟨b, 1, none⟩) (by simp) (.slice none 0 0)).set 0 (.int .i64 e0))
    simpa using hy

theorem ofProof1_idle (p q : Addr) (w : World) :
    CallsD Tryz.prog 62 #[.pointer (some p), .pointer (some q)] .returning w fun e u' w' => e = .returned (.tuple #[]) ∧ u' = .returning ∧ w' = w := by
  refine callsD_of_wpS Tryz.func62 rfl fun c₀ cs hu => ?_
  apply wpS_seq
  apply wpS_region
  simp [wpOpsS, go_sem, recoverD, hu, Tryz.ntmps62, Exit.thenS]
  show Code.wpS Tryz.prog _ _ { tmps := #[Value.pointer (some p), Value.pointer (some q), .nilIface, .nilIface, undef, undef, undef, undef, undef], defers := [] } _ _
  refine wpS_of_wp ?_
  go_wp2
  cases c₀
  simp_all [bodyPostS, results, Tryz.results62]

/-- What a reading of a proof gives. -/
def GotPf (r : Except Int Pf) (w : World) (e : Ending) (w' : World) : Prop :=
  match r with
  | .ok p => ∃ lv ps, e = .returned (.tuple #[p.val lv, .int .i64 0]) ∧ p.paths = ps.map Prod.fst ∧ PtsOwn w' w.heap.size lv ps ∧ Below w.heap.size w w'
  | .error er => e = .returned (.tuple #[.agg #[.int .i64 0, .slice none 0 0], .int .i64 er]) ∧ Below w.heap.size w w'

theorem pfCaught {w w' : World} {er : Int} {c0 c1 : Value} (hc : c1.cells = #[c1]) (X : Blk w' w.heap.size #[c0, c1] 45) (Y : Blk w' (w.heap.size + 1) #[.int .i64 er] 35) {t : Array Value} (h2 : t.getD 2 undef = .pointer (some ⟨w.heap.size, 0, none⟩)) (h3 : t.getD 3 undef = .pointer (some ⟨w.heap.size + 1, 0, none⟩)) :
    (results Tryz.f31 t).run Tryz.prog w' = .ok (.tuple #[.agg #[c0, c1], .int .i64 er]) w' := by
  have a0 := X.cell (o := 0) rfl
  have a1 := X.cell (o := 1) rfl
  have y0 := Y.cell (o := 0) rfl
  simp only [Array.getD_eq_getD_getElem?] at h2 h3
  simp [results, Tryz.results31, go_sem, h2, h3, a0, a1, y0]

theorem strs_of_own {w : World} {base : Nat} {v : Value} {l : List ByteArray} (h : w.ownsRow base 9 1 v l.length (stCells l)) (hl : ∀ t ∈ l, t.size ≤ maxLen) : Strs w v l := by
  obtain ⟨h1, h2⟩ := id h
  rcases h2 with ⟨rfl, h3⟩ | ⟨g, cap, cur, rfl, h3⟩
  · exact Or.inl ⟨⟨_, _, rfl⟩, List.eq_nil_of_length_eq_zero h3⟩
  · refine Or.inr ⟨g, 0, cap, rfl, fun i hi => ?_⟩
    have c0 : (stCells l)[i]? = some (.string l[i]) := by simp [stCells, hi]
    have d0 := h.cells rfl _ _ c0
    rw [Addr.add_lit] at d0
    exact ⟨d0, hl l[i] (List.getElem_mem hi)⟩

theorem ptCells_at : ∀ (ps : List (Pt × Value)) (i : Nat) (h : i < ps.length), (ptCells ps)[i * 4]? = some (.int .i64 ps[i].1.idx) ∧ (ptCells ps)[i * 4 + 1]? = some (.string ps[i].1.key) ∧ (ptCells ps)[i * 4 + 2]? = some (.string ps[i].1.dat) ∧ (ptCells ps)[i * 4 + 3]? = some ps[i].2 := by
  intro ps
  induction ps with
  | nil => intro i h; simp at h
  | cons q ps ih =>
    intro i h
    have e : ptCells (q :: ps) = .int .i64 q.1.idx :: .string q.1.key :: .string q.1.dat :: q.2 :: ptCells ps := by simp [ptCells]
    rw [e]
    cases i with
    | zero => exact ⟨rfl, rfl, rfl, rfl⟩
    | succ i =>
      have h' : i < ps.length := by simpa using h
      have e1 : (i + 1) * 4 = i * 4 + 4 := by omega
      rw [e1]
      simpa using ih i h'

theorem pts_of_own {w : World} {base : Nat} {v : Value} {ps : List (Pt × Value)} (h : PtsOwn w base v ps) (hl : ∀ x ∈ ps.map Prod.fst, okPt x) : Pts w v (ps.map Prod.fst) := by
  obtain ⟨h1, h2⟩ := id h.row
  rcases h2 with ⟨rfl, h3⟩ | ⟨g, cap, cur, rfl, h3⟩
  · have e := List.eq_nil_of_length_eq_zero h3
    subst e
    exact Or.inl ⟨⟨_, _, rfl⟩, rfl⟩
  · refine Or.inr ⟨g, 0, cap, by rw [List.length_map], fun i hi => ?_⟩
    have hi' : i < ps.length := by simpa using hi
    obtain ⟨c0, c1, c2, c3⟩ := ptCells_at ps i hi'
    have d0 := h.row.cells rfl _ _ c0
    have d1 := h.row.cells rfl _ _ c1
    have d2 := h.row.cells rfl _ _ c2
    have d3 := h.row.cells rfl _ _ c3
    rw [Addr.add_lit] at d0 d1 d2 d3
    have hk := hl ps[i].1 (List.mem_map.2 ⟨ps[i], List.getElem_mem hi', rfl⟩)
    have hs := strs_of_own (h.each ps[i] (List.getElem_mem hi')) (fun t ht => Nat.le_trans (hk.s t ht) (by unfold maxLen; decide))
    simp only [List.getElem_map]
    exact ⟨ps[i].2, d0, d1, d2, d3, hs, Nat.le_trans hk.k (by unfold maxLen; decide), Nat.le_trans hk.v (by unfold maxLen; decide)⟩

set_option maxRecDepth 100000 in
set_option maxHeartbeats 2000000 in
theorem ofProof_calls (s : ByteArray) (w : World) (hs : s.size ≤ maxLen) :
    Calls Tryz.prog 31 #[.string s] w (GotPf (ofPfR s) w) := by
  have hmf : ∀ (fn : Fn) (first cap : Array Value) (w : World), (Instr.makeFunc fn first cap).run Tryz.prog w = .ok (.func fn first cap) w := fun _ _ _ _ => rfl
  have hnot : ∀ (x : Bool) (w : World), (Op.unary .not (.bool x)).run Tryz.prog w = .ok (.bool (!x)) w := fun _ _ => rfl
  have X0 := (blk_new w w.heap.size #[.int .i64 0, .slice none 0 0] 45 rfl).alloc (.cells #[.int .i64 0] 35)
  have Y0 := blk_new (w.alloc zProof) (w.heap.size + 1) #[.int .i64 0] 35 (by simp)
  have B0 : Below w.heap.size w ((w.alloc zProof).alloc (.cells #[.int .i64 0] 35)) := by go_grown
  by_cases hbig : 1048576 < s.size
  · have hfin : Hid (ofPfR s = .error 4) := by show _ = _; unfold ofPfR; rw [if_pos hbig]
    go_enter_defers Tryz.func31, Tryz.ntmps31
    go_wp2_with fail
    refine (readerOf_bad s 1048576 _ (by omega)).mono ?_
    rintro e w1 ⟨rfl, rfl⟩
    refine leaves_cons (f := 62) (args := #[.pointer (some ⟨w.heap.size, 0, none⟩), .pointer (some ⟨w.heap.size + 1, 0, none⟩)]) (by simp) (by simp [go_sem]) ?_
    refine (ofProof1_panicking w.heap.size _ _ 0 4 _ X0 Y0).mono ?_
    rintro e u' w'' ⟨rfl, rfl, hbz, Xz, Yz⟩
    refine ⟨.tuple #[.agg #[.int .i64 0, .slice none 0 0], .int .i64 4], pfCaught rfl Xz Yz rfl rfl, ?_⟩
    rw [hfin.out]
    exact ⟨rfl, (B0).trans hbz⟩
  · go_enter_defers Tryz.func31, Tryz.ntmps31
    go_wp2_with fail
    refine (readerOf_ok s 1048576 _ (by omega)).mono ?_
    rintro e w1 ⟨rfl, rfl⟩
    have R1 := rdr_new s 0 ((w.alloc zProof).alloc (.cells #[.int .i64 0] 35)) 166 (w.heap.size + 2) (by simp)
    have X1 := X0.alloc (.cells #[.string s, .int .i64 0] 166)
    have Y1 := Y0.alloc (.cells #[.string s, .int .i64 0] 166)
    have B1 := B0.alloc (by simp; omega) (.cells #[.string s, .int .i64 0] 166)
    clear X0 Y0 B0
    go_wp2_with fail
    refine (proof_calls (w.heap.size + 2) s 0 _ R1 hs (Nat.zero_le _)).mono ?_
    cases hr : rdPf s 0 with
    | error er =>
      have hfin : Hid (ofPfR s = .error er) := by show _ = _; unfold ofPfR; rw [if_neg hbig, hr]
      rintro e w2 ⟨rfl, ho⟩
      refine leaves_cons (f := 62) (args := #[.pointer (some ⟨w.heap.size, 0, none⟩), .pointer (some ⟨w.heap.size + 1, 0, none⟩)]) (by simp) (by simp [go_sem]) ?_
      refine (ofProof1_panicking w.heap.size _ _ 0 er _ (X1.off ho (by omega)) (Y1.off ho (by omega))).mono ?_
      rintro e u' w'' ⟨rfl, rfl, hbz, Xz, Yz⟩
      refine ⟨.tuple #[.agg #[.int .i64 0, .slice none 0 0], .int .i64 er], pfCaught rfl Xz Yz rfl rfl, ?_⟩
      rw [hfin.out]
      exact ⟨rfl, (ho.below (by omega) B1 (by simp; omega)).trans hbz⟩
    | ok p =>
      obtain ⟨p, nx⟩ := p
      have hle := rdPf_le hr
      rintro e w2 ⟨lv, ps, rfl, hps, hown, ho, R2⟩
      obtain ⟨cnt, paths⟩ := p
      simp only at hps
      subst hps
      obtain ⟨pp, cp, rfl⟩ := own_slice hown.row
      have X2 := X1.off ho (by omega)
      have Y2 := Y1.off ho (by omega)
      have B2 := ho.below (by omega) B1 (by simp; omega)
      have hz2 := ho.size
      simp at hz2
      have d0 := X2.cell (o := 0) rfl
      have f0 := X2.frozen (o := 0)
      have d1 := X2.cell (o := 1) rfl
      have f1 := X2.frozen (o := 1)
      have HO : Hid _ := hown
      clear hown
      unfold Pf.val
      simp only
      go_wp2_with fail
      obtain ⟨W3, hW3, X3, Y3, R3, B3, own3, Z3⟩ : ∃ W3, ((w2.setCell ⟨w.heap.size, 0, none⟩ (.int .i64 cnt)).setCell ⟨w.heap.size, 1, none⟩ (.slice pp ps.length cp)) = W3 ∧ Blk W3 w.heap.size #[.int .i64 cnt, .slice pp ps.length cp] 45 ∧ Blk W3 (w.heap.size + 1) #[.int .i64 0] 35 ∧ Rdr W3 (w.heap.size + 2) s nx ∧ Below w.heap.size w W3 ∧ PtsOwn W3 (w.heap.size + 3) (.slice pp ps.length cp) ps ∧ w.heap.size + 3 ≤ W3.heap.size := by
        refine ⟨_, rfl, ?_, ?_, ?_, ?_, ?_, ?_⟩
        · have hx := (X2.set 0 (.int .i64 cnt)).set 1 (.slice pp ps.length cp)
          simpa using hx
        · exact ((Y2.setOther (p := ⟨w.heap.size, 0, none⟩) (by simp) _).setOther (p := ⟨w.heap.size, 1, none⟩) (by simp) _)
        · exact ((R2.setOther (p := ⟨w.heap.size, 0, none⟩) (by simp) _).setOther (p := ⟨w.heap.size, 1, none⟩) (by simp) _)
        · exact ((B2.setCell (p := ⟨w.heap.size, 0, none⟩) (Nat.le_refl _) _).setCell (p := ⟨w.heap.size, 1, none⟩) (Nat.le_refl _) _)
        · have h3 := HO.out.weak (base' := w.heap.size + 3) (by simp)
          exact (h3.kept (grown_set _ ⟨w.heap.size, 0, none⟩ _) (by simp)).kept (grown_set _ ⟨w.heap.size, 1, none⟩ _) (by simp)
        · simp [World.setCell]; omega
      rw [hW3]
      clear hW3 X2 Y2 R2 B2 X1 Y1 R1 B1 d0 f0 d1 f1 HO
      refine (end_calls (w.heap.size + 2) s nx _ R3).mono ?_
      by_cases htail : nx < s.size
      · have hfin : Hid (ofPfR s = .error 12) := by show _ = _; unfold ofPfR; rw [if_neg hbig, hr]; simp only [htail, if_true]
        rintro e w4 ⟨h4, ho4, R4⟩
        rw [if_pos htail] at h4
        subst h4
        refine leaves_cons (f := 62) (args := #[.pointer (some ⟨w.heap.size, 0, none⟩), .pointer (some ⟨w.heap.size + 1, 0, none⟩)]) (by simp) (by simp [go_sem]) ?_
        refine (ofProof1_panicking w.heap.size _ _ 0 12 _ (X3.off ho4 (by omega)) (Y3.off ho4 (by omega))).mono ?_
        rintro e u' w'' ⟨rfl, rfl, hbz, Xz, Yz⟩
        refine ⟨.tuple #[.agg #[.int .i64 0, .slice none 0 0], .int .i64 12], pfCaught rfl Xz Yz rfl rfl, ?_⟩
        rw [hfin.out]
        exact ⟨rfl, (ho4.below (by omega) B3 (by omega)).trans hbz⟩
      · rintro e w4 ⟨h4, ho4, R4⟩
        rw [if_neg htail] at h4
        subst h4
        have X4 := X3.off ho4 (by omega)
        have Y4 := Y3.off ho4 (by omega)
        have B4 := ho4.below (by omega) B3 (by omega)
        have Z4 := Nat.le_trans Z3 ho4.size
        have own4 := own3.kept ho4.by (by omega)
        have hpts := pts_of_own own4 hle.2.2.l
        have hip := isProof_calls ⟨cnt, ps.map Prod.fst⟩ _ w4 hpts
        unfold Pf.val at hip
        simp only at hip
        have HA : Hid _ := hip
        have HO4 : Hid _ := own4
        clear X3 Y3 B3 R3 R4 hip own3 hpts own4
        have d0 := X4.cell (o := 0) rfl
        have d1 := X4.cell (o := 1) rfl
        cases hok : pfOk ⟨cnt, ps.map Prod.fst⟩ with
        | false =>
          have hfin : Hid (ofPfR s = .error 14) := by show _ = _; unfold ofPfR; rw [if_neg hbig, hr]; simp only [htail, if_false, hok]; rfl
          rw [hok] at HA
          go_wp2_with fail
          refine Calls.mono HA.out ?_
          rintro e w5 ⟨rfl, hb5⟩
          have X5 := X4.below hb5
          have Y5 := Y4.below hb5
          have B5 := B4.trans (hb5.mono (by omega))
          clear d0 d1
          go_wp2_with fail
          refine (giveUp_calls 14 _).mono ?_
          rintro e w6 ⟨rfl, rfl⟩
          refine leaves_cons (f := 62) (args := #[.pointer (some ⟨w.heap.size, 0, none⟩), .pointer (some ⟨w.heap.size + 1, 0, none⟩)]) (by simp) (by simp [go_sem]) ?_
          refine (ofProof1_panicking w.heap.size _ _ 0 14 _ X5 Y5).mono ?_
          rintro e u' w'' ⟨rfl, rfl, hbz, Xz, Yz⟩
          refine ⟨.tuple #[.agg #[.int .i64 0, .slice none 0 0], .int .i64 14], pfCaught rfl Xz Yz rfl rfl, ?_⟩
          rw [hfin.out]
          exact ⟨rfl, (B5).trans hbz⟩
        | true =>
          have hfin : Hid (ofPfR s = .ok ⟨cnt, ps.map Prod.fst⟩) := by show _ = _; unfold ofPfR; rw [if_neg hbig, hr]; simp only [htail, if_false, hok, if_true]
          rw [hok] at HA
          go_wp2_with fail
          refine Calls.mono HA.out ?_
          rintro e w5 ⟨rfl, hb5⟩
          have X5 := X4.below hb5
          have Y5 := Y4.below hb5
          have B5 := B4.trans (hb5.mono (by omega))
          have own5 := HO4.out.below hb5
          have HO5 : Hid _ := own5
          clear d0 d1 own5 HO4
          have d0 := X5.cell (o := 0) rfl
          have f0 := X5.frozen (o := 0)
          have d1 := X5.cell (o := 1) rfl
          have f1 := X5.frozen (o := 1)
          have y0 := Y5.cell (o := 0) rfl
          have g0 := Y5.frozen (o := 0)
          go_wp2
          obtain ⟨W6, hW6, X6, Y6, B6, own6⟩ : ∃ W6, (((w5.setCell ⟨w.heap.size, 0, none⟩ (.int .i64 cnt)).setCell ⟨w.heap.size, 1, none⟩ (.slice pp ps.length cp)).setCell ⟨w.heap.size + 1, 0, none⟩ (.int .i64 0)) = W6 ∧ Blk W6 w.heap.size #[.int .i64 cnt, .slice pp ps.length cp] 45 ∧ Blk W6 (w.heap.size + 1) #[.int .i64 0] 35 ∧ Below w.heap.size w W6 ∧ PtsOwn W6 (w.heap.size + 3) (.slice pp ps.length cp) ps := by
            refine ⟨_, rfl, ?_, ?_, ?_, ?_⟩
            · have hx := ((X5.set 0 (.int .i64 cnt)).set 1 (.slice pp ps.length cp)).setOther (p := ⟨w.heap.size + 1, 0, none⟩) (by simp) (.int .i64 0)
              simpa using hx
            · have hy := ((Y5.setOther (p := ⟨w.heap.size, 0, none⟩) (by simp) (.int .i64 cnt)).setOther (p := ⟨w.heap.size, 1, none⟩) (by simp) (.slice pp ps.length cp)).set 0 (.int .i64 0)
              simpa using hy
            · exact (((B5.setCell (p := ⟨w.heap.size, 0, none⟩) (Nat.le_refl _) _).setCell (p := ⟨w.heap.size, 1, none⟩) (Nat.le_refl _) _).setCell (p := ⟨w.heap.size + 1, 0, none⟩) (by simp) _)
            · exact ((HO5.out.kept (grown_set _ ⟨w.heap.size, 0, none⟩ _) (by simp)).kept (grown_set _ ⟨w.heap.size, 1, none⟩ _) (by simp)).kept (grown_set _ ⟨w.heap.size + 1, 0, none⟩ _) (by simp)
          rw [hW6]
          refine leaves_cons (f := 62) (args := #[.pointer (some ⟨w.heap.size, 0, none⟩), .pointer (some ⟨w.heap.size + 1, 0, none⟩)]) (by simp) (by simp [go_sem]) ?_
          refine (ofProof1_idle _ _ _).mono ?_
          rintro e u' w'' ⟨rfl, rfl, rfl⟩
          refine ⟨.tuple #[.agg #[.int .i64 cnt, .slice pp ps.length cp], .int .i64 0], pfCaught rfl X6 Y6 rfl rfl, ?_⟩
          rw [hfin.out]
          exact ⟨_, ps, rfl, rfl, own6.weak (by omega), B6⟩
end Go.Proofs.YtocphdikppeijaaGreat
