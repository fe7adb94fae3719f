/- OfRecords: the records that bytes are. -/
import Derived.Test.YtdaonkgcdheplaaRcL
import Derived.Test.YtdaonkgcdheplaaRcW
namespace Go.Proofs.Ytdaonkgcdheplaa
open Go.RowKit
set_option linter.unusedVariables false
set_option linter.unusedSimpArgs false

set_option maxRecDepth 100000 in
set_option maxHeartbeats 1000000 in
theorem ofRecords1_panicking (b : Nat) (c0 : Value) (z e0 : Int) (w : World) (X : Blk w b #[c0] 22) (Y : Blk w (b + 1) #[.int .i64 z] 23) :
    CallsD Try.prog 29 #[.pointer (some ⟨b, 0, none⟩), .pointer (some ⟨b + 1, 0, none⟩)] (.panicking (gu e0)) w fun e u' w' =>
      e = .returned (.tuple #[]) ∧ u' = .panicking [{ v := .iface 89 (.agg #[.int .i64 e0]), recovered := true }] ∧ Below b w w' ∧
      Blk w' b #[.slice none 0 0] 22 ∧ Blk w' (b + 1) #[.int .i64 e0] 23 := by
  refine callsD_of_wpS Try.func29 rfl fun c₀ cs hu => ?_
  apply wpS_seq
  apply wpS_region
  simp [wpOpsS, go_sem, recoverD, hu, gu, Try.ntmps29, Exit.thenS]
  show Code.wpS Try.prog _ _ { tmps := #[Value.pointer (some ⟨b, 0, none⟩), Value.pointer (some ⟨b + 1, 0, none⟩), .iface 89 (.agg #[.int .i64 e0]), .iface 89 (.agg #[.int .i64 e0]), undef, undef, undef, undef], defers := [] } _ _
  refine wpS_of_wp ?_
  go_wp2_with fail
  refine (reason_calls e0 w).mono ?_
  rintro e w1 ⟨rfl, hb1⟩
  have X1 := X.below hb1
  have Y1 := Y.below hb1
  have hlt := X.lt
  have d0 := X1.cell (o := 0) rfl
  have f0 := X1.frozen (o := 0)
  have y0 := Y1.cell (o := 0) rfl
  have g0 := Y1.frozen (o := 0)
  go_wp2
  refine ⟨rfl, _, rfl, .tuple #[], by simp [results, Try.results29], rfl, rfl, ?_, ?_, ?_⟩
  · exact (((hb1.mono (Nat.le_of_lt hlt)).setCell (p := ⟨b, 0, none⟩) (Nat.le_refl _) _).setCell (p := ⟨b + 1, 0, none⟩) (by simp) _)
  · have hx := ((X1.set 0 (.slice none 0 0)).setOther (p := ⟨b + 1, 0, none⟩) (by simp) (.int .i64 e0))
    simpa using hx
  · have hy := ((Y1.setOther (p := ⟨b, 0, none⟩) (by simp) (.slice none 0 0)).set 0 (.int .i64 e0))
    simpa using hy

theorem ofRecords1_idle (p q : Addr) (w : World) :
    CallsD Try.prog 29 #[.pointer (some p), .pointer (some q)] .returning w fun e u' w' => e = .returned (.tuple #[]) ∧ u' = .returning ∧ w' = w := by
  refine callsD_of_wpS Try.func29 rfl fun c₀ cs hu => ?_
  apply wpS_seq
  apply wpS_region
  simp [wpOpsS, go_sem, recoverD, hu, Try.ntmps29, Exit.thenS]
  show Code.wpS Try.prog _ _ { tmps := #[Value.pointer (some p), Value.pointer (some q), .nilIface, .nilIface, undef, undef, undef, undef], defers := [] } _ _
  refine wpS_of_wp ?_
  go_wp2
  cases c₀
  simp_all [bodyPostS, results, Try.results29]

/-- What OfRecords reads. -/
def ofRcR (s : ByteArray) : Except Int (List Rc) :=
  if 1048576 < s.size then .error 4
  else match rdRcs s 0 4096 with
    | .error e => .error e
    | .ok (l, nx) => if nx < s.size then .error 12 else if riseR l = 0 then .ok l else .error (riseR l)

/-- What a reading of records gives. -/
def GotRc (r : Except Int (List Rc)) (w : World) (e : Ending) (w' : World) : Prop :=
  match r with
  | .ok l => ∃ lv, e = .returned (.tuple #[lv, .int .i64 0]) ∧ w'.ownsRow w.heap.size 51 2 lv l.length (rcCells l) ∧ Below w.heap.size w w'
  | .error er => e = .returned (.tuple #[.slice none 0 0, .int .i64 er]) ∧ Below w.heap.size w w'

theorem rcCaught {w w' : World} {er : Int} {c0 : Value} (X : Blk w' w.heap.size #[c0] 22) (Y : Blk w' (w.heap.size + 1) #[.int .i64 er] 23) {t : Array Value} (h2 : t.getD 2 undef = .pointer (some ⟨w.heap.size, 0, none⟩)) (h3 : t.getD 3 undef = .pointer (some ⟨w.heap.size + 1, 0, none⟩)) :
    (results Try.f8 t).run Try.prog w' = .ok (.tuple #[c0, .int .i64 er]) w' := by
  have a0 := X.cell (o := 0) rfl
  have y0 := Y.cell (o := 0) rfl
  simp only [Array.getD_eq_getD_getElem?] at h2 h3
  simp [results, Try.results8, go_sem, h2, h3, a0, y0]

set_option maxRecDepth 100000 in
set_option maxHeartbeats 2000000 in
theorem ofRecords_calls (s : ByteArray) (w : World) (hs : s.size ≤ maxLen) :
    Calls Try.prog 8 #[.string s] w (GotRc (ofRcR s) w) := by
  have hmf : ∀ (fn : Fn) (first cap : Array Value) (w : World), (Instr.makeFunc fn first cap).run Try.prog w = .ok (.func fn first cap) w := fun _ _ _ _ => rfl
  have hnot : ∀ (x : Bool) (w : World), (Op.unary .not (.bool x)).run Try.prog w = .ok (.bool (!x)) w := fun _ _ => rfl
  have X0 := (blk_new w w.heap.size #[.slice none 0 0] 22 rfl).alloc (.cells #[.int .i64 0] 23)
  have Y0 := blk_new (w.alloc (.cells #[.slice none 0 0] 22)) (w.heap.size + 1) #[.int .i64 0] 23 (by simp)
  have B0 : Below w.heap.size w ((w.alloc (.cells #[.slice none 0 0] 22)).alloc (.cells #[.int .i64 0] 23)) := by go_grown
  by_cases hbig : 1048576 < s.size
  · have hfin : Hid (ofRcR s = .error 4) := by show _ = _; unfold ofRcR; rw [if_pos hbig]
    go_enter_defers Try.func8, Try.ntmps8
    go_wp2_with fail
    refine (readerOf_bad s 1048576 _ (by omega)).mono ?_
    rintro e w1 ⟨rfl, rfl⟩
    refine leaves_cons (f := 29) (args := #[.pointer (some ⟨w.heap.size, 0, none⟩), .pointer (some ⟨w.heap.size + 1, 0, none⟩)]) (by simp) (by simp [go_sem]) ?_
    refine (ofRecords1_panicking w.heap.size (.slice none 0 0) 0 4 _ X0 Y0).mono ?_
    rintro e u' w'' ⟨rfl, rfl, hbz, Xz, Yz⟩
    refine ⟨.tuple #[.slice none 0 0, .int .i64 4], rcCaught Xz Yz rfl rfl, ?_⟩
    rw [hfin.out]
    exact ⟨rfl, (B0).trans hbz⟩
  · go_enter_defers Try.func8, Try.ntmps8
    go_wp2_with fail
    refine (readerOf_ok s 1048576 _ (by omega)).mono ?_
    rintro e w1 ⟨rfl, rfl⟩
    have R1 := rdr_new s 0 ((w.alloc (.cells #[.slice none 0 0] 22)).alloc (.cells #[.int .i64 0] 23)) 92 (w.heap.size + 2) (by simp)
    have X1 := X0.alloc (.cells #[.string s, .int .i64 0] 92)
    have Y1 := Y0.alloc (.cells #[.string s, .int .i64 0] 92)
    have B1 := B0.alloc (by simp; omega) (.cells #[.string s, .int .i64 0] 92)
    clear X0 Y0 B0
    go_wp2_with fail
    refine (records_calls (w.heap.size + 2) s 0 _ R1 hs (Nat.zero_le _)).mono ?_
    cases hr : rdRcs s 0 4096 with
    | error er =>
      have hfin : Hid (ofRcR s = .error er) := by show _ = _; unfold ofRcR; rw [if_neg hbig, hr]
      rintro e w2 ⟨rfl, ho⟩
      refine leaves_cons (f := 29) (args := #[.pointer (some ⟨w.heap.size, 0, none⟩), .pointer (some ⟨w.heap.size + 1, 0, none⟩)]) (by simp) (by simp [go_sem]) ?_
      refine (ofRecords1_panicking w.heap.size (.slice none 0 0) 0 er _ (X1.off ho (by omega)) (Y1.off ho (by omega))).mono ?_
      rintro e u' w'' ⟨rfl, rfl, hbz, Xz, Yz⟩
      refine ⟨.tuple #[.slice none 0 0, .int .i64 er], rcCaught Xz Yz rfl rfl, ?_⟩
      rw [hfin.out]
      exact ⟨rfl, (ho.below (by omega) B1 (by simp; omega)).trans hbz⟩
    | ok p =>
      obtain ⟨l, nx⟩ := p
      have hle := rdRcs_le hr
      rintro e w2 ⟨lv, rfl, hown, ho, R2⟩
      have hsl : ∃ pp cp, lv = .slice pp l.length cp := by
        rcases hown.2 with ⟨rfl, h⟩ | ⟨g, cap, cur, rfl, _⟩
        · rw [h]; exact ⟨none, 0, rfl⟩
        · exact ⟨_, _, rfl⟩
      obtain ⟨pp, cp, rfl⟩ := hsl
      have X2 := X1.off ho (by omega)
      have Y2 := Y1.off ho (by omega)
      have B2 := ho.below (by omega) B1 (by simp; omega)
      have hz2 := ho.size
      simp at hz2
      have d0 := X2.cell (o := 0) rfl
      have f0 := X2.frozen (o := 0)
      go_wp2_with fail
      obtain ⟨W3, hW3, X3, Y3, R3, B3, own3, Z3⟩ : ∃ W3, (w2.setCell ⟨w.heap.size, 0, none⟩ (.slice pp l.length cp)) = W3 ∧ Blk W3 w.heap.size #[.slice pp l.length cp] 22 ∧ Blk W3 (w.heap.size + 1) #[.int .i64 0] 23 ∧ Rdr W3 (w.heap.size + 2) s nx ∧ Below w.heap.size w W3 ∧ W3.ownsRow (w.heap.size + 3) 51 2 (.slice pp l.length cp) l.length (rcCells l) ∧ w.heap.size + 3 ≤ W3.heap.size := by
        refine ⟨_, rfl, ?_, ?_, ?_, ?_, ?_, ?_⟩
        · have hx := (X2.set 0 (.slice pp l.length cp))
          simpa using hx
        · exact (Y2.setOther (p := ⟨w.heap.size, 0, none⟩) (by simp) (.slice pp l.length cp))
        · exact (R2.setOther (p := ⟨w.heap.size, 0, none⟩) (by simp) (.slice pp l.length cp))
        · exact (B2.setCell (p := ⟨w.heap.size, 0, none⟩) (Nat.le_refl _) (.slice pp l.length cp))
        · exact ownsRow_weak (ownsRow_setCell_below hown (a := ⟨w.heap.size, 0, none⟩) (by simp; omega) (.slice pp l.length cp)) (by simp)
        · simp [World.setCell]; omega
      rw [hW3]
      clear hW3 X2 Y2 R2 B2 X1 Y1 R1 B1 d0 f0 hown
      refine (end_calls (w.heap.size + 2) s nx _ R3).mono ?_
      by_cases htail : nx < s.size
      · have hfin : Hid (ofRcR s = .error 12) := by show _ = _; unfold ofRcR; rw [if_neg hbig, hr]; simp only [htail, if_true]
        rintro e w4 ⟨h4, ho4, R4⟩
        rw [if_pos htail] at h4
        subst h4
        refine leaves_cons (f := 29) (args := #[.pointer (some ⟨w.heap.size, 0, none⟩), .pointer (some ⟨w.heap.size + 1, 0, none⟩)]) (by simp) (by simp [go_sem]) ?_
        refine (ofRecords1_panicking w.heap.size _ 0 12 _ (X3.off ho4 (by omega)) (Y3.off ho4 (by omega))).mono ?_
        rintro e u' w'' ⟨rfl, rfl, hbz, Xz, Yz⟩
        refine ⟨.tuple #[.slice none 0 0, .int .i64 12], rcCaught Xz Yz rfl rfl, ?_⟩
        rw [hfin.out]
        exact ⟨rfl, (ho4.below (by omega) B3 (by omega)).trans hbz⟩
      · rintro e w4 ⟨h4, ho4, R4⟩
        rw [if_neg htail] at h4
        subst h4
        have X4 := X3.off ho4 (by omega)
        have Y4 := Y3.off ho4 (by omega)
        have B4 := ho4.below (by omega) B3 (by omega)
        have Z4 := Nat.le_trans Z3 ho4.size
        have own4 := own3.kept ho4.by (Or.inr (fun e => by have := (own3.lt _ e).1; omega))
        have hrc := rcs_of_own own4 (fun m hm => ⟨Nat.le_trans (hle.2.2.2 m hm).1 (by unfold maxLen; decide), Nat.le_trans (hle.2.2.2 m hm).2 (by unfold maxLen; decide)⟩)
        have hris := rise_calls _ l w4 hrc (by omega)
        have HA : Hid _ := hris
        clear X3 Y3 B3 R3 R4 hris own3
        have d0 := X4.cell (o := 0) rfl
        by_cases hok : riseR l = 0
        · have hfin : Hid (ofRcR s = .ok l) := by show _ = _; unfold ofRcR; rw [if_neg hbig, hr]; simp only [htail, if_false, hok, if_true]
          rw [hok] at HA
          have hmi := fun wx => mind_calls 0 wx
          simp only [if_true] at hmi
          have HM : Hid _ := hmi
          clear hmi
          go_wp2_with fail
          refine Calls.mono HA.out ?_
          rintro e w5 ⟨rfl, hb5⟩
          have X5 := X4.below hb5
          have Y5 := Y4.below hb5
          have B5 := B4.trans (hb5.mono (by omega))
          have own5 := own_below1 own4 hb5
          clear d0
          have d0 := X5.cell (o := 0) rfl
          have f0 := X5.frozen (o := 0)
          have y0 := Y5.cell (o := 0) rfl
          have g0 := Y5.frozen (o := 0)
          go_wp2_with fail
          refine (HM.out _).mono ?_
          rintro e w6 ⟨rfl, rfl⟩
          go_wp2
          refine leaves_cons (f := 29) (args := #[.pointer (some ⟨w.heap.size, 0, none⟩), .pointer (some ⟨w.heap.size + 1, 0, none⟩)]) (by simp) (by simp [go_sem]) ?_
          refine (ofRecords1_idle _ _ _).mono ?_
          rintro e u' w'' ⟨rfl, rfl, rfl⟩
          refine ⟨.tuple #[.slice pp l.length cp, .int .i64 0], by simp [results, Try.results8, go_sem, d0, y0], ?_⟩
          rw [hfin.out]
          exact ⟨_, rfl, ownsRow_weak (ownsRow_setCell_below (ownsRow_setCell_below own5 (a := ⟨w.heap.size, 0, none⟩) (by simp) _) (a := ⟨w.heap.size + 1, 0, none⟩) (by simp) _) (by omega), ((B5.setCell (p := ⟨w.heap.size, 0, none⟩) (Nat.le_refl _) _).setCell (p := ⟨w.heap.size + 1, 0, none⟩) (by simp) _)⟩
        · have hfin : Hid (ofRcR s = .error (riseR l)) := by show _ = _; unfold ofRcR; rw [if_neg hbig, hr]; simp only [htail, if_false, hok]
          have hmi := fun wx => mind_calls (riseR l) wx
          simp only [hok, if_false] at hmi
          have HM : Hid _ := hmi
          clear hmi
          go_wp2_with fail
          refine Calls.mono HA.out ?_
          rintro e w5 ⟨rfl, hb5⟩
          have X5 := X4.below hb5
          have Y5 := Y4.below hb5
          have B5 := B4.trans (hb5.mono (by omega))
          clear d0
          go_wp2_with fail
          refine (HM.out _).mono ?_
          rintro e w6 ⟨rfl, rfl⟩
          refine leaves_cons (f := 29) (args := #[.pointer (some ⟨w.heap.size, 0, none⟩), .pointer (some ⟨w.heap.size + 1, 0, none⟩)]) (by simp) (by simp [go_sem]) ?_
          refine (ofRecords1_panicking w.heap.size _ 0 (riseR l) _ X5 Y5).mono ?_
          rintro e u' w'' ⟨rfl, rfl, hbz, Xz, Yz⟩
          refine ⟨.tuple #[.slice none 0 0, .int .i64 (riseR l)], rcCaught Xz Yz rfl rfl, ?_⟩
          rw [hfin.out]
          exact ⟨rfl, (B5).trans hbz⟩
end Go.Proofs.Ytdaonkgcdheplaa
