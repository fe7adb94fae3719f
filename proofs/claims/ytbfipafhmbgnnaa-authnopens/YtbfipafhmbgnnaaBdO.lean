/- The body that bytes are: the document's answer. -/
import Derived.Test.YtbfipafhmbgnnaaMny
import Derived.Test.YtbfipafhmbgnnaaRefX
import Derived.Test.YtbfipafhmbgnnaaQt
namespace Go.Proofs.Ytbfipafhmbgnnaa
open Go.RowKit
set_option linter.unusedVariables false
set_option linter.unusedSimpArgs false

theorem bdOut {wr : World} {k : Nat} {z0 z1 z2 z3 z4 z5 z6 z7 c0 c1 c2 c3 c4 c5 c6 c7 : Value} (Y : Blk wr k #[z0, z1, z2, z3, z4, z5, z6, z7] 24) : ∃ W, ((((((((wr.setCell ⟨k, 0, none⟩ c0).setCell ⟨k, 1, none⟩ c1).setCell ⟨k, 2, none⟩ c2).setCell ⟨k, 3, none⟩ c3).setCell ⟨k, 4, none⟩ c4).setCell ⟨k, 5, none⟩ c5).setCell ⟨k, 6, none⟩ c6).setCell ⟨k, 7, none⟩ c7) = W ∧ Blk W k #[c0, c1, c2, c3, c4, c5, c6, c7] 24 ∧
    (∀ B w0, B ≤ k → Below B w0 wr → Below B w0 W) ∧ (∀ base t z v n xs, k < base → wr.ownsRow base t z v n xs → W.ownsRow base t z v n xs) := by
  refine ⟨_, rfl, ?_, fun B w0 hB h => ?_, fun base t z v n xs hk h => ?_⟩
  · have hy := ((((((((Y.set 0 c0).set 1 c1).set 2 c2).set 3 c3).set 4 c4).set 5 c5).set 6 c6).set 7 c7)
    simpa using hy
  · exact ((((((((h.setCell (p := ⟨k, 0, none⟩) hB _).setCell (p := ⟨k, 1, none⟩) hB _).setCell (p := ⟨k, 2, none⟩) hB _).setCell (p := ⟨k, 3, none⟩) hB _).setCell (p := ⟨k, 4, none⟩) hB _).setCell (p := ⟨k, 5, none⟩) hB _).setCell (p := ⟨k, 6, none⟩) hB _).setCell (p := ⟨k, 7, none⟩) hB _)
  · exact (ownsRow_setCell_below (ownsRow_setCell_below (ownsRow_setCell_below (ownsRow_setCell_below (ownsRow_setCell_below (ownsRow_setCell_below (ownsRow_setCell_below (ownsRow_setCell_below h (a := ⟨k, 0, none⟩) hk _) (a := ⟨k, 1, none⟩) hk _) (a := ⟨k, 2, none⟩) hk _) (a := ⟨k, 3, none⟩) hk _) (a := ⟨k, 4, none⟩) hk _) (a := ⟨k, 5, none⟩) hk _) (a := ⟨k, 6, none⟩) hk _) (a := ⟨k, 7, none⟩) hk _)

abbrev zBody : Obj := .cells #[.int .i64 0, .int .i64 0, .int .i64 0, .int .i64 0, .int .i64 0, .string ⟨#[]⟩, .string ⟨#[]⟩, .slice none 0 0] 24
abbrev zAns (er : Int) : Value := .tuple #[.agg #[.int .i64 0, .int .i64 0, .int .i64 0, .int .i64 0, .int .i64 0, .string ⟨#[]⟩, .string ⟨#[]⟩, .slice none 0 0], .int .i64 er]

set_option maxRecDepth 100000 in
set_option maxHeartbeats 4000000 in
theorem of_ref (s : ByteArray) (w : World) (hs : s.size ≤ maxLen) :
    Calls Try.prog 13 #[.string s] w (ReadsO (ofR s) w) := by
  have hs0 := hs
  by_cases hbig : 1048576 < s.size
  · have hfin : Hid (ofR s = .error 4) := by show _ = _; unfold ofR; rw [if_pos hbig]
    have hd : decide ((1048576 : Int) < (s.size : Int)) = true := by simp only [decide_eq_true_eq]; omega
    unfold maxLen at hs
    go_enter Try.func13, Try.ntmps13
    go_wp2
    refine bodyPost_ret (v := zAns 4) (by simp [results, Try.results13, go_sem, zAns]) rfl ?_
    rw [hfin.out]
    exact ⟨rfl, by go_grown⟩
  have hd : decide ((1048576 : Int) < (s.size : Int)) = false := by simp only [decide_eq_false_iff_not]; omega
  go_enter Try.func13, Try.ntmps13
  go_wp2
  refine wp_loop_rounds 6 ?_
  rw [rounds_succ]
  go_wp2_with fail
  refine (int_ref s 0 _ hs (Nat.zero_le _)).mono ?_
  cases h0 : rdInt s 0 with
  | error er =>
    have hne : (er != 0) = true := by simpa using rdInt_err h0
    have hfin : Hid (ofR s = .error er) := by show _ = _; unfold ofR rdBd; rw [if_neg hbig, h0]
    simp only [got]
    rintro e wx ⟨rfl, rfl⟩
    clear h0
    go_wp2
    refine bodyPost_ret (v := zAns er) (by simp [results, Try.results13, go_sem, zAns]) rfl ?_
    rw [hfin.out]
    exact ⟨rfl, by go_grown⟩
  | ok q0 =>
  obtain ⟨n0, a1⟩ := q0
  have l0 := rdInt_le h0
  simp only [got]
  rintro e w0 ⟨rfl, rfl⟩
  go_wp2
  rw [rounds_succ]
  go_wp2_with fail
  refine (int_ref s a1 _ hs l0.2.1).mono ?_
  cases h1 : rdInt s a1 with
  | error er =>
    have hne : (er != 0) = true := by simpa using rdInt_err h1
    have hfin : Hid (ofR s = .error er) := by show _ = _; unfold ofR rdBd; rw [if_neg hbig, h0]; simp only [rdBd1]; rw [h1]
    simp only [got]
    rintro e wx ⟨rfl, rfl⟩
    clear h0 h1
    go_wp2
    refine bodyPost_ret (v := zAns er) (by simp [results, Try.results13, go_sem, zAns]) rfl ?_
    rw [hfin.out]
    exact ⟨rfl, by go_grown⟩
  | ok q1 =>
  obtain ⟨n1, a2⟩ := q1
  have l1 := rdInt_le h1
  simp only [got]
  rintro e w1 ⟨rfl, rfl⟩
  go_wp2
  rw [rounds_succ]
  go_wp2_with fail
  refine (int_ref s a2 _ hs l1.2.1).mono ?_
  cases h2 : rdInt s a2 with
  | error er =>
    have hne : (er != 0) = true := by simpa using rdInt_err h2
    have hfin : Hid (ofR s = .error er) := by show _ = _; unfold ofR rdBd; rw [if_neg hbig, h0]; simp only [rdBd1]; rw [h1]; simp only [rdBd2]; rw [h2]
    simp only [got]
    rintro e wx ⟨rfl, rfl⟩
    clear h0 h1 h2
    go_wp2
    refine bodyPost_ret (v := zAns er) (by simp [results, Try.results13, go_sem, zAns]) rfl ?_
    rw [hfin.out]
    exact ⟨rfl, by go_grown⟩
  | ok q2 =>
  obtain ⟨n2, a3⟩ := q2
  have l2 := rdInt_le h2
  simp only [got]
  rintro e w2 ⟨rfl, rfl⟩
  go_wp2
  rw [rounds_succ]
  go_wp2_with fail
  refine (int_ref s a3 _ hs l2.2.1).mono ?_
  cases h3 : rdInt s a3 with
  | error er =>
    have hne : (er != 0) = true := by simpa using rdInt_err h3
    have hfin : Hid (ofR s = .error er) := by show _ = _; unfold ofR rdBd; rw [if_neg hbig, h0]; simp only [rdBd1]; rw [h1]; simp only [rdBd2]; rw [h2]; simp only [rdBd3]; rw [h3]
    simp only [got]
    rintro e wx ⟨rfl, rfl⟩
    clear h0 h1 h2 h3
    go_wp2
    refine bodyPost_ret (v := zAns er) (by simp [results, Try.results13, go_sem, zAns]) rfl ?_
    rw [hfin.out]
    exact ⟨rfl, by go_grown⟩
  | ok q3 =>
  obtain ⟨n3, a4⟩ := q3
  have l3 := rdInt_le h3
  simp only [got]
  rintro e w3 ⟨rfl, rfl⟩
  go_wp2
  rw [rounds_succ]
  go_wp2_with fail
  refine (int_ref s a4 _ hs l3.2.1).mono ?_
  cases h4 : rdInt s a4 with
  | error er =>
    have hne : (er != 0) = true := by simpa using rdInt_err h4
    have hfin : Hid (ofR s = .error er) := by show _ = _; unfold ofR rdBd; rw [if_neg hbig, h0]; simp only [rdBd1]; rw [h1]; simp only [rdBd2]; rw [h2]; simp only [rdBd3]; rw [h3]; simp only [rdBd4]; rw [h4]
    simp only [got]
    rintro e wx ⟨rfl, rfl⟩
    clear h0 h1 h2 h3 h4
    go_wp2
    refine bodyPost_ret (v := zAns er) (by simp [results, Try.results13, go_sem, zAns]) rfl ?_
    rw [hfin.out]
    exact ⟨rfl, by go_grown⟩
  | ok q4 =>
  obtain ⟨n4, a5⟩ := q4
  have l4 := rdInt_le h4
  simp only [got]
  rintro e w4 ⟨rfl, rfl⟩
  go_wp2
  rw [rounds_succ]
  go_wp2_with fail
  refine (text_ref s a5 _ hs l4.2.1).mono ?_
  cases h5 : rdText s a5 with
  | error er =>
    have hne : (er != 0) = true := by simpa using rdText_err l4.2.1 h5
    have hfin : Hid (ofR s = .error er) := by show _ = _; unfold ofR rdBd; rw [if_neg hbig, h0]; simp only [rdBd1]; rw [h1]; simp only [rdBd2]; rw [h2]; simp only [rdBd3]; rw [h3]; simp only [rdBd4]; rw [h4]; simp only [rdBd5]; rw [h5]
    simp only [gotT]
    rintro e wx ⟨rfl, rfl⟩
    clear h0 h1 h2 h3 h4 h5
    go_wp2
    refine bodyPost_ret (v := zAns er) (by simp [results, Try.results13, go_sem, zAns]) rfl ?_
    rw [hfin.out]
    exact ⟨rfl, by go_grown⟩
  | ok q5 =>
  obtain ⟨d, a6⟩ := q5
  have l5 := rdText_le h5
  simp only [gotT]
  rintro e w5 ⟨rfl, rfl⟩
  go_wp2_with fail
  refine (text_ref s a6 _ hs l5.2.1).mono ?_
  cases h6 : rdText s a6 with
  | error er =>
    have hne : (er != 0) = true := by simpa using rdText_err l5.2.1 h6
    have hfin : Hid (ofR s = .error er) := by show _ = _; unfold ofR rdBd; rw [if_neg hbig, h0]; simp only [rdBd1]; rw [h1]; simp only [rdBd2]; rw [h2]; simp only [rdBd3]; rw [h3]; simp only [rdBd4]; rw [h4]; simp only [rdBd5]; rw [h5]; simp only [rdBd6]; rw [h6]
    simp only [gotT]
    rintro e wx ⟨rfl, rfl⟩
    clear h0 h1 h2 h3 h4 h5 h6
    go_wp2
    refine bodyPost_ret (v := zAns er) (by simp [results, Try.results13, go_sem, zAns]) rfl ?_
    rw [hfin.out]
    exact ⟨rfl, by go_grown⟩
  | ok q6 =>
  obtain ⟨t, a7⟩ := q6
  have l6 := rdText_le h6
  simp only [gotT]
  rintro e w6 ⟨rfl, rfl⟩
  have Y0 := (blk_new w w.heap.size #[.int .i64 0, .int .i64 0, .int .i64 0, .int .i64 0, .int .i64 0, .string ⟨#[]⟩, .string ⟨#[]⟩, .slice none 0 0] 24 rfl).alloc (.cells #[.int .i64 n0, .int .i64 n1, .int .i64 n2, .int .i64 n3, .int .i64 n4] 58)
  have N0 := blk_new (w.alloc zBody) (w.heap.size + 1) #[.int .i64 n0, .int .i64 n1, .int .i64 n2, .int .i64 n3, .int .i64 n4] 58 (by simp)
  have B0 : Below w.heap.size w ((w.alloc zBody).alloc (.cells #[.int .i64 n0, .int .i64 n1, .int .i64 n2, .int .i64 n3, .int .i64 n4] 58)) := by go_grown
  have hmany := many_ref s a7 64 ((w.alloc zBody).alloc (.cells #[.int .i64 n0, .int .i64 n1, .int .i64 n2, .int .i64 n3, .int .i64 n4] 58)) hs l6.2.1 (by omega)
  go_wp2_with fail
  refine hmany.mono ?_
  clear hmany
  cases h7 : rdList s a7 64 with
  | error er =>
    have hne : (er != 0) = true := by simpa using rdList_err l6.2.1 h7
    have hfin : Hid (ofR s = .error er) := by show _ = _; unfold ofR rdBd; rw [if_neg hbig, h0]; simp only [rdBd1]; rw [h1]; simp only [rdBd2]; rw [h2]; simp only [rdBd3]; rw [h3]; simp only [rdBd4]; rw [h4]; simp only [rdBd5]; rw [h5]; simp only [rdBd6]; rw [h6]; simp only [rdBd7]; rw [h7]
    rintro e w7 ⟨rfl, b7⟩
    have Y7 := Y0.below b7
    have B7 := B0.trans (b7.mono B0.size)
    clear h0 h1 h2 h3 h4 h5 h6 h7
    have y0 := Y7.cell (o := 0) rfl
    have g0 := Y7.frozen (o := 0)
    have y1 := Y7.cell (o := 1) rfl
    have g1 := Y7.frozen (o := 1)
    have y2 := Y7.cell (o := 2) rfl
    have g2 := Y7.frozen (o := 2)
    have y3 := Y7.cell (o := 3) rfl
    have g3 := Y7.frozen (o := 3)
    have y4 := Y7.cell (o := 4) rfl
    have g4 := Y7.frozen (o := 4)
    have y5 := Y7.cell (o := 5) rfl
    have g5 := Y7.frozen (o := 5)
    have y6 := Y7.cell (o := 6) rfl
    have g6 := Y7.frozen (o := 6)
    have y7 := Y7.cell (o := 7) rfl
    have g7 := Y7.frozen (o := 7)
    go_wp2
    obtain ⟨W, hW, YW, hBW, _⟩ := bdOut (c0 := .int .i64 0) (c1 := .int .i64 0) (c2 := .int .i64 0) (c3 := .int .i64 0) (c4 := .int .i64 0) (c5 := .string ⟨#[]⟩) (c6 := .string ⟨#[]⟩) (c7 := .slice none 0 0) Y7
    rw [hW]
    have z0 := YW.cell (o := 0) rfl
    have z1 := YW.cell (o := 1) rfl
    have z2 := YW.cell (o := 2) rfl
    have z3 := YW.cell (o := 3) rfl
    have z4 := YW.cell (o := 4) rfl
    have z5 := YW.cell (o := 5) rfl
    have z6 := YW.cell (o := 6) rfl
    have z7 := YW.cell (o := 7) rfl
    refine bodyPost_ret (v := zAns er) (by simp only [results, Try.results13]; simp [go_sem, zAns, z0, z1, z2, z3, z4, z5, z6, z7]) rfl ?_
    rw [hfin.out]
    exact ⟨rfl, hBW _ _ (Nat.le_refl _) B7⟩
  | ok q7 =>
  obtain ⟨l, a8⟩ := q7
  have l7 := rdList_le h7
  have hof : Hid (ofR s = if a8 < s.size then .error 12 else if right ⟨n0, n1, n2, n3, n4, d, t, l⟩ = 0 then .ok ⟨n0, n1, n2, n3, n4, d, t, l⟩ else .error (right ⟨n0, n1, n2, n3, n4, d, t, l⟩)) := by show _ = _; unfold ofR rdBd; rw [if_neg hbig, h0]; simp only [rdBd1]; rw [h1]; simp only [rdBd2]; rw [h2]; simp only [rdBd3]; rw [h3]; simp only [rdBd4]; rw [h4]; simp only [rdBd5]; rw [h5]; simp only [rdBd6]; rw [h6]; simp only [rdBd7]; rw [h7]
  clear h0 h1 h2 h3 h4 h5 h6 h7
  rintro e w7 ⟨lv, rfl, own7, b7⟩
  obtain ⟨pl, cl, rfl⟩ := own_len own7
  have Y7 := Y0.below b7
  have N7 := N0.below b7
  have B7 := B0.trans (b7.mono B0.size)
  have hz7 := b7.size
  simp at hz7
  by_cases htail : a8 < s.size
  · have hdt : decide ((a8 : Int) < (s.size : Int)) = true := by simp only [decide_eq_true_eq]; omega
    have hfin : Hid (ofR s = .error 12) := by show _ = _; rw [hof.out, if_pos htail]
    have y0 := Y7.cell (o := 0) rfl
    have g0 := Y7.frozen (o := 0)
    have y1 := Y7.cell (o := 1) rfl
    have g1 := Y7.frozen (o := 1)
    have y2 := Y7.cell (o := 2) rfl
    have g2 := Y7.frozen (o := 2)
    have y3 := Y7.cell (o := 3) rfl
    have g3 := Y7.frozen (o := 3)
    have y4 := Y7.cell (o := 4) rfl
    have g4 := Y7.frozen (o := 4)
    have y5 := Y7.cell (o := 5) rfl
    have g5 := Y7.frozen (o := 5)
    have y6 := Y7.cell (o := 6) rfl
    have g6 := Y7.frozen (o := 6)
    have y7 := Y7.cell (o := 7) rfl
    have g7 := Y7.frozen (o := 7)
    go_wp2
    obtain ⟨W, hW, YW, hBW, _⟩ := bdOut (c0 := .int .i64 0) (c1 := .int .i64 0) (c2 := .int .i64 0) (c3 := .int .i64 0) (c4 := .int .i64 0) (c5 := .string ⟨#[]⟩) (c6 := .string ⟨#[]⟩) (c7 := .slice none 0 0) Y7
    rw [hW]
    have z0 := YW.cell (o := 0) rfl
    have z1 := YW.cell (o := 1) rfl
    have z2 := YW.cell (o := 2) rfl
    have z3 := YW.cell (o := 3) rfl
    have z4 := YW.cell (o := 4) rfl
    have z5 := YW.cell (o := 5) rfl
    have z6 := YW.cell (o := 6) rfl
    have z7 := YW.cell (o := 7) rfl
    refine bodyPost_ret (v := zAns 12) (by simp only [results, Try.results13]; simp [go_sem, zAns, z0, z1, z2, z3, z4, z5, z6, z7]) rfl ?_
    rw [hfin.out]
    exact ⟨rfl, hBW _ _ (Nat.le_refl _) B7⟩
  have hdt : decide ((a8 : Int) < (s.size : Int)) = false := by simp only [decide_eq_false_iff_not]; omega
  have m0 := N7.cell (o := 0) rfl
  have m1 := N7.cell (o := 1) rfl
  have m2 := N7.cell (o := 2) rfl
  have m3 := N7.cell (o := 3) rfl
  have m4 := N7.cell (o := 4) rfl
  have hsg := sgs_of_own own7 (fun m hm => ⟨Nat.le_trans (l7.2.2.2 m hm).1 (by unfold maxLen; decide), Nat.le_trans (l7.2.2.2 m hm).2 (by unfold maxLen; decide)⟩)
  have hrr := rightRef_calls ⟨n0, n1, n2, n3, n4, d, t, l⟩ (.slice pl l.length cl) (w7.alloc (.cells #[.int .i64 n0, .int .i64 n1, .int .i64 n2, .int .i64 n3, .int .i64 n4, .string d, .string t, .slice pl l.length cl] 24)) (Nat.le_trans l5.2.2 (by unfold maxLen; decide)) (Nat.le_trans l6.2.2 (by unfold maxLen; decide)) (by simp only; omega) (hsg.below ((Below.refl _ _).alloc (Nat.le_refl _) _))
  unfold Bd.val at hrr
  simp only at hrr
  have HRR : Hid _ := hrr
  have X8 := blk_new w7 w7.heap.size #[.int .i64 n0, .int .i64 n1, .int .i64 n2, .int .i64 n3, .int .i64 n4, .string d, .string t, .slice pl l.length cl] 24 rfl
  have Y8 := Y7.alloc (.cells #[.int .i64 n0, .int .i64 n1, .int .i64 n2, .int .i64 n3, .int .i64 n4, .string d, .string t, .slice pl l.length cl] 24)
  have B8 := B7.alloc B7.size (.cells #[.int .i64 n0, .int .i64 n1, .int .i64 n2, .int .i64 n3, .int .i64 n4, .string d, .string t, .slice pl l.length cl] 24)
  have own8 := own7.alloc (.cells #[.int .i64 n0, .int .i64 n1, .int .i64 n2, .int .i64 n3, .int .i64 n4, .string d, .string t, .slice pl l.length cl] 24)
  have HO8 : Hid _ := own8
  clear hrr hsg own8 own7
  by_cases hok : right ⟨n0, n1, n2, n3, n4, d, t, l⟩ = 0
  · have hfin : Hid (ofR s = .ok ⟨n0, n1, n2, n3, n4, d, t, l⟩) := by show _ = _; rw [hof.out, if_neg htail, if_pos hok]
    rw [hok] at HRR
    clear hof hok
    go_wp2_with fail
    refine (Calls.mono HRR.out) ?_
    rintro e w9 ⟨rfl, b9⟩
    have X9 := X8.below b9
    have Y9 := Y8.below b9
    have B9 := B8.trans (b9.mono B8.size)
    have own9 := own_belowM HO8.out b9
    have HO9 : Hid _ := own9
    clear own9 HO8 m0 m1 m2 m3 m4
    have x0 := X9.cell (o := 0) rfl
    have x1 := X9.cell (o := 1) rfl
    have x2 := X9.cell (o := 2) rfl
    have x3 := X9.cell (o := 3) rfl
    have x4 := X9.cell (o := 4) rfl
    have x5 := X9.cell (o := 5) rfl
    have x6 := X9.cell (o := 6) rfl
    have x7 := X9.cell (o := 7) rfl
    have y0 := Y9.cell (o := 0) rfl
    have y1 := Y9.cell (o := 1) rfl
    have y2 := Y9.cell (o := 2) rfl
    have y3 := Y9.cell (o := 3) rfl
    have y4 := Y9.cell (o := 4) rfl
    have y5 := Y9.cell (o := 5) rfl
    have y6 := Y9.cell (o := 6) rfl
    have y7 := Y9.cell (o := 7) rfl
    have g0 := Y9.frozen (o := 0)
    have g1 := Y9.frozen (o := 1)
    have g2 := Y9.frozen (o := 2)
    have g3 := Y9.frozen (o := 3)
    have g4 := Y9.frozen (o := 4)
    have g5 := Y9.frozen (o := 5)
    have g6 := Y9.frozen (o := 6)
    have g7 := Y9.frozen (o := 7)
    go_wp2
    obtain ⟨W, hW, YW, hBW, hOW⟩ := bdOut (c0 := .int .i64 n0) (c1 := .int .i64 n1) (c2 := .int .i64 n2) (c3 := .int .i64 n3) (c4 := .int .i64 n4) (c5 := .string d) (c6 := .string t) (c7 := .slice pl l.length cl) Y9
    rw [hW]
    have z0 := YW.cell (o := 0) rfl
    have z1 := YW.cell (o := 1) rfl
    have z2 := YW.cell (o := 2) rfl
    have z3 := YW.cell (o := 3) rfl
    have z4 := YW.cell (o := 4) rfl
    have z5 := YW.cell (o := 5) rfl
    have z6 := YW.cell (o := 6) rfl
    have z7 := YW.cell (o := 7) rfl
    refine bodyPost_ret (v := .tuple #[Bd.val ⟨n0, n1, n2, n3, n4, d, t, l⟩ (.slice pl l.length cl), .int .i64 0]) (by simp only [results, Try.results13]; simp [go_sem, Bd.val, z0, z1, z2, z3, z4, z5, z6, z7]) rfl ?_
    rw [hfin.out]
    exact ⟨_, rfl, ownsRow_weak (hOW _ _ _ _ _ _ (by simp; omega) HO9.out) (by simp; omega), hBW _ _ (Nat.le_refl _) B9⟩
  · have hfin : Hid (ofR s = .error (right ⟨n0, n1, n2, n3, n4, d, t, l⟩)) := by show _ = _; rw [hof.out, if_neg htail, if_neg hok]
    have hne : (right ⟨n0, n1, n2, n3, n4, d, t, l⟩ != 0) = true := by simpa using hok
    clear hof hok HO8
    generalize right ⟨n0, n1, n2, n3, n4, d, t, l⟩ = R at *
    go_wp2_with fail
    refine (Calls.mono HRR.out) ?_
    rintro e w9 ⟨rfl, b9⟩
    have Y9 := Y8.below b9
    have B9 := B8.trans (b9.mono B8.size)
    clear m0 m1 m2 m3 m4
    have y0 := Y9.cell (o := 0) rfl
    have y1 := Y9.cell (o := 1) rfl
    have y2 := Y9.cell (o := 2) rfl
    have y3 := Y9.cell (o := 3) rfl
    have y4 := Y9.cell (o := 4) rfl
    have y5 := Y9.cell (o := 5) rfl
    have y6 := Y9.cell (o := 6) rfl
    have y7 := Y9.cell (o := 7) rfl
    have g0 := Y9.frozen (o := 0)
    have g1 := Y9.frozen (o := 1)
    have g2 := Y9.frozen (o := 2)
    have g3 := Y9.frozen (o := 3)
    have g4 := Y9.frozen (o := 4)
    have g5 := Y9.frozen (o := 5)
    have g6 := Y9.frozen (o := 6)
    have g7 := Y9.frozen (o := 7)
    go_wp2
    obtain ⟨W, hW, YW, hBW, _⟩ := bdOut (c0 := .int .i64 0) (c1 := .int .i64 0) (c2 := .int .i64 0) (c3 := .int .i64 0) (c4 := .int .i64 0) (c5 := .string ⟨#[]⟩) (c6 := .string ⟨#[]⟩) (c7 := .slice none 0 0) Y9
    rw [hW]
    have z0 := YW.cell (o := 0) rfl
    have z1 := YW.cell (o := 1) rfl
    have z2 := YW.cell (o := 2) rfl
    have z3 := YW.cell (o := 3) rfl
    have z4 := YW.cell (o := 4) rfl
    have z5 := YW.cell (o := 5) rfl
    have z6 := YW.cell (o := 6) rfl
    have z7 := YW.cell (o := 7) rfl
    refine bodyPost_ret (v := zAns R) (by simp only [results, Try.results13]; simp [go_sem, zAns, z0, z1, z2, z3, z4, z5, z6, z7]) rfl ?_
    rw [hfin.out]
    exact ⟨rfl, hBW _ _ (Nat.le_refl _) B9⟩
end Go.Proofs.Ytbfipafhmbgnnaa
