/- PutSigned and OfSigned. -/
import Derived.Test.YtocphdikppeijaaGreatLy11
import Derived.Test.YtocphdikppeijaaGreatLy10
namespace Go.Proofs.YtocphdikppeijaaGreat
open Go.RowKit
set_option linter.unusedVariables false
set_option linter.unusedSimpArgs false

def zeroSgR : Sg := ⟨0, ⟨#[]⟩, ⟨#[]⟩⟩

set_option maxRecDepth 100000 in
set_option maxHeartbeats 1000000 in
theorem putSigned_calls (m : Sg) (w : World) (h1 : m.body.size ≤ maxLen) (h2 : m.sig.size ≤ maxLen) :
    Calls Tryz.prog 88 #[m.val] w fun e w' => e = .returned (.tuple (if sgOk m = true then #[.string ⟨(sgB m).toArray⟩, .int .i64 0] else #[.string ⟨#[]⟩, .int .i64 14])) ∧ Below w.heap.size w w' := by
  have hnot : ∀ (x : Bool) (w : World), (Op.unary .not (.bool x)).run Tryz.prog w = .ok (.bool (!x)) w := fun _ _ => rfl
  have X0 := blk_new w w.heap.size #[.int .i64 m.frm, .string m.body, .string m.sig] 49 rfl
  have his := fun wx => isSigned_calls m wx h1 h2
  have HI : Hid _ := his
  clear his
  cases hok : sgOk m with
  | false =>
    rw [hok] at HI
    unfold Sg.val
    go_enter Tryz.func88, Tryz.ntmps88
    go_wp2_with fail
    refine (HI.out _).mono ?_
    rintro e w1 ⟨rfl, b1⟩
    go_wp2
    go_ret2
    exact ⟨rfl, (show Below w.heap.size w _ by go_grown).trans (b1.mono (by simp))⟩
  | true =>
    rw [hok] at HI
    unfold Sg.val
    go_enter Tryz.func88, Tryz.ntmps88
    go_wp2_with fail
    refine (HI.out _).mono ?_
    rintro e w1 ⟨rfl, b1⟩
    have X1 := X0.below b1
    have B1 : Below w.heap.size w w1 := (show Below w.heap.size w _ by go_grown).trans (b1.mono (by simp))
    have c0 := X1.cell (o := 0) rfl
    have c1 := X1.cell (o := 1) rfl
    have c2 := X1.cell (o := 2) rfl
    go_wp2_with fail
    refine (laySigned_calls w1.heap.size (.slice none 0 0) 0 [] m w1 hok (World.ownsRow_nil _ _ _ _) (by omega) (Nat.le_refl _)).mono ?_
    rintro e w2 ⟨v, rfl, ho, b2, _⟩
    rw [List.nil_append] at ho
    have hcv := own_convert ho
    go_wp2
    go_ret2
    exact ⟨rfl, B1.trans (b2.mono B1.size)⟩

set_option maxHeartbeats 1000000 in
theorem ofSigned1_panicking (b : Nat) (c0 c1 c2 : Value) (z e0 : Int) (w : World) (X : Blk w b #[c0, c1, c2] 49) (Y : Blk w (b + 1) #[.int .i64 z] 35) :
    CallsD Tryz.prog 89 #[.pointer (some ⟨b, 0, none⟩), .pointer (some ⟨b + 1, 0, none⟩)] (.panicking (gu e0)) w fun e u' w' =>
      e = .returned (.tuple #[]) ∧ u' = .panicking [{ v := .iface 163 (.agg #[.int .i64 e0]), recovered := true }] ∧ Below b w w' ∧
      Blk w' b #[.int .i64 0, .string ⟨#[]⟩, .string ⟨#[]⟩] 49 ∧ Blk w' (b + 1) #[.int .i64 e0] 35 := by
  refine callsD_of_wpS Tryz.func89 rfl fun c₀ cs hu => ?_
  apply wpS_seq
  apply wpS_region
  simp [wpOpsS, go_sem, recoverD, hu, gu, Tryz.ntmps89, Exit.thenS]
  show Code.wpS Tryz.prog _ _ { tmps := #[Value.pointer (some ⟨b, 0, none⟩), Value.pointer (some ⟨b + 1, 0, none⟩), .iface 163 (.agg #[.int .i64 e0]), .iface 163 (.agg #[.int .i64 e0]), undef, undef, undef, undef, undef], defers := [] } _ _
  refine wpS_of_wp ?_
  go_wp2_with fail
  refine (reason_calls e0 w).mono ?_
  rintro e w1 ⟨rfl, hb1⟩
  have X1 := X.below hb1
  have Y1 := Y.below hb1
  have hlt := X.lt
  have d0 := X1.cell (o := 0) rfl
  have f0 := X1.frozen (o := 0)
  have d1 := X1.cell (o := 1) rfl
  have f1 := X1.frozen (o := 1)
  have d2 := X1.cell (o := 2) rfl
  have f2 := X1.frozen (o := 2)
  have y0 := Y1.cell (o := 0) rfl
  have g0 := Y1.frozen (o := 0)
  go_wp2
  refine ⟨rfl, _, rfl, .tuple #[], by simp [results, Tryz.results89], rfl, rfl, ?_, ?_, ?_⟩
  · exact (((((hb1.mono (Nat.le_of_lt hlt)).setCell (p := ⟨b, 0, none⟩) (Nat.le_refl _) _).setCell (p := ⟨b, 1, none⟩) (Nat.le_refl _) _).setCell (p := ⟨b, 2, none⟩) (Nat.le_refl _) _).setCell (p := ⟨b + 1, 0, none⟩) (by simp) _)
  · have hx := ((((X1.set 0 (.int .i64 0)).set 1 (.string ⟨#[]⟩)).set 2 (.string ⟨#[]⟩)).setOther (p := ⟨b + 1, 0, none⟩) (by simp) (.int .i64 e0))
    simpa using hx
  · have hy := ((((Y1.setOther (p := ⟨b, 0, none⟩) (by simp) (.int .i64 0)).setOther (p := ⟨b, 1, none⟩) (by simp) (.string ⟨#[]⟩)).setOther (p := ⟨b, 2, none⟩) (by simp) (.string ⟨#[]⟩)).set 0 (.int .i64 e0))
    simpa using hy

theorem ofSigned1_idle (p q : Addr) (w : World) :
    CallsD Tryz.prog 89 #[.pointer (some p), .pointer (some q)] .returning w fun e u' w' => e = .returned (.tuple #[]) ∧ u' = .returning ∧ w' = w := by
  refine callsD_of_wpS Tryz.func89 rfl fun c₀ cs hu => ?_
  apply wpS_seq
  apply wpS_region
  simp [wpOpsS, go_sem, recoverD, hu, Tryz.ntmps89, Exit.thenS]
  show Code.wpS Tryz.prog _ _ { tmps := #[Value.pointer (some p), Value.pointer (some q), .nilIface, .nilIface, undef, undef, undef, undef, undef], defers := [] } _ _
  refine wpS_of_wp ?_
  go_wp2
  cases c₀
  simp_all [bodyPostS, results, Tryz.results89]

/-- What OfSigned reads. -/
def ofSgR (s : ByteArray) : Except Int Sg :=
  if 2097152 < s.size then .error 4
  else match rdSg s 0 with
    | .error e => .error e
    | .ok (m, nx) => if nx < s.size then .error 12 else if sgOk m = true then .ok m else .error 14

def sgAns (r : Except Int Sg) : Array Value :=
  match r with
  | .ok m => #[m.val, .int .i64 0]
  | .error er => #[zeroSgR.val, .int .i64 er]

theorem sgCaught {w w' : World} {er : Int} (X : Blk w' w.heap.size #[.int .i64 0, .string ⟨#[]⟩, .string ⟨#[]⟩] 49) (Y : Blk w' (w.heap.size + 1) #[.int .i64 er] 35) {t : Array Value} (h2 : t.getD 2 undef = .pointer (some ⟨w.heap.size, 0, none⟩)) (h3 : t.getD 3 undef = .pointer (some ⟨w.heap.size + 1, 0, none⟩)) :
    (results Tryz.f59 t).run Tryz.prog w' = .ok (.tuple (sgAns (.error er))) w' := by
  have a0 := X.cell (o := 0) rfl
  have a1 := X.cell (o := 1) rfl
  have a2 := X.cell (o := 2) rfl
  have y0 := Y.cell (o := 0) rfl
  simp only [Array.getD_eq_getD_getElem?] at h2 h3
  simp [results, Tryz.results59, go_sem, h2, h3, a0, a1, a2, y0, zeroSgR, Sg.val, sgAns]

set_option maxHeartbeats 2000000 in
theorem ofSigned_calls (s : ByteArray) (w : World) (hs : s.size ≤ maxLen) :
    Calls Tryz.prog 59 #[.string s] w fun e w' => e = .returned (.tuple (sgAns (ofSgR s))) ∧ Below w.heap.size w w' := by
  have hmf : ∀ (fn : Fn) (first cap : Array Value) (w : World), (Instr.makeFunc fn first cap).run Tryz.prog w = .ok (.func fn first cap) w := fun _ _ _ _ => rfl
  have hnot : ∀ (x : Bool) (w : World), (Op.unary .not (.bool x)).run Tryz.prog w = .ok (.bool (!x)) w := fun _ _ => rfl
  have X0 := (blk_new w w.heap.size #[.int .i64 0, .string ⟨#[]⟩, .string ⟨#[]⟩] 49 rfl).alloc (.cells #[.int .i64 0] 35)
  have Y0 := blk_new (w.alloc (.cells #[.int .i64 0, .string ⟨#[]⟩, .string ⟨#[]⟩] 49)) (w.heap.size + 1) #[.int .i64 0] 35 (by simp)
  have B0 : Below w.heap.size w ((w.alloc (.cells #[.int .i64 0, .string ⟨#[]⟩, .string ⟨#[]⟩] 49)).alloc (.cells #[.int .i64 0] 35)) := by go_grown
  by_cases hbig : 2097152 < s.size
  · have hfin : Hid (ofSgR s = .error 4) := by show _ = _; unfold ofSgR; rw [if_pos hbig]
    go_enter_defers Tryz.func59, Tryz.ntmps59
    go_wp2_with fail
    refine (readerOf_bad s 2097152 _ (by omega)).mono ?_
    rintro e w1 ⟨rfl, rfl⟩
    refine leaves_cons (f := 89) (args := #[.pointer (some ⟨w.heap.size, 0, none⟩), .pointer (some ⟨w.heap.size + 1, 0, none⟩)]) (by simp) (by simp [go_sem]) ?_
    refine (ofSigned1_panicking w.heap.size (.int .i64 0) (.string ⟨#[]⟩) (.string ⟨#[]⟩) 0 4 _ X0 Y0).mono ?_
    rintro e u' w'' ⟨rfl, rfl, hbz, Xz, Yz⟩
    refine ⟨.tuple (sgAns (.error 4)), sgCaught Xz Yz rfl rfl, ?_⟩
    rw [hfin.out]
    exact ⟨rfl, (B0).trans hbz⟩
  · go_enter_defers Tryz.func59, Tryz.ntmps59
    go_wp2_with fail
    refine (readerOf_ok s 2097152 _ (by omega)).mono ?_
    rintro e w1 ⟨rfl, rfl⟩
    have R1 := rdr_new s 0 ((w.alloc (.cells #[.int .i64 0, .string ⟨#[]⟩, .string ⟨#[]⟩] 49)).alloc (.cells #[.int .i64 0] 35)) 166 (w.heap.size + 2) (by simp)
    have X1 := X0.alloc (.cells #[.string s, .int .i64 0] 166)
    have Y1 := Y0.alloc (.cells #[.string s, .int .i64 0] 166)
    have B1 := B0.alloc (by simp; omega) (.cells #[.string s, .int .i64 0] 166)
    clear X0 Y0 B0
    go_wp2_with fail
    refine (signed_calls (w.heap.size + 2) s 0 _ R1 hs (Nat.zero_le _)).mono ?_
    cases hr : rdSg s 0 with
    | error er =>
      have hfin : Hid (ofSgR s = .error er) := by show _ = _; unfold ofSgR; rw [if_neg hbig, hr]
      rintro e w2 ⟨rfl, ho⟩
      refine leaves_cons (f := 89) (args := #[.pointer (some ⟨w.heap.size, 0, none⟩), .pointer (some ⟨w.heap.size + 1, 0, none⟩)]) (by simp) (by simp [go_sem]) ?_
      refine (ofSigned1_panicking w.heap.size (.int .i64 0) (.string ⟨#[]⟩) (.string ⟨#[]⟩) 0 er _ (X1.off ho (by omega)) (Y1.off ho (by omega))).mono ?_
      rintro e u' w'' ⟨rfl, rfl, hbz, Xz, Yz⟩
      refine ⟨.tuple (sgAns (.error er)), sgCaught Xz Yz rfl rfl, ?_⟩
      rw [hfin.out]
      exact ⟨rfl, (ho.below (by omega) B1 (by simp; omega)).trans hbz⟩
    | ok p =>
      obtain ⟨m, nx⟩ := p
      rintro e w2 ⟨rfl, ho, R2⟩
      have X2 := X1.off ho (by omega)
      have Y2 := Y1.off ho (by omega)
      have B2 := ho.below (by omega) B1 (by simp; omega)
      have hz2 := ho.size
      simp at hz2
      have d0 := X2.cell (o := 0) rfl
      have f0 := X2.frozen (o := 0)
      have d1 := X2.cell (o := 1) rfl
      have f1 := X2.frozen (o := 1)
      have d2 := X2.cell (o := 2) rfl
      have f2 := X2.frozen (o := 2)
      unfold Sg.val
      go_wp2_with fail
      obtain ⟨W3, hW3, X3, Y3, R3, B3, Z3⟩ : ∃ W3, (((w2.setCell ⟨w.heap.size, 0, none⟩ (.int .i64 m.frm)).setCell ⟨w.heap.size, 1, none⟩ (.string m.body)).setCell ⟨w.heap.size, 2, none⟩ (.string m.sig)) = W3 ∧ Blk W3 w.heap.size #[.int .i64 m.frm, .string m.body, .string m.sig] 49 ∧ Blk W3 (w.heap.size + 1) #[.int .i64 0] 35 ∧ Rdr W3 (w.heap.size + 2) s nx ∧ Below w.heap.size w W3 ∧ w.heap.size + 3 ≤ W3.heap.size := by
        refine ⟨_, rfl, ?_, ?_, ?_, ?_, ?_⟩
        · have hx := (((X2.set 0 (.int .i64 m.frm)).set 1 (.string m.body)).set 2 (.string m.sig))
          simpa using hx
        · exact (((Y2.setOther (p := ⟨w.heap.size, 0, none⟩) (by simp) (.int .i64 m.frm)).setOther (p := ⟨w.heap.size, 1, none⟩) (by simp) (.string m.body)).setOther (p := ⟨w.heap.size, 2, none⟩) (by simp) (.string m.sig))
        · exact (((R2.setOther (p := ⟨w.heap.size, 0, none⟩) (by simp) (.int .i64 m.frm)).setOther (p := ⟨w.heap.size, 1, none⟩) (by simp) (.string m.body)).setOther (p := ⟨w.heap.size, 2, none⟩) (by simp) (.string m.sig))
        · exact (((B2.setCell (p := ⟨w.heap.size, 0, none⟩) (Nat.le_refl _) (.int .i64 m.frm)).setCell (p := ⟨w.heap.size, 1, none⟩) (Nat.le_refl _) (.string m.body)).setCell (p := ⟨w.heap.size, 2, none⟩) (Nat.le_refl _) (.string m.sig))
        · simp [World.setCell]; omega
      rw [hW3]
      clear hW3 X2 Y2 R2 B2 ho X1 Y1 R1 B1 d0 f0 d1 f1 d2 f2
      have hle := rdSg_le hr
      refine (end_calls (w.heap.size + 2) s nx _ R3).mono ?_
      by_cases htail : nx < s.size
      · have hfin : Hid (ofSgR s = .error 12) := by show _ = _; unfold ofSgR; rw [if_neg hbig, hr]; simp only [htail, if_true]
        rintro e w4 ⟨h4, ho4, R4⟩
        rw [if_pos htail] at h4
        subst h4
        refine leaves_cons (f := 89) (args := #[.pointer (some ⟨w.heap.size, 0, none⟩), .pointer (some ⟨w.heap.size + 1, 0, none⟩)]) (by simp) (by simp [go_sem]) ?_
        refine (ofSigned1_panicking w.heap.size (.int .i64 m.frm) (.string m.body) (.string m.sig) 0 12 _ (X3.off ho4 (by omega)) (Y3.off ho4 (by omega))).mono ?_
        rintro e u' w'' ⟨rfl, rfl, hbz, Xz, Yz⟩
        refine ⟨.tuple (sgAns (.error 12)), sgCaught Xz Yz rfl rfl, ?_⟩
        rw [hfin.out]
        exact ⟨rfl, (ho4.below (by omega) B3 (by omega)).trans hbz⟩
      · rintro e w4 ⟨h4, ho4, R4⟩
        rw [if_neg htail] at h4
        subst h4
        have X4 := X3.off ho4 (by omega)
        have Y4 := Y3.off ho4 (by omega)
        have B4 := ho4.below (by omega) B3 (by omega)
        have Z4 := Nat.le_trans Z3 ho4.size
        clear X3 Y3 B3 R3 R4
        have d0 := X4.cell (o := 0) rfl
        have d1 := X4.cell (o := 1) rfl
        have d2 := X4.cell (o := 2) rfl
        have his := fun wx => isSigned_calls m wx (Nat.le_trans hle.2.2.1 (by unfold maxLen; decide)) (Nat.le_trans hle.2.2.2.1 (by unfold maxLen; decide))
        have HI : Hid _ := his
        clear his
        cases hok : sgOk m with
        | false =>
          have hfin : Hid (ofSgR s = .error 14) := by show _ = _; unfold ofSgR; rw [if_neg hbig, hr]; simp only [htail, if_false, hok]; rfl
          rw [hok] at HI
          go_wp2_with fail
          refine (HI.out _).mono ?_
          rintro e w5 ⟨rfl, hb5⟩
          have X5 := X4.below hb5
          have Y5 := Y4.below hb5
          have B5 := B4.trans (hb5.mono (by omega))
          clear d0 d1 d2
          go_wp2_with fail
          refine (giveUp_calls 14 _).mono ?_
          rintro e w6 ⟨rfl, rfl⟩
          refine leaves_cons (f := 89) (args := #[.pointer (some ⟨w.heap.size, 0, none⟩), .pointer (some ⟨w.heap.size + 1, 0, none⟩)]) (by simp) (by simp [go_sem]) ?_
          refine (ofSigned1_panicking w.heap.size (.int .i64 m.frm) (.string m.body) (.string m.sig) 0 14 _ X5 Y5).mono ?_
          rintro e u' w'' ⟨rfl, rfl, hbz, Xz, Yz⟩
          refine ⟨.tuple (sgAns (.error 14)), sgCaught Xz Yz rfl rfl, ?_⟩
          rw [hfin.out]
          exact ⟨rfl, (B5).trans hbz⟩
        | true =>
          have hfin : Hid (ofSgR s = .ok m) := by show _ = _; unfold ofSgR; rw [if_neg hbig, hr]; simp only [htail, if_false, hok, if_true]
          rw [hok] at HI
          go_wp2_with fail
          refine (HI.out _).mono ?_
          rintro e w5 ⟨rfl, hb5⟩
          have X5 := X4.below hb5
          have Y5 := Y4.below hb5
          have B5 := B4.trans (hb5.mono (by omega))
          clear d0 d1 d2
          have d0 := X5.cell (o := 0) rfl
          have f0 := X5.frozen (o := 0)
          have d1 := X5.cell (o := 1) rfl
          have f1 := X5.frozen (o := 1)
          have d2 := X5.cell (o := 2) rfl
          have f2 := X5.frozen (o := 2)
          have y0 := Y5.cell (o := 0) rfl
          have g0 := Y5.frozen (o := 0)
          go_wp2
          refine leaves_cons (f := 89) (args := #[.pointer (some ⟨w.heap.size, 0, none⟩), .pointer (some ⟨w.heap.size + 1, 0, none⟩)]) (by simp) (by simp [go_sem]) ?_
          refine (ofSigned1_idle _ _ _).mono ?_
          rintro e u' w'' ⟨rfl, rfl, rfl⟩
          refine ⟨.tuple #[m.val, .int .i64 0], by simp [results, Tryz.results59, go_sem, Sg.val, d0, d1, d2, y0], ?_⟩
          rw [hfin.out]
          exact ⟨rfl, ((((B5.setCell (p := ⟨w.heap.size, 0, none⟩) (Nat.le_refl _) _).setCell (p := ⟨w.heap.size, 1, none⟩) (Nat.le_refl _) _).setCell (p := ⟨w.heap.size, 2, none⟩) (Nat.le_refl _) _).setCell (p := ⟨w.heap.size + 1, 0, none⟩) (by simp) _)⟩

theorem ofSg_bytes (m : Sg) (h : sgOk m = true) : ofSgR ⟨(sgB m).toArray⟩ = .ok m := by
  have hl := sgB_len m h
  have hr := rdSg_list ⟨(sgB m).toArray⟩ 0 (Nat.zero_le _)
  simp only [List.drop_zero, List.toList_toArray] at hr
  have ht := codecSg.there m [] (okSg_of m h)
  rw [List.append_nil] at ht
  rw [ht] at hr
  unfold ofSgR
  rw [arr_size, if_neg (by omega), hr]
  simp only [shiftR, Nat.zero_add]
  rw [if_neg (by omega), if_pos h]
theorem ofSgR_err {s : ByteArray} {er : Int} (h : ofSgR s = .error er) : er ≠ 0 := by
  unfold ofSgR at h
  split at h
  · simp at h; omega
  · rw [rdSg_list _ 0 (Nat.zero_le _)] at h
    cases e : rdSgL (s.data.toList.drop 0) with
    | error er' => rw [e] at h; simp only [shiftR, Except.error.injEq] at h; subst h; exact nz_sg _ _ e
    | ok p =>
      obtain ⟨b, c⟩ := p
      rw [e] at h
      simp only [shiftR] at h
      split at h
      · simp at h; omega
      · split at h
        · cases h
        · simp at h; omega
end Go.Proofs.YtocphdikppeijaaGreat
