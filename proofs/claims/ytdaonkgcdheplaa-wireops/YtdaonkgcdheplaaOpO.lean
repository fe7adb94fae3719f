/- OfOp: the request that bytes are. -/
import Derived.Test.YtdaonkgcdheplaaOpL
namespace Go.Proofs.Ytdaonkgcdheplaa
open Go.RowKit
set_option linter.unusedVariables false
set_option linter.unusedSimpArgs false

set_option maxRecDepth 100000 in
set_option maxHeartbeats 1000000 in
theorem ofOp1_panicking (b : Nat) (c0 c1 c2 c3 c4 c5 : Value) (z e0 : Int) (w : World) (X : Blk w b #[c0, c1, c2, c3, c4, c5] 41) (Y : Blk w (b + 1) #[.int .i64 z] 23) :
    CallsD Try.prog 49 #[.pointer (some ⟨b, 0, none⟩), .pointer (some ⟨b + 1, 0, none⟩)] (.panicking (gu e0)) w fun e u' w' =>
      e = .returned (.tuple #[]) ∧ u' = .panicking [{ v := .iface 89 (.agg #[.int .i64 e0]), recovered := true }] ∧ Below b w w' ∧
      Blk w' b #[.int .i64 0, .int .i64 0, .int .i64 0, .int .i64 0, .int .i64 0, .float .f64 0] 41 ∧ Blk w' (b + 1) #[.int .i64 e0] 23 := by
  refine callsD_of_wpS Try.func49 rfl fun c₀ cs hu => ?_
  apply wpS_seq
  apply wpS_region
  simp [wpOpsS, go_sem, recoverD, hu, gu, Try.ntmps49, Exit.thenS]
  show Code.wpS Try.prog _ _ { tmps := #[Value.pointer (some ⟨b, 0, none⟩), Value.pointer (some ⟨b + 1, 0, none⟩), .iface 89 (.agg #[.int .i64 e0]), .iface 89 (.agg #[.int .i64 e0]), undef, undef, undef, undef, undef], defers := [] } _ _
  refine wpS_of_wp ?_
  go_wp2_with fail
  refine (reason_calls e0 w).mono ?_
  rintro e w1 ⟨rfl, hb1⟩
  have X1 := X.below hb1
  have Y1 := Y.below hb1
  have hlt := X.lt
  have d0 := X1.cell (o := 0) rfl
  have f0 := X1.frozen (o := 0)
  have d1 := X1.cell (o := 1) rfl
  have f1 := X1.frozen (o := 1)
  have d2 := X1.cell (o := 2) rfl
  have f2 := X1.frozen (o := 2)
  have d3 := X1.cell (o := 3) rfl
  have f3 := X1.frozen (o := 3)
  have d4 := X1.cell (o := 4) rfl
  have f4 := X1.frozen (o := 4)
  have d5 := X1.cell (o := 5) rfl
  have f5 := X1.frozen (o := 5)
  have y0 := Y1.cell (o := 0) rfl
  have g0 := Y1.frozen (o := 0)
  go_wp2
  obtain ⟨W, hW, XW, hBW, _, _, hK⟩ := opOut (c0 := .int .i64 0) (c1 := .int .i64 0) (c2 := .int .i64 0) (c3 := .int .i64 0) (c4 := .int .i64 0) (c5 := .float .f64 0) X1
  rw [hW]
  have YW := hK (b + 1) _ _ (by omega) Y1
  refine ⟨rfl, _, rfl, .tuple #[], by simp [results, Try.results49], rfl, rfl, ?_, ?_, ?_⟩
  · exact (hBW b w (Nat.le_refl _) (hb1.mono (Nat.le_of_lt hlt))).setCell (p := ⟨b + 1, 0, none⟩) (by simp) _
  · exact XW.setOther (p := ⟨b + 1, 0, none⟩) (by simp) _
  · have hy := YW.set 0 (.int .i64 e0)
    simpa using hy

theorem ofOp1_idle (p q : Addr) (w : World) :
    CallsD Try.prog 49 #[.pointer (some p), .pointer (some q)] .returning w fun e u' w' => e = .returned (.tuple #[]) ∧ u' = .returning ∧ w' = w := by
  refine callsD_of_wpS Try.func49 rfl fun c₀ cs hu => ?_
  apply wpS_seq
  apply wpS_region
  simp [wpOpsS, go_sem, recoverD, hu, Try.ntmps49, Exit.thenS]
  show Code.wpS Try.prog _ _ { tmps := #[Value.pointer (some p), Value.pointer (some q), .nilIface, .nilIface, undef, undef, undef, undef, undef], defers := [] } _ _
  refine wpS_of_wp ?_
  go_wp2
  cases c₀
  simp_all [bodyPostS, results, Try.results49]

def zeroOo : Oo := ⟨0, 0, 0, 0, 0, 0⟩
/-- What a reading of a request answers. -/
def opAns (r : Except Int Oo) : Array Value :=
  match r with
  | .ok o => #[o.val, .int .i64 0]
  | .error er => #[zeroOo.val, .int .i64 er]

theorem opCaught {w w' : World} {er : Int} {o : Oo} (X : Blk w' w.heap.size #[.int .i64 o.k, .int .i64 o.g, .int .i64 o.a, .int .i64 o.d, .int .i64 o.i, .float .f64 o.pr] 41) (Y : Blk w' (w.heap.size + 1) #[.int .i64 er] 23) {t : Array Value} (h2 : t.getD 2 undef = .pointer (some ⟨w.heap.size, 0, none⟩)) (h3 : t.getD 3 undef = .pointer (some ⟨w.heap.size + 1, 0, none⟩)) :
    (results Try.f19 t).run Try.prog w' = .ok (.tuple #[o.val, .int .i64 er]) w' := by
  have a0 := X.cell (o := 0) rfl
  have a1 := X.cell (o := 1) rfl
  have a2 := X.cell (o := 2) rfl
  have a3 := X.cell (o := 3) rfl
  have a4 := X.cell (o := 4) rfl
  have a5 := X.cell (o := 5) rfl
  have y0 := Y.cell (o := 0) rfl
  simp only [Array.getD_eq_getD_getElem?] at h2 h3
  simp [results, Try.results19, go_sem, h2, h3, a0, a1, a2, a3, a4, a5, y0, Oo.val]

set_option maxRecDepth 100000 in
set_option maxHeartbeats 2000000 in
theorem ofOp_calls (s : ByteArray) (w : World) (hs : s.size ≤ maxLen) :
    Calls Try.prog 19 #[.string s] w fun e w' => e = .returned (.tuple (opAns (ofOpR s))) ∧ Below w.heap.size w w' := by
  have hmf : ∀ (fn : Fn) (first cap : Array Value) (w : World), (Instr.makeFunc fn first cap).run Try.prog w = .ok (.func fn first cap) w := fun _ _ _ _ => rfl
  have X0 := (blk_new w w.heap.size #[.int .i64 0, .int .i64 0, .int .i64 0, .int .i64 0, .int .i64 0, .float .f64 0] 41 rfl).alloc (.cells #[.int .i64 0] 23)
  have Y0 := blk_new (w.alloc zOp) (w.heap.size + 1) #[.int .i64 0] 23 (by simp)
  have B0 : Below w.heap.size w ((w.alloc zOp).alloc (.cells #[.int .i64 0] 23)) := by go_grown
  by_cases hbig : 256 < s.size
  · have hfin : Hid (ofOpR s = .error 4) := by show _ = _; unfold ofOpR; rw [if_pos hbig]
    go_enter_defers Try.func19, Try.ntmps19
    go_wp2_with fail
    refine (readerOf_bad s 256 _ (by omega)).mono ?_
    rintro e w1 ⟨rfl, rfl⟩
    refine leaves_cons (f := 49) (args := #[.pointer (some ⟨w.heap.size, 0, none⟩), .pointer (some ⟨w.heap.size + 1, 0, none⟩)]) (by simp) (by simp [go_sem]) ?_
    refine (ofOp1_panicking w.heap.size _ _ _ _ _ _ 0 4 _ X0 Y0).mono ?_
    rintro e u' w'' ⟨rfl, rfl, hbz, Xz, Yz⟩
    refine ⟨.tuple #[zeroOo.val, .int .i64 4], opCaught (o := zeroOo) Xz Yz rfl rfl, ?_⟩
    rw [hfin.out]
    exact ⟨rfl, (B0).trans hbz⟩
  · go_enter_defers Try.func19, Try.ntmps19
    go_wp2_with fail
    refine (readerOf_ok s 256 _ (by omega)).mono ?_
    rintro e w1 ⟨rfl, rfl⟩
    have R1 := rdr_new s 0 ((w.alloc zOp).alloc (.cells #[.int .i64 0] 23)) 92 (w.heap.size + 2) (by simp)
    have X1 := X0.alloc (.cells #[.string s, .int .i64 0] 92)
    have Y1 := Y0.alloc (.cells #[.string s, .int .i64 0] 92)
    have B1 := B0.alloc (by simp; omega) (.cells #[.string s, .int .i64 0] 92)
    clear X0 Y0 B0
    go_wp2_with fail
    refine (opRd_calls (w.heap.size + 2) s 0 _ R1 hs (Nat.zero_le _)).mono ?_
    cases hr : rdOp s 0 with
    | error er =>
      have hfin : Hid (ofOpR s = .error er) := by show _ = _; unfold ofOpR; rw [if_neg hbig, hr]
      rintro e w2 ⟨rfl, ho⟩
      refine leaves_cons (f := 49) (args := #[.pointer (some ⟨w.heap.size, 0, none⟩), .pointer (some ⟨w.heap.size + 1, 0, none⟩)]) (by simp) (by simp [go_sem]) ?_
      refine (ofOp1_panicking w.heap.size _ _ _ _ _ _ 0 er _ (X1.off ho (by omega)) (Y1.off ho (by omega))).mono ?_
      rintro e u' w'' ⟨rfl, rfl, hbz, Xz, Yz⟩
      refine ⟨.tuple #[zeroOo.val, .int .i64 er], opCaught (o := zeroOo) Xz Yz rfl rfl, ?_⟩
      rw [hfin.out]
      exact ⟨rfl, (ho.below (by omega) B1 (by simp; omega)).trans hbz⟩
    | ok p =>
      obtain ⟨o, nx⟩ := p
      rintro e w2 ⟨rfl, ho, R2⟩
      have X2 := X1.off ho (by omega)
      have Y2 := Y1.off ho (by omega)
      have B2 := ho.below (by omega) B1 (by simp; omega)
      have hz2 := ho.size
      simp at hz2
      have d0 := X2.cell (o := 0) rfl
      have f0 := X2.frozen (o := 0)
      have d1 := X2.cell (o := 1) rfl
      have f1 := X2.frozen (o := 1)
      have d2 := X2.cell (o := 2) rfl
      have f2 := X2.frozen (o := 2)
      have d3 := X2.cell (o := 3) rfl
      have f3 := X2.frozen (o := 3)
      have d4 := X2.cell (o := 4) rfl
      have f4 := X2.frozen (o := 4)
      have d5 := X2.cell (o := 5) rfl
      have f5 := X2.frozen (o := 5)
      unfold Oo.val
      go_wp2_with fail
      obtain ⟨W3, hW3, X3, hB3, hR3, _, hK3⟩ := opOut (c0 := .int .i64 o.k) (c1 := .int .i64 o.g) (c2 := .int .i64 o.a) (c3 := .int .i64 o.d) (c4 := .int .i64 o.i) (c5 := .float .f64 o.pr) X2
      have Y3 := hK3 (w.heap.size + 1) _ _ (by omega) Y2
      have R3 := hR3 _ _ _ (by omega) R2
      have B3 := hB3 _ _ (Nat.le_refl _) B2
      have Z3 := R3.lt
      rw [hW3]
      clear hW3 X2 Y2 R2 B2 X1 Y1 R1 B1 d0 f0 d1 f1 d2 f2 d3 f3 d4 f4 d5 f5 hB3 hR3 hK3
      refine (end_calls (w.heap.size + 2) s nx _ R3).mono ?_
      by_cases htail : nx < s.size
      · have hfin : Hid (ofOpR s = .error 12) := by show _ = _; unfold ofOpR; rw [if_neg hbig, hr]; simp only [htail, if_true]
        rintro e w4 ⟨h4, ho4, R4⟩
        rw [if_pos htail] at h4
        subst h4
        refine leaves_cons (f := 49) (args := #[.pointer (some ⟨w.heap.size, 0, none⟩), .pointer (some ⟨w.heap.size + 1, 0, none⟩)]) (by simp) (by simp [go_sem]) ?_
        refine (ofOp1_panicking w.heap.size _ _ _ _ _ _ 0 12 _ (X3.off ho4 (by omega)) (Y3.off ho4 (by omega))).mono ?_
        rintro e u' w'' ⟨rfl, rfl, hbz, Xz, Yz⟩
        refine ⟨.tuple #[zeroOo.val, .int .i64 12], opCaught (o := zeroOo) Xz Yz rfl rfl, ?_⟩
        rw [hfin.out]
        exact ⟨rfl, (ho4.below (by omega) B3 (by omega)).trans hbz⟩
      · have hfin : Hid (ofOpR s = .ok o) := by show _ = _; unfold ofOpR; rw [if_neg hbig, hr]; simp only [htail, if_false]
        rintro e w4 ⟨h4, ho4, R4⟩
        rw [if_neg htail] at h4
        subst h4
        have X5 := X3.off ho4 (by omega)
        have Y5 := Y3.off ho4 (by omega)
        have B5 := ho4.below (by omega) B3 (by omega)
        clear X3 Y3 B3 R3 R4
        have d0 := X5.cell (o := 0) rfl
        have f0 := X5.frozen (o := 0)
        have d1 := X5.cell (o := 1) rfl
        have f1 := X5.frozen (o := 1)
        have d2 := X5.cell (o := 2) rfl
        have f2 := X5.frozen (o := 2)
        have d3 := X5.cell (o := 3) rfl
        have f3 := X5.frozen (o := 3)
        have d4 := X5.cell (o := 4) rfl
        have f4 := X5.frozen (o := 4)
        have d5 := X5.cell (o := 5) rfl
        have f5 := X5.frozen (o := 5)
        have y0 := Y5.cell (o := 0) rfl
        have g0 := Y5.frozen (o := 0)
        go_wp2
        obtain ⟨W6, hW6, X6, hB6, _, _, hK6⟩ := opOut (c0 := .int .i64 o.k) (c1 := .int .i64 o.g) (c2 := .int .i64 o.a) (c3 := .int .i64 o.d) (c4 := .int .i64 o.i) (c5 := .float .f64 o.pr) X5
        have Y6 := (hK6 (w.heap.size + 1) _ _ (by omega) Y5).set 0 (.int .i64 0)
        simp only [List.setIfInBounds_toArray, List.set_cons_zero] at Y6
        have X7 := X6.setOther (p := ⟨w.heap.size + 1, 0, none⟩) (by simp) (.int .i64 0)
        have B7 := (hB6 _ _ (Nat.le_refl _) B5).setCell (p := ⟨w.heap.size + 1, 0, none⟩) (by simp) (.int .i64 0)
        rw [hW6]
        refine leaves_cons (f := 49) (args := #[.pointer (some ⟨w.heap.size, 0, none⟩), .pointer (some ⟨w.heap.size + 1, 0, none⟩)]) (by simp) (by simp [go_sem]) ?_
        refine (ofOp1_idle _ _ _).mono ?_
        rintro e u' w'' ⟨rfl, rfl, rfl⟩
        refine ⟨.tuple #[o.val, .int .i64 0], opCaught (o := o) X7 Y6 rfl rfl, ?_⟩
        rw [hfin.out]
        exact ⟨rfl, B7⟩
end Go.Proofs.Ytdaonkgcdheplaa
