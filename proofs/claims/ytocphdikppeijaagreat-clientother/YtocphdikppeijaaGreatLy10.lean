/- Of: bytes as a body, or why not. -/
import Derived.Test.YtocphdikppeijaaGreatLy09
namespace Go.Proofs.YtocphdikppeijaaGreat
open Go.RowKit
set_option linter.unusedVariables false
set_option linter.unusedSimpArgs false

def zeroBd : Bd := ⟨0, 0, 0, 0, 0, ⟨#[]⟩, ⟨#[]⟩, []⟩

set_option maxHeartbeats 2000000 in
theorem of1_panicking (b : Nat) (c0 c1 c2 c3 c4 c5 c6 c7 : Value) (z e0 : Int) (w : World) (X : Blk w b #[c0, c1, c2, c3, c4, c5, c6, c7] 54) (Y : Blk w (b + 1) #[.int .i64 z] 35) :
    CallsD Tryz.prog 118 #[.pointer (some ⟨b, 0, none⟩), .pointer (some ⟨b + 1, 0, none⟩)] (.panicking (gu e0)) w fun e u' w' =>
      e = .returned (.tuple #[]) ∧ u' = .panicking [{ v := .iface 163 (.agg #[.int .i64 e0]), recovered := true }] ∧ Below b w w' ∧
      Blk w' b #[.int .i64 0, .int .i64 0, .int .i64 0, .int .i64 0, .int .i64 0, .string ⟨#[]⟩, .string ⟨#[]⟩, .slice none 0 0] 54 ∧ Blk w' (b + 1) #[.int .i64 e0] 35 := by
  refine callsD_of_wpS Tryz.func118 rfl fun c₀ cs hu => ?_
  apply wpS_seq
  apply wpS_region
  simp [wpOpsS, go_sem, recoverD, hu, gu, Tryz.ntmps118, Exit.thenS]
  show Code.wpS Tryz.prog _ _ { tmps := #[Value.pointer (some ⟨b, 0, none⟩), Value.pointer (some ⟨b + 1, 0, none⟩), .iface 163 (.agg #[.int .i64 e0]), .iface 163 (.agg #[.int .i64 e0]), undef, undef, undef, undef, undef], defers := [] } _ _
  refine wpS_of_wp ?_
  go_wp2_with fail
  refine (reason_calls e0 w).mono ?_
  rintro e w1 ⟨rfl, hb1⟩
  have X1 := X.below hb1
  have Y1 := Y.below hb1
  have hlt := X.lt
  have d0 := X1.cell (o := 0) rfl
  have f0 := X1.frozen (o := 0)
  have d1 := X1.cell (o := 1) rfl
  have f1 := X1.frozen (o := 1)
  have d2 := X1.cell (o := 2) rfl
  have f2 := X1.frozen (o := 2)
  have d3 := X1.cell (o := 3) rfl
  have f3 := X1.frozen (o := 3)
  have d4 := X1.cell (o := 4) rfl
  have f4 := X1.frozen (o := 4)
  have d5 := X1.cell (o := 5) rfl
  have f5 := X1.frozen (o := 5)
  have d6 := X1.cell (o := 6) rfl
  have f6 := X1.frozen (o := 6)
  have d7 := X1.cell (o := 7) rfl
  have f7 := X1.frozen (o := 7)
  have y0 := Y1.cell (o := 0) rfl
  have g0 := Y1.frozen (o := 0)
  go_wp2
  refine ⟨rfl, _, rfl, .tuple #[], by simp [results, Tryz.results118], rfl, rfl, ?_, ?_, ?_⟩
  · exact ((((((((((hb1.mono (Nat.le_of_lt hlt)).setCell (p := ⟨b, 0, none⟩) (Nat.le_refl _) _).setCell (p := ⟨b, 1, none⟩) (Nat.le_refl _) _).setCell (p := ⟨b, 2, none⟩) (Nat.le_refl _) _).setCell (p := ⟨b, 3, none⟩) (Nat.le_refl _) _).setCell (p := ⟨b, 4, none⟩) (Nat.le_refl _) _).setCell (p := ⟨b, 5, none⟩) (Nat.le_refl _) _).setCell (p := ⟨b, 6, none⟩) (Nat.le_refl _) _).setCell (p := ⟨b, 7, none⟩) (Nat.le_refl _) _).setCell (p := ⟨b + 1, 0, none⟩) (by simp) _)
  · have hx := (((((((((X1.set 0 (.int .i64 0)).set 1 (.int .i64 0)).set 2 (.int .i64 0)).set 3 (.int .i64 0)).set 4 (.int .i64 0)).set 5 (.string ⟨#[]⟩)).set 6 (.string ⟨#[]⟩)).set 7 (.slice none 0 0)).setOther (p := ⟨b + 1, 0, none⟩) (by simp) (.int .i64 e0))
    simpa using hx
  · have hy := (((((((((Y1.setOther (p := ⟨b, 0, none⟩) (by simp) (.int .i64 0)).setOther (p := ⟨b, 1, none⟩) (by simp) (.int .i64 0)).setOther (p := ⟨b, 2, none⟩) (by simp) (.int .i64 0)).setOther (p := ⟨b, 3, none⟩) (by simp) (.int .i64 0)).setOther (p := ⟨b, 4, none⟩) (by simp) (.int .i64 0)).setOther (p := ⟨b, 5, none⟩) (by simp) (.string ⟨#[]⟩)).setOther (p := ⟨b, 6, none⟩) (by simp) (.string ⟨#[]⟩)).setOther (p := ⟨b, 7, none⟩) (by simp) (.slice none 0 0)).set 0 (.int .i64 e0))
    simpa using hy

theorem of1_idle (p q : Addr) (w : World) :
    CallsD Tryz.prog 118 #[.pointer (some p), .pointer (some q)] .returning w fun e u' w' => e = .returned (.tuple #[]) ∧ u' = .returning ∧ w' = w := by
  refine callsD_of_wpS Tryz.func118 rfl fun c₀ cs hu => ?_
  apply wpS_seq
  apply wpS_region
  simp [wpOpsS, go_sem, recoverD, hu, Tryz.ntmps118, Exit.thenS]
  show Code.wpS Tryz.prog _ _ { tmps := #[Value.pointer (some p), Value.pointer (some q), .nilIface, .nilIface, undef, undef, undef, undef, undef], defers := [] } _ _
  refine wpS_of_wp ?_
  go_wp2
  cases c₀
  simp_all [bodyPostS, results, Tryz.results118]

/-- What Of reads. -/
def ofR (s : ByteArray) : Except Int Bd :=
  if 1048576 < s.size then .error 4
  else match rdBd s 0 with
    | .error e => .error e
    | .ok (b, nx) => if nx < s.size then .error 12 else if right b = 0 then .ok b else .error (right b)

def ReadsO (r : Except Int Bd) (w : World) (e : Ending) (w' : World) : Prop :=
  match r with
  | .ok b => ∃ lv, e = .returned (.tuple #[b.val lv, .int .i64 0]) ∧ w'.ownsRow w.heap.size 49 3 lv b.list.length (sgCells b.list) ∧ Below w.heap.size w w'
  | .error er => e = .returned (.tuple #[zeroBd.val (.slice none 0 0), .int .i64 er]) ∧ Below w.heap.size w w'

end Go.Proofs.YtocphdikppeijaaGreat

namespace Go.Proofs.YtocphdikppeijaaGreat
open Go.RowKit
set_option linter.unusedVariables false
set_option linter.unusedSimpArgs false

theorem caught_results {w w' : World} {er : Int} (X : Blk w' w.heap.size #[.int .i64 0, .int .i64 0, .int .i64 0, .int .i64 0, .int .i64 0, .string ⟨#[]⟩, .string ⟨#[]⟩, .slice none 0 0] 54) (Y : Blk w' (w.heap.size + 1) #[.int .i64 er] 35) {t : Array Value} (h2 : t.getD 2 undef = .pointer (some ⟨w.heap.size, 0, none⟩) ) (h3 : t.getD 3 undef = .pointer (some ⟨w.heap.size + 1, 0, none⟩)) :
    (results Tryz.f93 t).run Tryz.prog w' = .ok (.tuple #[zeroBd.val (.slice none 0 0), .int .i64 er]) w' := by
  have a0 := X.cell (o := 0) rfl
  have a1 := X.cell (o := 1) rfl
  have a2 := X.cell (o := 2) rfl
  have a3 := X.cell (o := 3) rfl
  have a4 := X.cell (o := 4) rfl
  have a5 := X.cell (o := 5) rfl
  have a6 := X.cell (o := 6) rfl
  have a7 := X.cell (o := 7) rfl
  have y0 := Y.cell (o := 0) rfl
  simp only [Array.getD_eq_getD_getElem?] at h2 h3
  simp [results, Tryz.results93, go_sem, h2, h3, a0, a1, a2, a3, a4, a5, a6, a7, y0, zeroBd, Bd.val]

set_option maxHeartbeats 2000000 in
theorem of_calls (s : ByteArray) (w : World) (hs : s.size ≤ maxLen) :
    Calls Tryz.prog 93 #[.string s] w (ReadsO (ofR s) w) := by
  have hmf : ∀ (fn : Fn) (first cap : Array Value) (w : World), (Instr.makeFunc fn first cap).run Tryz.prog w = .ok (.func fn first cap) w := fun _ _ _ _ => rfl
  have X0 := (blk_new w w.heap.size #[.int .i64 0, .int .i64 0, .int .i64 0, .int .i64 0, .int .i64 0, .string ⟨#[]⟩, .string ⟨#[]⟩, .slice none 0 0] 54 rfl).alloc (.cells #[.int .i64 0] 35)
  have Y0 := blk_new (w.alloc (.cells #[.int .i64 0, .int .i64 0, .int .i64 0, .int .i64 0, .int .i64 0, .string ⟨#[]⟩, .string ⟨#[]⟩, .slice none 0 0] 54)) (w.heap.size + 1) #[.int .i64 0] 35 (by simp)
  have B0 : Below w.heap.size w ((w.alloc (.cells #[.int .i64 0, .int .i64 0, .int .i64 0, .int .i64 0, .int .i64 0, .string ⟨#[]⟩, .string ⟨#[]⟩, .slice none 0 0] 54)).alloc (.cells #[.int .i64 0] 35)) := by go_grown
  by_cases hbig : 1048576 < s.size
  · have hfin : Hid (ofR s = .error 4) := by show _ = _; unfold ofR; rw [if_pos hbig]
    go_enter_defers Tryz.func93, Tryz.ntmps93
    go_wp2_with fail
    refine (readerOf_bad s 1048576 _ (by omega)).mono ?_
    rintro e w1 ⟨rfl, rfl⟩
    refine leaves_cons (f := 118) (args := #[.pointer (some ⟨w.heap.size, 0, none⟩), .pointer (some ⟨w.heap.size + 1, 0, none⟩)]) (by simp) (by simp [go_sem]) ?_
    refine (of1_panicking w.heap.size (.int .i64 0) (.int .i64 0) (.int .i64 0) (.int .i64 0) (.int .i64 0) (.string ⟨#[]⟩) (.string ⟨#[]⟩) (.slice none 0 0) 0 4 _ X0 Y0).mono ?_
    rintro e u' w'' ⟨rfl, rfl, hbz, Xz, Yz⟩
    refine ⟨.tuple #[zeroBd.val (.slice none 0 0), .int .i64 4], caught_results Xz Yz rfl rfl, ?_⟩
    unfold ReadsO
    rw [hfin.out]
    exact ⟨rfl, (B0).trans hbz⟩
  · go_enter_defers Tryz.func93, Tryz.ntmps93
    go_wp2_with fail
    refine (readerOf_ok s 1048576 _ (by omega)).mono ?_
    rintro e w1 ⟨rfl, rfl⟩
    have R1 := rdr_new s 0 ((w.alloc (.cells #[.int .i64 0, .int .i64 0, .int .i64 0, .int .i64 0, .int .i64 0, .string ⟨#[]⟩, .string ⟨#[]⟩, .slice none 0 0] 54)).alloc (.cells #[.int .i64 0] 35)) 166 (w.heap.size + 2) (by simp)
    have X1 := X0.alloc (.cells #[.string s, .int .i64 0] 166)
    have Y1 := Y0.alloc (.cells #[.string s, .int .i64 0] 166)
    have B1 := B0.alloc (by simp; omega) (.cells #[.string s, .int .i64 0] 166)
    clear X0 Y0 B0
    go_wp2_with fail
    refine (body_calls (w.heap.size + 2) s 0 _ R1 hs (Nat.zero_le _)).mono ?_
    cases hr : rdBd s 0 with
    | error er =>
      have hfin : Hid (ofR s = .error er) := by show _ = _; unfold ofR; rw [if_neg hbig, hr]
      rintro e w2 ⟨rfl, ho⟩
      refine leaves_cons (f := 118) (args := #[.pointer (some ⟨w.heap.size, 0, none⟩), .pointer (some ⟨w.heap.size + 1, 0, none⟩)]) (by simp) (by simp [go_sem]) ?_
      refine (of1_panicking w.heap.size (.int .i64 0) (.int .i64 0) (.int .i64 0) (.int .i64 0) (.int .i64 0) (.string ⟨#[]⟩) (.string ⟨#[]⟩) (.slice none 0 0) 0 er _ (X1.off ho (by omega)) (Y1.off ho (by omega))).mono ?_
      rintro e u' w'' ⟨rfl, rfl, hbz, Xz, Yz⟩
      refine ⟨.tuple #[zeroBd.val (.slice none 0 0), .int .i64 er], caught_results Xz Yz rfl rfl, ?_⟩
      unfold ReadsO
      rw [hfin.out]
      exact ⟨rfl, (ho.below (by omega) B1 (by simp; omega)).trans hbz⟩
    | ok p =>
      obtain ⟨bd, nx⟩ := p
      rintro e w2 ⟨lv, rfl, hown, ho, R2⟩
      obtain ⟨pp, cp, rfl⟩ := sgs_of_own' hown
      have X2 := X1.off ho (by omega)
      have Y2 := Y1.off ho (by omega)
      have B2 := ho.below (by omega) B1 (by simp; omega)
      have hz2 := ho.size
      simp at hz2
      have d0 := X2.cell (o := 0) rfl
      have f0 := X2.frozen (o := 0)
      have d1 := X2.cell (o := 1) rfl
      have f1 := X2.frozen (o := 1)
      have d2 := X2.cell (o := 2) rfl
      have f2 := X2.frozen (o := 2)
      have d3 := X2.cell (o := 3) rfl
      have f3 := X2.frozen (o := 3)
      have d4 := X2.cell (o := 4) rfl
      have f4 := X2.frozen (o := 4)
      have d5 := X2.cell (o := 5) rfl
      have f5 := X2.frozen (o := 5)
      have d6 := X2.cell (o := 6) rfl
      have f6 := X2.frozen (o := 6)
      have d7 := X2.cell (o := 7) rfl
      have f7 := X2.frozen (o := 7)
      unfold Bd.val
      go_wp2_with fail
      obtain ⟨W3, hW3, X3, Y3, R3, B3, own3, Z3⟩ : ∃ W3, ((((((((w2.setCell ⟨w.heap.size, 0, none⟩ (.int .i64 bd.kind)).setCell ⟨w.heap.size, 1, none⟩ (.int .i64 bd.view)).setCell ⟨w.heap.size, 2, none⟩ (.int .i64 bd.seq)).setCell ⟨w.heap.size, 3, none⟩ (.int .i64 bd.client)).setCell ⟨w.heap.size, 4, none⟩ (.int .i64 bd.stamp)).setCell ⟨w.heap.size, 5, none⟩ (.string bd.digest)).setCell ⟨w.heap.size, 6, none⟩ (.string bd.text)).setCell ⟨w.heap.size, 7, none⟩ (.slice pp bd.list.length cp)) = W3 ∧ Blk W3 w.heap.size #[.int .i64 bd.kind, .int .i64 bd.view, .int .i64 bd.seq, .int .i64 bd.client, .int .i64 bd.stamp, .string bd.digest, .string bd.text, .slice pp bd.list.length cp] 54 ∧ Blk W3 (w.heap.size + 1) #[.int .i64 0] 35 ∧ Rdr W3 (w.heap.size + 2) s nx ∧ Below w.heap.size w W3 ∧ W3.ownsRow (w.heap.size + 3) 49 3 (.slice pp bd.list.length cp) bd.list.length (sgCells bd.list) ∧ w.heap.size + 3 ≤ W3.heap.size := by
        refine ⟨_, rfl, ?_, ?_, ?_, ?_, ?_, ?_⟩
        · have hx := ((((((((X2.set 0 (.int .i64 bd.kind)).set 1 (.int .i64 bd.view)).set 2 (.int .i64 bd.seq)).set 3 (.int .i64 bd.client)).set 4 (.int .i64 bd.stamp)).set 5 (.string bd.digest)).set 6 (.string bd.text)).set 7 (.slice pp bd.list.length cp))
          simpa using hx
        · exact ((((((((Y2.setOther (p := ⟨w.heap.size, 0, none⟩) (by simp) (.int .i64 bd.kind)).setOther (p := ⟨w.heap.size, 1, none⟩) (by simp) (.int .i64 bd.view)).setOther (p := ⟨w.heap.size, 2, none⟩) (by simp) (.int .i64 bd.seq)).setOther (p := ⟨w.heap.size, 3, none⟩) (by simp) (.int .i64 bd.client)).setOther (p := ⟨w.heap.size, 4, none⟩) (by simp) (.int .i64 bd.stamp)).setOther (p := ⟨w.heap.size, 5, none⟩) (by simp) (.string bd.digest)).setOther (p := ⟨w.heap.size, 6, none⟩) (by simp) (.string bd.text)).setOther (p := ⟨w.heap.size, 7, none⟩) (by simp) (.slice pp bd.list.length cp))
        · exact ((((((((R2.setOther (p := ⟨w.heap.size, 0, none⟩) (by simp) (.int .i64 bd.kind)).setOther (p := ⟨w.heap.size, 1, none⟩) (by simp) (.int .i64 bd.view)).setOther (p := ⟨w.heap.size, 2, none⟩) (by simp) (.int .i64 bd.seq)).setOther (p := ⟨w.heap.size, 3, none⟩) (by simp) (.int .i64 bd.client)).setOther (p := ⟨w.heap.size, 4, none⟩) (by simp) (.int .i64 bd.stamp)).setOther (p := ⟨w.heap.size, 5, none⟩) (by simp) (.string bd.digest)).setOther (p := ⟨w.heap.size, 6, none⟩) (by simp) (.string bd.text)).setOther (p := ⟨w.heap.size, 7, none⟩) (by simp) (.slice pp bd.list.length cp))
        · exact ((((((((B2.setCell (p := ⟨w.heap.size, 0, none⟩) (Nat.le_refl _) (.int .i64 bd.kind)).setCell (p := ⟨w.heap.size, 1, none⟩) (Nat.le_refl _) (.int .i64 bd.view)).setCell (p := ⟨w.heap.size, 2, none⟩) (Nat.le_refl _) (.int .i64 bd.seq)).setCell (p := ⟨w.heap.size, 3, none⟩) (Nat.le_refl _) (.int .i64 bd.client)).setCell (p := ⟨w.heap.size, 4, none⟩) (Nat.le_refl _) (.int .i64 bd.stamp)).setCell (p := ⟨w.heap.size, 5, none⟩) (Nat.le_refl _) (.string bd.digest)).setCell (p := ⟨w.heap.size, 6, none⟩) (Nat.le_refl _) (.string bd.text)).setCell (p := ⟨w.heap.size, 7, none⟩) (Nat.le_refl _) (.slice pp bd.list.length cp))
        · exact ownsRow_weak (ownsRow_setCell_below (ownsRow_setCell_below (ownsRow_setCell_below (ownsRow_setCell_below (ownsRow_setCell_below (ownsRow_setCell_below (ownsRow_setCell_below (ownsRow_setCell_below hown (a := ⟨w.heap.size, 0, none⟩) (by simp; omega) (.int .i64 bd.kind)) (a := ⟨w.heap.size, 1, none⟩) (by simp; omega) (.int .i64 bd.view)) (a := ⟨w.heap.size, 2, none⟩) (by simp; omega) (.int .i64 bd.seq)) (a := ⟨w.heap.size, 3, none⟩) (by simp; omega) (.int .i64 bd.client)) (a := ⟨w.heap.size, 4, none⟩) (by simp; omega) (.int .i64 bd.stamp)) (a := ⟨w.heap.size, 5, none⟩) (by simp; omega) (.string bd.digest)) (a := ⟨w.heap.size, 6, none⟩) (by simp; omega) (.string bd.text)) (a := ⟨w.heap.size, 7, none⟩) (by simp; omega) (.slice pp bd.list.length cp)) (by simp)
        · simp [World.setCell]; omega
      rw [hW3]
      clear hW3 X2 Y2 R2 B2 hown ho X1 Y1 R1 B1 d0 f0 d1 f1 d2 f2 d3 f3 d4 f4 d5 f5 d6 f6 d7 f7
      obtain ⟨b1, b2, b3, b4, b5⟩ := rdBd_le hr
      have hsg : ∀ m ∈ bd.list, m.body.size ≤ maxLen ∧ m.sig.size ≤ maxLen := fun m hm => by
        have := b5 m hm
        unfold maxLen; omega
      refine (end_calls (w.heap.size + 2) s nx _ R3).mono ?_
      by_cases htail : nx < s.size
      · have hfin : Hid (ofR s = .error 12) := by show _ = _; unfold ofR; rw [if_neg hbig, hr]; simp only [htail, if_true]
        rintro e w4 ⟨h4, ho4, R4⟩
        rw [if_pos htail] at h4
        subst h4
        refine leaves_cons (f := 118) (args := #[.pointer (some ⟨w.heap.size, 0, none⟩), .pointer (some ⟨w.heap.size + 1, 0, none⟩)]) (by simp) (by simp [go_sem]) ?_
        refine (of1_panicking w.heap.size (.int .i64 bd.kind) (.int .i64 bd.view) (.int .i64 bd.seq) (.int .i64 bd.client) (.int .i64 bd.stamp) (.string bd.digest) (.string bd.text) (.slice pp bd.list.length cp) 0 12 _ (X3.off ho4 (by omega)) (Y3.off ho4 (by omega))).mono ?_
        rintro e u' w'' ⟨rfl, rfl, hbz, Xz, Yz⟩
        refine ⟨.tuple #[zeroBd.val (.slice none 0 0), .int .i64 12], caught_results Xz Yz rfl rfl, ?_⟩
        unfold ReadsO
        rw [hfin.out]
        exact ⟨rfl, (ho4.below (by omega) B3 (by omega)).trans hbz⟩
      · rintro e w4 ⟨h4, ho4, R4⟩
        rw [if_neg htail] at h4
        subst h4
        have X4 := X3.off ho4 (by omega)
        have Y4 := Y3.off ho4 (by omega)
        have B4 := ho4.below (by omega) B3 (by omega)
        have own4 := own3.kept ho4.by (Or.inr (fun e => by have := (own3.lt _ e).1; omega))
        have Z4 := Nat.le_trans Z3 ho4.size
        clear X3 Y3 B3 own3 R3 R4
        have d0 := X4.cell (o := 0) rfl
        have d1 := X4.cell (o := 1) rfl
        have d2 := X4.cell (o := 2) rfl
        have d3 := X4.cell (o := 3) rfl
        have d4 := X4.cell (o := 4) rfl
        have d5 := X4.cell (o := 5) rfl
        have d6 := X4.cell (o := 6) rfl
        have d7 := X4.cell (o := 7) rfl
        go_wp2_with fail
        refine (right_calls bd (.slice pp bd.list.length cp) _ (by unfold maxLen; omega) (by unfold maxLen; omega) (by omega) (sgs_of_own own4 hsg)).mono ?_
        rintro e w5 ⟨rfl, hb5⟩
        have X5 := X4.below hb5
        have Y5 := Y4.below hb5
        have B5 := B4.trans (hb5.mono (by omega))
        have own5 := own4.kept (w' := w5) (row := none) ⟨hb5.os, hb5.tape, hb5.output, hb5.size, fun k hk _ => hb5.block k hk⟩ (by
          rcases own4.2 with ⟨h, _⟩ | ⟨g, cap, cur, h, _⟩
          · rw [h]; exact Or.inl rfl
          · rw [h]; exact Or.inr (by simp [Value.ownBlock]))
        clear X4 Y4 B4 own4 d0 d1 d2 d3 d4 d5 d6 d7
        go_wp2_with fail
        refine (mind_calls (right bd) _).mono ?_
        by_cases hok : right bd = 0
        · have hfin : Hid (ofR s = .ok bd) := by show _ = _; unfold ofR; rw [if_neg hbig, hr]; simp only [htail, if_false, hok, if_true]
          rintro e w6 ⟨h6, h6w⟩
          rw [if_pos hok] at h6
          subst h6 h6w
          have d0 := X5.cell (o := 0) rfl
          have f0 := X5.frozen (o := 0)
          have d1 := X5.cell (o := 1) rfl
          have f1 := X5.frozen (o := 1)
          have d2 := X5.cell (o := 2) rfl
          have f2 := X5.frozen (o := 2)
          have d3 := X5.cell (o := 3) rfl
          have f3 := X5.frozen (o := 3)
          have d4 := X5.cell (o := 4) rfl
          have f4 := X5.frozen (o := 4)
          have d5 := X5.cell (o := 5) rfl
          have f5 := X5.frozen (o := 5)
          have d6 := X5.cell (o := 6) rfl
          have f6 := X5.frozen (o := 6)
          have d7 := X5.cell (o := 7) rfl
          have f7 := X5.frozen (o := 7)
          have y0 := Y5.cell (o := 0) rfl
          have g0 := Y5.frozen (o := 0)
          go_wp2
          refine leaves_cons (f := 118) (args := #[.pointer (some ⟨w.heap.size, 0, none⟩), .pointer (some ⟨w.heap.size + 1, 0, none⟩)]) (by simp) (by simp [go_sem]) ?_
          refine (of1_idle _ _ _).mono ?_
          rintro e u' w'' ⟨rfl, rfl, rfl⟩
          refine ⟨.tuple #[bd.val (.slice pp bd.list.length cp), .int .i64 0], by simp [results, Tryz.results93, go_sem, Bd.val, d0, d1, d2, d3, d4, d5, d6, d7, y0], ?_⟩
          unfold ReadsO
          rw [hfin.out]
          exact ⟨_, rfl, ownsRow_weak (ownsRow_setCell_below (ownsRow_setCell_below (ownsRow_setCell_below (ownsRow_setCell_below (ownsRow_setCell_below (ownsRow_setCell_below (ownsRow_setCell_below (ownsRow_setCell_below (ownsRow_setCell_below own5 (a := ⟨w.heap.size, 0, none⟩) (by simp) _) (a := ⟨w.heap.size, 1, none⟩) (by simp) _) (a := ⟨w.heap.size, 2, none⟩) (by simp) _) (a := ⟨w.heap.size, 3, none⟩) (by simp) _) (a := ⟨w.heap.size, 4, none⟩) (by simp) _) (a := ⟨w.heap.size, 5, none⟩) (by simp) _) (a := ⟨w.heap.size, 6, none⟩) (by simp) _) (a := ⟨w.heap.size, 7, none⟩) (by simp) _) (a := ⟨w.heap.size + 1, 0, none⟩) (by simp) _) (by omega), (((((((((B5.setCell (p := ⟨w.heap.size, 0, none⟩) (Nat.le_refl _) _).setCell (p := ⟨w.heap.size, 1, none⟩) (Nat.le_refl _) _).setCell (p := ⟨w.heap.size, 2, none⟩) (Nat.le_refl _) _).setCell (p := ⟨w.heap.size, 3, none⟩) (Nat.le_refl _) _).setCell (p := ⟨w.heap.size, 4, none⟩) (Nat.le_refl _) _).setCell (p := ⟨w.heap.size, 5, none⟩) (Nat.le_refl _) _).setCell (p := ⟨w.heap.size, 6, none⟩) (Nat.le_refl _) _).setCell (p := ⟨w.heap.size, 7, none⟩) (Nat.le_refl _) _).setCell (p := ⟨w.heap.size + 1, 0, none⟩) (by simp) _)⟩
        · have hfin : Hid (ofR s = .error (right bd)) := by show _ = _; unfold ofR; rw [if_neg hbig, hr]; simp only [htail, if_false, hok]
          rintro e w6 ⟨h6, h6w⟩
          rw [if_neg hok] at h6
          subst h6 h6w
          refine leaves_cons (f := 118) (args := #[.pointer (some ⟨w.heap.size, 0, none⟩), .pointer (some ⟨w.heap.size + 1, 0, none⟩)]) (by simp) (by simp [go_sem]) ?_
          refine (of1_panicking w.heap.size (.int .i64 bd.kind) (.int .i64 bd.view) (.int .i64 bd.seq) (.int .i64 bd.client) (.int .i64 bd.stamp) (.string bd.digest) (.string bd.text) (.slice pp bd.list.length cp) 0 (right bd) _ X5 Y5).mono ?_
          rintro e u' w'' ⟨rfl, rfl, hbz, Xz, Yz⟩
          refine ⟨.tuple #[zeroBd.val (.slice none 0 0), .int .i64 (right bd)], caught_results Xz Yz rfl rfl, ?_⟩
          unfold ReadsO
          rw [hfin.out]
          exact ⟨rfl, (B5).trans hbz⟩
end Go.Proofs.YtocphdikppeijaaGreat
