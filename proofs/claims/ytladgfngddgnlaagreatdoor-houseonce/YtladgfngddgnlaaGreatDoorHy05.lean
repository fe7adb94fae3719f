/- OfOp: the request that bytes are. -/
import Derived.Test.YtladgfngddgnlaaGreatDoorHy04
import Derived.Test.YtladgfngddgnlaaGreatDoorHy03
namespace Go.Proofs.YtladgfngddgnlaaGreatDoor
open Go.RowKit
set_option linter.unusedVariables false
set_option linter.unusedSimpArgs false

set_option maxRecDepth 100000 in
set_option maxHeartbeats 1000000 in
theorem ofOp1_panicking (b : Nat) (c0 c1 c2 c3 c4 c5 : Value) (z e0 : Int) (w : World) (X : Blk w b #[c0, c1, c2, c3, c4, c5] 25) (Y : Blk w (b + 1) #[.int .i64 z] 32) :
    CallsD Tryz.prog 58 #[.pointer (some ⟨b, 0, none⟩), .pointer (some ⟨b + 1, 0, none⟩)] (.panicking (gu e0)) w fun e u' w' =>
      e = .returned (.tuple #[]) ∧ u' = .panicking [{ v := .iface 132 (.agg #[.int .i64 e0]), recovered := true }] ∧ Below b w w' ∧
      Blk w' b #[.int .i64 0, .int .i64 0, .int .i64 0, .int .i64 0, .int .i64 0, .float .f64 0] 25 ∧ Blk w' (b + 1) #[.int .i64 e0] 32 := by
  refine callsD_of_wpS Tryz.func58 rfl fun c₀ cs hu => ?_
  apply wpS_seq
  apply wpS_region
  simp [wpOpsS, go_sem, recoverD, hu, gu, Tryz.ntmps58, Exit.thenS]
  show Code.wpS Tryz.prog _ _ { tmps := #[Value.pointer (some ⟨b, 0, none⟩), Value.pointer (some ⟨b + 1, 0, none⟩), .iface 132 (.agg #[.int .i64 e0]), .iface 132 (.agg #[.int .i64 e0]), undef, undef, undef, undef, undef], defers := [] } _ _
  refine wpS_of_wp ?_
  go_wp2_with fail
  refine (reason_calls e0 w).mono ?_
  rintro e w1 ⟨rfl, hb1⟩
  have X1 := X.below hb1
  have Y1 := Y.below hb1
  have hlt := X.lt
  have d0 := X1.cell (o := 0) rfl
  have f0 := X1.frozen (o := 0)
  have d1 := X1.cell (o := 1) rfl
  have f1 := X1.frozen (o := 1)
  have d2 := X1.cell (o := 2) rfl
  have f2 := X1.frozen (o := 2)
  have d3 := X1.cell (o := 3) rfl
  have f3 := X1.frozen (o := 3)
  have d4 := X1.cell (o := 4) rfl
  have f4 := X1.frozen (o := 4)
  have d5 := X1.cell (o := 5) rfl
  have f5 := X1.frozen (o := 5)
  have y0 := Y1.cell (o := 0) rfl
  have g0 := Y1.frozen (o := 0)
  go_wp2
  obtain ⟨W, hW, XW, hBW, _, _, hK⟩ := opOut (c0 := .int .i64 0) (c1 := .int .i64 0) (c2 := .int .i64 0) (c3 := .int .i64 0) (c4 := .int .i64 0) (c5 := .float .f64 0) X1
  rw [hW]
  have YW := hK (b + 1) _ _ (by omega) Y1
  refine ⟨rfl, _, rfl, .tuple #[], by simp [results, Tryz.results58], rfl, rfl, ?_, ?_, ?_⟩
  · exact (hBW b w (Nat.le_refl _) (hb1.mono (Nat.le_of_lt hlt))).setCell (p := ⟨b + 1, 0, none⟩) (by simp) _
  · exact XW.setOther (p := ⟨b + 1, 0, none⟩) (by simp) _
  · have hy := YW.set 0 (.int .i64 e0)
    simpa using hy

theorem ofOp1_idle (p q : Addr) (w : World) :
    CallsD Tryz.prog 58 #[.pointer (some p), .pointer (some q)] .returning w fun e u' w' => e = .returned (.tuple #[]) ∧ u' = .returning ∧ w' = w := by
  refine callsD_of_wpS Tryz.func58 rfl fun c₀ cs hu => ?_
  apply wpS_seq
  apply wpS_region
  simp [wpOpsS, go_sem, recoverD, hu, Tryz.ntmps58, Exit.thenS]
  show Code.wpS Tryz.prog _ _ { tmps := #[Value.pointer (some p), Value.pointer (some q), .nilIface, .nilIface, undef, undef, undef, undef, undef], defers := [] } _ _
  refine wpS_of_wp ?_
  go_wp2
  cases c₀
  simp_all [bodyPostS, results, Tryz.results58]

def zeroOo : Oo := ⟨0, 0, 0, 0, 0, 0⟩
/-- What a reading of a request answers. -/
def opAns (r : Except Int Oo) : Array Value :=
  match r with
  | .ok o => #[o.val, .int .i64 0]
  | .error er => #[zeroOo.val, .int .i64 er]

theorem opCaught {w w' : World} {er : Int} {o : Oo} (X : Blk w' w.heap.size #[.int .i64 o.k, .int .i64 o.g, .int .i64 o.a, .int .i64 o.d, .int .i64 o.i, .float .f64 o.pr] 25) (Y : Blk w' (w.heap.size + 1) #[.int .i64 er] 32) {t : Array Value} (h2 : t.getD 2 undef = .pointer (some ⟨w.heap.size, 0, none⟩)) (h3 : t.getD 3 undef = .pointer (some ⟨w.heap.size + 1, 0, none⟩)) :
    (results Tryz.f46 t).run Tryz.prog w' = .ok (.tuple #[o.val, .int .i64 er]) w' := by
  have a0 := X.cell (o := 0) rfl
  have a1 := X.cell (o := 1) rfl
  have a2 := X.cell (o := 2) rfl
  have a3 := X.cell (o := 3) rfl
  have a4 := X.cell (o := 4) rfl
  have a5 := X.cell (o := 5) rfl
  have y0 := Y.cell (o := 0) rfl
  simp only [Array.getD_eq_getD_getElem?] at h2 h3
  simp [results, Tryz.results46, go_sem, h2, h3, a0, a1, a2, a3, a4, a5, y0, Oo.val]

set_option maxRecDepth 100000 in
set_option maxHeartbeats 2000000 in
theorem ofOp_calls (s : ByteArray) (w : World) (hs : s.size ≤ maxLen) :
    Calls Tryz.prog 46 #[.string s] w fun e w' => e = .returned (.tuple (opAns (ofOpR s))) ∧ Below w.heap.size w w' := by
  have hmf : ∀ (fn : Fn) (first cap : Array Value) (w : World), (Instr.makeFunc fn first cap).run Tryz.prog w = .ok (.func fn first cap) w := fun _ _ _ _ => rfl
  have X0 := (blk_new w w.heap.size #[.int .i64 0, .int .i64 0, .int .i64 0, .int .i64 0, .int .i64 0, .float .f64 0] 25 rfl).alloc (.cells #[.int .i64 0] 32)
  have Y0 := blk_new (w.alloc zOp) (w.heap.size + 1) #[.int .i64 0] 32 (by simp)
  have B0 : Below w.heap.size w ((w.alloc zOp).alloc (.cells #[.int .i64 0] 32)) := by go_grown
  by_cases hbig : 256 < s.size
  · have hfin : Hid (ofOpR s = .error 4) := by show _ = _; unfold ofOpR; rw [if_pos hbig]
    go_enter_defers Tryz.func46, Tryz.ntmps46
    go_wp2_with fail
    refine (readerOf_bad s 256 _ (by omega)).mono ?_
    rintro e w1 ⟨rfl, rfl⟩
    refine leaves_cons (f := 58) (args := #[.pointer (some ⟨w.heap.size, 0, none⟩), .pointer (some ⟨w.heap.size + 1, 0, none⟩)]) (by simp) (by simp [go_sem]) ?_
    refine (ofOp1_panicking w.heap.size _ _ _ _ _ _ 0 4 _ X0 Y0).mono ?_
    rintro e u' w'' ⟨rfl, rfl, hbz, Xz, Yz⟩
    refine ⟨.tuple #[zeroOo.val, .int .i64 4], opCaught (o := zeroOo) Xz Yz rfl rfl, ?_⟩
    rw [hfin.out]
    exact ⟨rfl, (B0).trans hbz⟩
  · go_enter_defers Tryz.func46, Tryz.ntmps46
    go_wp2_with fail
    refine (readerOf_ok s 256 _ (by omega)).mono ?_
    rintro e w1 ⟨rfl, rfl⟩
    have R1 := rdr_new s 0 ((w.alloc zOp).alloc (.cells #[.int .i64 0] 32)) 136 (w.heap.size + 2) (by simp)
    have X1 := X0.alloc (.cells #[.string s, .int .i64 0] 136)
    have Y1 := Y0.alloc (.cells #[.string s, .int .i64 0] 136)
    have B1 := B0.alloc (by simp; omega) (.cells #[.string s, .int .i64 0] 136)
    clear X0 Y0 B0
    go_wp2_with fail
    refine (opRd_calls (w.heap.size + 2) s 0 _ R1 hs (Nat.zero_le _)).mono ?_
    cases hr : rdOp s 0 with
    | error er =>
      have hfin : Hid (ofOpR s = .error er) := by show _ = _; unfold ofOpR; rw [if_neg hbig, hr]
      rintro e w2 ⟨rfl, ho⟩
      refine leaves_cons (f := 58) (args := #[.pointer (some ⟨w.heap.size, 0, none⟩), .pointer (some ⟨w.heap.size + 1, 0, none⟩)]) (by simp) (by simp [go_sem]) ?_
      refine (ofOp1_panicking w.heap.size _ _ _ _ _ _ 0 er _ (X1.off ho (by omega)) (Y1.off ho (by omega))).mono ?_
      rintro e u' w'' ⟨rfl, rfl, hbz, Xz, Yz⟩
      refine ⟨.tuple #[zeroOo.val, .int .i64 er], opCaught (o := zeroOo) Xz Yz rfl rfl, ?_⟩
      rw [hfin.out]
      exact ⟨rfl, (ho.below (by omega) B1 (by simp; omega)).trans hbz⟩
    | ok p =>
      obtain ⟨o, nx⟩ := p
      rintro e w2 ⟨rfl, ho, R2⟩
      have X2 := X1.off ho (by omega)
      have Y2 := Y1.off ho (by omega)
      have B2 := ho.below (by omega) B1 (by simp; omega)
      have hz2 := ho.size
      simp at hz2
      have d0 := X2.cell (o := 0) rfl
      have f0 := X2.frozen (o := 0)
      have d1 := X2.cell (o := 1) rfl
      have f1 := X2.frozen (o := 1)
      have d2 := X2.cell (o := 2) rfl
      have f2 := X2.frozen (o := 2)
      have d3 := X2.cell (o := 3) rfl
      have f3 := X2.frozen (o := 3)
      have d4 := X2.cell (o := 4) rfl
      have f4 := X2.frozen (o := 4)
      have d5 := X2.cell (o := 5) rfl
      have f5 := X2.frozen (o := 5)
      unfold Oo.val
      go_wp2_with fail
      obtain ⟨W3, hW3, X3, hB3, hR3, _, hK3⟩ := opOut (c0 := .int .i64 o.k) (c1 := .int .i64 o.g) (c2 := .int .i64 o.a) (c3 := .int .i64 o.d) (c4 := .int .i64 o.i) (c5 := .float .f64 o.pr) X2
      have Y3 := hK3 (w.heap.size + 1) _ _ (by omega) Y2
      have R3 := hR3 _ _ _ (by omega) R2
      have B3 := hB3 _ _ (Nat.le_refl _) B2
      have Z3 := R3.lt
      rw [hW3]
      clear hW3 X2 Y2 R2 B2 X1 Y1 R1 B1 d0 f0 d1 f1 d2 f2 d3 f3 d4 f4 d5 f5 hB3 hR3 hK3
      refine (end_calls (w.heap.size + 2) s nx _ R3).mono ?_
      by_cases htail : nx < s.size
      · have hfin : Hid (ofOpR s = .error 12) := by show _ = _; unfold ofOpR; rw [if_neg hbig, hr]; simp only [htail, if_true]
        rintro e w4 ⟨h4, ho4, R4⟩
        rw [if_pos htail] at h4
        subst h4
        refine leaves_cons (f := 58) (args := #[.pointer (some ⟨w.heap.size, 0, none⟩), .pointer (some ⟨w.heap.size + 1, 0, none⟩)]) (by simp) (by simp [go_sem]) ?_
        refine (ofOp1_panicking w.heap.size _ _ _ _ _ _ 0 12 _ (X3.off ho4 (by omega)) (Y3.off ho4 (by omega))).mono ?_
        rintro e u' w'' ⟨rfl, rfl, hbz, Xz, Yz⟩
        refine ⟨.tuple #[zeroOo.val, .int .i64 12], opCaught (o := zeroOo) Xz Yz rfl rfl, ?_⟩
        rw [hfin.out]
        exact ⟨rfl, (ho4.below (by omega) B3 (by omega)).trans hbz⟩
      · have hfin : Hid (ofOpR s = .ok o) := by show _ = _; unfold ofOpR; rw [if_neg hbig, hr]; simp only [htail, if_false]
        rintro e w4 ⟨h4, ho4, R4⟩
        rw [if_neg htail] at h4
        subst h4
        have X5 := X3.off ho4 (by omega)
        have Y5 := Y3.off ho4 (by omega)
        have B5 := ho4.below (by omega) B3 (by omega)
        clear X3 Y3 B3 R3 R4
        have d0 := X5.cell (o := 0) rfl
        have f0 := X5.frozen (o := 0)
        have d1 := X5.cell (o := 1) rfl
        have f1 := X5.frozen (o := 1)
        have d2 := X5.cell (o := 2) rfl
        have f2 := X5.frozen (o := 2)
        have d3 := X5.cell (o := 3) rfl
        have f3 := X5.frozen (o := 3)
        have d4 := X5.cell (o := 4) rfl
        have f4 := X5.frozen (o := 4)
        have d5 := X5.cell (o := 5) rfl
        have f5 := X5.frozen (o := 5)
        have y0 := Y5.cell (o := 0) rfl
        have g0 := Y5.frozen (o := 0)
        go_wp2
        obtain ⟨W6, hW6, X6, hB6, _, _, hK6⟩ := opOut (c0 := .int .i64 o.k) (c1 := .int .i64 o.g) (c2 := .int .i64 o.a) (c3 := .int .i64 o.d) (c4 := .int .i64 o.i) (c5 := .float .f64 o.pr) X5
        have Y6 := (hK6 (w.heap.size + 1) _ _ (by omega) Y5).set 0 (.int .i64 0)
        simp only [List.setIfInBounds_toArray, List.set_cons_zero] at Y6
        have X7 := X6.setOther (p := ⟨w.heap.size + 1, 0, none⟩) (by simp) (.int .i64 0)
        have B7 := (hB6 _ _ (Nat.le_refl _) B5).setCell (p := ⟨w.heap.size + 1, 0, none⟩) (by simp) (.int .i64 0)
        rw [hW6]
        refine leaves_cons (f := 58) (args := #[.pointer (some ⟨w.heap.size, 0, none⟩), .pointer (some ⟨w.heap.size + 1, 0, none⟩)]) (by simp) (by simp [go_sem]) ?_
        refine (ofOp1_idle _ _ _).mono ?_
        rintro e u' w'' ⟨rfl, rfl, rfl⟩
        refine ⟨.tuple #[o.val, .int .i64 0], opCaught (o := o) X7 Y6 rfl rfl, ?_⟩
        rw [hfin.out]
        exact ⟨rfl, B7⟩
end Go.Proofs.YtladgfngddgnlaaGreatDoor

namespace Go.Proofs.YtladgfngddgnlaaGreatDoor
open Go.RowKit
set_option linter.unusedVariables false
set_option linter.unusedSimpArgs false

set_option maxRecDepth 100000 in
theorem number_ref (n : Nat) (w : World) (hn : n < 9223372036854775808) :
    Calls Tryz.prog 50 #[.int .i64 n] w fun e w' => e = .returned (.string ⟨(enc n).toArray⟩) ∧ Below w.heap.size w w' := by
  obtain ⟨i0, hi, hz0, hz1, hz2⟩ := info_parts infoByte
  go_enter Tryz.func50, Tryz.ntmps50
  go_wp2
  go_loopw [0, 3] (fun i o wr => ∃ (k m : Nat) (d : List UInt8), i = .int .i64 m ∧ m ≤ n ∧ 1 ≤ k ∧ k + d.length = 10 ∧ m < 128 ^ k ∧ Hid (enc n = d ++ encF k m) ∧ wr.ownsRow w.heap.size 5 1 o d.length (Lib.byteCells d) ∧ Below w.heap.size w wr) (fun i _ _ => (intOf i).toNat)
  case atStart => exact ⟨10, n, [], rfl, Nat.le_refl _, by decide, rfl, pow10 hn, rfl, World.ownsRow_nil _ _ _ _, Below.refl _ _⟩
  case round =>
    obtain ⟨k, m, d, rfl, hm, hk1, hkd, hmk, hR, ho, hb⟩ := hrel
    have hkk : ∃ k', k = k' + 1 := ⟨k - 1, by omega⟩
    obtain ⟨k, rfl⟩ := hkk
    by_cases h : m < 128
    · have hfin : Hid (enc n = d ++ [UInt8.ofNat m]) := by
        have e : encF (k + 1) m = [UInt8.ofNat m] := by simp [encF, h]
        rw [← e]; exact hR.out
      have hd : decide ((127 : Int) < m) = false := by simp only [decide_eq_false_iff_not]; omega
      have e2 : (UInt8.ofNat m).toNat = m := by simp [UInt8.toNat_ofNat']; omega
      go_wp2_with (at_builtin; refine wpList_append_own _ rfl (.tmp 15) (.tmp 18) 95 rfl w.heap.size 5 i0 (.int .u8 0) 1 1 Tryz.underlying95 hi hz0 hz1 hz2 rfl (by decide) _ _ _ rfl (ho.alloc _) ⟨wr.heap.size, 0, none⟩ 1 1 [.int .u8 m] rfl rfl ?c1 ?c2 ?c3 ?c4 ?c5 ?_)
      case c1 => exact cell_one_new _ _ _
      case c2 => intro u hu; simp at hu; subst hu; rfl
      case c3 => unfold maxLen; omega
      case c4 => omega
      case c5 => have := hb.size; simp; omega
      intro v' w1 hown' hgrow _
      rw [← byteCells_snoc d _ e2] at hown'
      have hcv := own_convert hown'
      go_wp2
      go_ret
      refine ⟨by rw [hfin.out]; simp, ?_⟩
      have hz := hb.size
      exact (hb.alloc (by omega) _).grown hgrow (by simp; omega) (fun k hk => (ho.lt k hk).1)
    · have hd : decide ((127 : Int) < m) = true := by simp only [decide_eq_true_eq]; omega
      have hk2 : 1 ≤ k := by
        rcases Nat.eq_zero_or_pos k with h0 | h0
        · subst h0; simp at hmk; omega
        · exact h0
      have e2 : (UInt8.ofNat (128 + m % 128)).toNat = 128 + m % 128 := by simp [UInt8.toNat_ofNat']; omega
      have hstep : encF (k + 1) m = UInt8.ofNat (128 + m % 128) :: encF k (m / 128) := by simp [encF, h]
      have HS : Hid _ := hstep
      have E2 : Hid _ := e2
      clear hstep e2
      go_wp2_with (at_builtin; refine wpList_append_own _ rfl (.tmp 6) (.tmp 11) 95 rfl w.heap.size 5 i0 (.int .u8 0) 1 1 Tryz.underlying95 hi hz0 hz1 hz2 rfl (by decide) _ _ _ rfl (ho.alloc _) ⟨wr.heap.size, 0, none⟩ 1 1 [.int .u8 (128 + (m : Int) % 128)] rfl rfl ?c1 ?c2 ?c3 ?c4 ?c5 ?_)
      case c1 => exact cell_one_new _ _ _
      case c2 => intro u hu; simp at hu; subst hu; rfl
      case c3 => unfold maxLen; omega
      case c4 => omega
      case c5 => have := hb.size; simp; omega
      intro v' w1 hown' hgrow _
      go_wp2
      refine ⟨⟨k, m / 128, d ++ [UInt8.ofNat (128 + m % 128)], by simp, by omega, hk2, by simp; omega, ?_, ?_, ?_, ?_⟩, by simp [intOf]; omega⟩
      · rw [Nat.pow_succ] at hmk; omega
      · have hR' := hR.out
        rw [HS.out] at hR'
        show _ = _
        rw [hR']; simp
      · rw [byteCells_snoc d _ E2.out, List.length_append]
        simpa [Nat.add_assoc] using hown'
      · have hz := hb.size
        exact (hb.alloc (by omega) _).grown hgrow (by simp; omega) (fun k hk => (ho.lt k hk).1)

end Go.Proofs.YtladgfngddgnlaaGreatDoor

namespace Go.Proofs.YtladgfngddgnlaaGreatDoor
open Go.RowKit
set_option linter.unusedVariables false
set_option linter.unusedSimpArgs false

theorem below_grown {B : Nat} {z w w' : World} {row : Option Nat} (h : Below B z w) (hg : w.grownBy w' row) (hr : ∀ k, row = some k → B ≤ k) (hbs : B ≤ w.heap.size) : Below B z w' :=
  ⟨hg.os.trans h.os, hg.tape.trans h.tape, hg.output.trans h.output, Nat.le_trans h.size hg.size, fun k hk => (hg.block k (by omega) (fun e => by have := hr k e.symm; omega)).trans (h.block k hk)⟩
theorem catL (a b : List UInt8) : (⟨a.toArray⟩ : ByteArray) ++ (⟨b.toArray⟩ : ByteArray) = ⟨(a ++ b).toArray⟩ := by
  apply ByteArray.ext; simp [ByteArray.data_append]
theorem ints_cell (o : Oo) (k : Nat) (h : k < o.ints.length) : (#[.int .i64 o.k, .int .i64 o.g, .int .i64 o.a, .int .i64 o.d, .int .i64 o.i] : Array Value)[k]? = some (.int .i64 o.ints[k]) := by
  obtain rfl | rfl | rfl | rfl | rfl : k = 0 ∨ k = 1 ∨ k = 2 ∨ k = 3 ∨ k = 4 := by rw [ints_len] at h; omega
  · rfl
  · rfl
  · rfl
  · rfl
  · rfl

set_option maxRecDepth 100000 in
set_option maxHeartbeats 1000000 in
theorem op_ref (o : Oo) (w : World) (hp : o.pr < 18446744073709551616) :
    Calls Tryz.prog 26 #[o.val] w fun e w' => e = .returned (.tuple (opR o)) ∧ Below w.heap.size w w' := by
  obtain ⟨i0, hi, hz0, hz1, hz2⟩ := info_parts infoByte
  have hfb := run_f64bits o.pr
  have X0 := (blk_new w w.heap.size #[.int .i64 o.k, .int .i64 o.g, .int .i64 o.a, .int .i64 o.d, .int .i64 o.i, .float .f64 o.pr] 25 rfl).alloc (.cells #[.int .i64 o.k, .int .i64 o.g, .int .i64 o.a, .int .i64 o.d, .int .i64 o.i] 3)
  have L0 := blk_new (w.alloc (.cells #[.int .i64 o.k, .int .i64 o.g, .int .i64 o.a, .int .i64 o.d, .int .i64 o.i, .float .f64 o.pr] 25)) (w.heap.size + 1) #[.int .i64 o.k, .int .i64 o.g, .int .i64 o.a, .int .i64 o.d, .int .i64 o.i] 3 (by simp)
  have hB0 : Below w.heap.size w ((w.alloc (.cells #[.int .i64 o.k, .int .i64 o.g, .int .i64 o.a, .int .i64 o.d, .int .i64 o.i, .float .f64 o.pr] 25)).alloc (.cells #[.int .i64 o.k, .int .i64 o.g, .int .i64 o.a, .int .i64 o.d, .int .i64 o.i] 3)) := by go_grown
  unfold Oo.val
  go_enter Tryz.func26, Tryz.ntmps26
  go_wp2
  go_loopw [5, 6] (fun sv i wr => ∃ (k : Nat) (Z : List UInt8), k ≤ 5 ∧ sv = .string ⟨Z.toArray⟩ ∧ i = .int .i64 k ∧ Hid (Z = (o.ints.take k).flatMap encI) ∧ Hid ((o.ints.take k).all numOk = true) ∧ Below w.heap.size w wr ∧ Blk wr w.heap.size #[.int .i64 o.k, .int .i64 o.g, .int .i64 o.a, .int .i64 o.d, .int .i64 o.i, .float .f64 o.pr] 25 ∧ Blk wr (w.heap.size + 1) #[.int .i64 o.k, .int .i64 o.g, .int .i64 o.a, .int .i64 o.d, .int .i64 o.i] 3) (fun _ i _ => 5 - (intOf i).toNat)
  case atStart => exact ⟨0, [], Nat.zero_le _, rfl, rfl, by show _ = _; simp, by show _ = _; simp, hB0, X0, L0⟩
  case round =>
    obtain ⟨k, Z, hk, rfl, rfl, hZ, hall, hb, X, L⟩ := hrel
    have hz := hb.size
    clear X0 L0 hB0
    have htl := ints_take_len o k
    rw [← hZ.out] at htl
    by_cases hlt : k < 5
    · have hd : decide ((k : Int) < 5) = true := by simp only [decide_eq_true_eq]; omega
      have hkl : k < o.ints.length := by rw [ints_len]; exact hlt
      have hix := L.cell (o := k) (ints_cell o k hkl)
      have hkn : Hid (opOk o = ((o.ints.take k).all numOk && (numOk o.ints[k] && (o.ints.drop (k + 1)).all numOk))) := all_split numOk o.ints k hkl
      have htk : Hid (o.ints.take (k + 1) = o.ints.take k ++ [o.ints[k]]) := List.take_succ_eq_append_getElem hkl
      generalize o.ints[k] = n at hix hkn htk
      by_cases n0 : 0 ≤ n
      · have d0 : decide (n < 0) = false := by simp only [decide_eq_false_iff_not]; omega
        by_cases n1 : n ≤ 9007199254740992
        · have d1 : decide (9007199254740992 < n) = false := by simp only [decide_eq_false_iff_not]; omega
          have hn : numOk n = true := decide_eq_true ⟨n0, n1⟩
          obtain ⟨m, rfl⟩ := Int.eq_ofNat_of_zero_le n0
          have hall2 : Hid ((o.ints.take (k + 1)).all numOk = true) := by show _ = _; rw [htk.out, List.all_append, hall.out]; simp [hn]
          have hB2 : Hid (Z ++ enc m = (o.ints.take (k + 1)).flatMap encI) := by show _ = _; rw [htk.out, List.flatMap_append, hZ.out]; simp [encI]
          have hnum := number_ref m wr (by omega)
          have el := enc_le m
          have hcat : ¬ 9223372036854775807 < Z.length + (enc m).length := by omega
          clear hn hall hkn htk hZ
          go_wp2_with fail
          refine hnum.mono ?_
          rintro e w1 ⟨rfl, b1⟩
          have B1 := hb.trans (b1.mono hz)
          go_wp2
          go_roundw
          case rel => exact ⟨k + 1, Z ++ enc m, by omega, by rw [← catL], by go_num, hB2, hall2, B1, X.below b1, L.below b1⟩
          case measure => simp [intOf]; omega
        · have d1 : decide (9007199254740992 < n) = true := by simp only [decide_eq_true_eq]; omega
          have hfin : Hid (opR o = #[.string ⟨#[]⟩, .int .i64 14]) := by
            show _ = _
            unfold opR
            rw [if_neg (by rw [hkn.out, show numOk n = false from decide_eq_false (by omega)]; simp)]
          clear hkn htk
          go_wp2
          go_ret2
          exact ⟨by rw [hfin.out]; rfl, hb⟩
      · have d0 : decide (n < 0) = true := by simp only [decide_eq_true_eq]; omega
        have hfin : Hid (opR o = #[.string ⟨#[]⟩, .int .i64 14]) := by
          show _ = _
          unfold opR
          rw [if_neg (by rw [hkn.out, show numOk n = false from decide_eq_false (by omega)]; simp)]
        clear hkn htk
        go_wp2
        go_ret2
        exact ⟨by rw [hfin.out]; rfl, hb⟩
    · have hd : decide ((k : Int) < 5) = false := by simp only [decide_eq_false_iff_not]; omega
      have e5 : o.ints.take k = o.ints := List.take_of_length_le (by rw [ints_len]; omega)
      rw [e5] at hall hZ
      have hfin : Hid (opR o = #[.string ⟨(Z ++ le8 o.pr).toArray⟩, .int .i64 0]) := by
        show _ = _
        unfold opR opB
        rw [if_pos (show opOk o = true from hall.out), ← hZ.out]
      have c5 := X.cell (o := 5) rfl
      have hxl := L.lt
      clear hall hZ e5
      go_wp2
      go_loopw [7, 8, 9] (fun xv bv i wi => ∃ j : Nat, j ≤ 8 ∧ xv = .int .u64 ((o.pr / 256 ^ j : Nat) : Int) ∧ i = .int .i64 j ∧ wi.ownsRow (w.heap.size + 2) 5 1 bv j (Lib.byteCells (leN o.pr j)) ∧ Below w.heap.size w wi ∧ w.heap.size + 2 ≤ wi.heap.size) (fun _ _ i _ => 8 - (intOf i).toNat)
      case atStart => exact ⟨0, Nat.zero_le _, by simp, rfl, by simpa [leN, Lib.byteCells] using World.ownsRow_nil _ _ _ _, hb, by omega⟩
      case round =>
        obtain ⟨j, hj, rfl, rfl, ho, hbi, hzi⟩ := hrel
        by_cases hjl : j < 8
        · have hdj : decide ((j : Int) < 8) = true := by simp only [decide_eq_true_eq]; omega
          have hstep : o.pr / 256 ^ (j + 1) = o.pr / 256 ^ j / 256 := by rw [Nat.pow_succ, Nat.div_div_eq_div_mul]
          have hsm : o.pr / 256 ^ j < 18446744073709551616 := Nat.lt_of_le_of_lt (Nat.div_le_self _ _) hp
          have hlb := leB_nat o.pr j
          have HST : Hid _ := hstep
          have HLB : Hid _ := hlb
          clear hstep hlb
          generalize hy : o.pr / 256 ^ j = y at *
          clear hy
          go_wp2_with (at_builtin; refine wpList_append_own _ rfl (.tmp 51) (.tmp 55) 95 rfl (w.heap.size + 2) 5 i0 (.int .u8 0) 1 1 Tryz.underlying95 hi hz0 hz1 hz2 rfl (by decide) _ _ _ rfl (ho.alloc _) ⟨_, 0, none⟩ 1 1 [.int .u8 ((y : Int) % 256)] rfl rfl ?c1 ?c2 ?c3 ?c4 ?c5 ?_)
          case c1 => exact cell_one_new _ _ _
          case c2 => intro u hu; simp at hu; subst hu; rfl
          case c3 => unfold maxLen; omega
          case c4 => omega
          case c5 => simp; omega
          intro v' w1 hown' hgrow _
          go_wp2
          refine ⟨⟨j + 1, by omega, by rw [HST.out]; simp, by go_num, ?_, ?_, ?_⟩, by simp [intOf]; omega⟩
          · rw [leN_succ, byteCells_snoc _ _ HLB.out]
            simpa using hown'
          · exact below_grown (hbi.alloc hbi.size _) hgrow (fun k hk => by have := (ho.lt k hk).1; omega) (by simp; omega)
          · have := hgrow.size
            simp at this
            omega
        · have hdj : decide ((j : Int) < 8) = false := by simp only [decide_eq_false_iff_not]; omega
          have e8 : j = 8 := by omega
          subst e8
          have hcv := own_convert (l := le8 o.pr) (by rw [show le8 o.pr = leN o.pr 8 from rfl]; exact ho)
          have hl8 : (le8 o.pr).length = 8 := leN_len _ _
          have hcat : ¬ 9223372036854775807 < Z.length + (le8 o.pr).length := by omega
          clear hl8
          generalize le8 o.pr = Y at *
          go_wp2
          exact bodyPost_ret (v := .tuple #[.string (⟨Z.toArray⟩ ++ ⟨Y.toArray⟩), .int .i64 0]) (by simp [results, Tryz.results26, go_sem]) rfl ⟨by rw [hfin.out, catL], hbi⟩
end Go.Proofs.YtladgfngddgnlaaGreatDoor
