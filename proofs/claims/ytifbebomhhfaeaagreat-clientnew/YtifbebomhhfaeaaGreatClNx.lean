/- A consortium that comes in as an argument. -/
import Derived.Test.YtifbebomhhfaeaaGreatClJ
import Derived.Lib.ConvBytes
import Derived.Test.YtifbebomhhfaeaaGreatClV
import Derived.Deep.DeepCutAuto
import Derived.Deep.CutBlock
namespace Go.Proofs.YtifbebomhhfaeaaGreat
open Go.ChangeShapes Go.WideShapes Go.ChangeAt Go.RowKit Go.Deep
set_option linter.unusedSimpArgs false
set_option linter.unusedVariables false
theorem cellsCfg : Tryz.prog.cellsOf 23 = 4 := by kernel_rfl
theorem list4c {α : Type} {l : List α} (h : l.length = 4) : ∃ a b c d, l = [a, b, c, d] := by
  match l, h with
  | [a, b, c, d], _ => exact ⟨a, b, c, d, rfl⟩
section
variable {H : Type} {enc : TypeId × Value → H} {w : World} {base : Nat} {spare : Nat → Bool} {held : Bool}
theorem open_cfgC {fuel : Nat} {cs : List Value} {x : DataW H × List MemPlace} (hx : DataW.trod enc Tryz.prog w base spare held fuel 23 cs = some x) : ∃ cf cc cg cp : Int, cs = [.int .i64 cf, .int .i64 cc, .int .i64 cg, .int .i64 cp] := by
  obtain ⟨xs, n, _, hxe, hl, hlen, hfl⟩ := DataW.trod_struct Tryz.underlying23 hx
  rw [cellsCfg] at hl
  obtain ⟨k0, k1, k2, k3, rfl⟩ := list4c hl
  obtain ⟨y0, y1, y2, y3, hxs⟩ := list4c (l := xs) (by simpa using hlen)
  subst hxs
  have g0 := hfl 0 _ rfl
  have g1 := hfl 1 _ rfl
  have g2 := hfl 2 _ rfl
  have g3 := hfl 3 _ rfl
  simp only [cells_Int, List.drop_zero, List.drop_succ_cons, List.take_succ_cons, List.take_zero, List.getElem?_cons_zero, List.getElem?_cons_succ] at g0 g1 g2 g3
  obtain ⟨i0, e0, _, _⟩ := DataW.trod_int Tryz.underlying3 g0
  obtain ⟨i1, e1, _, _⟩ := DataW.trod_int Tryz.underlying3 g1
  obtain ⟨i2, e2, _, _⟩ := DataW.trod_int Tryz.underlying3 g2
  obtain ⟨i3, e3, _, _⟩ := DataW.trod_int Tryz.underlying3 g3
  have q0 : k0 = .int .i64 i0 := by simpa [cells_Int] using e0
  have q1 : k1 = .int .i64 i1 := by simpa [cells_Int] using e1
  have q2 : k2 = .int .i64 i2 := by simpa [cells_Int] using e2
  have q3 : k3 = .int .i64 i3 := by simpa [cells_Int] using e3
  exact ⟨i0, i1, i2, i3, by rw [q0, q1, q2, q3]⟩
set_option maxRecDepth 100000 in
theorem open_cfg {r : Reach} {b0 : Nat} {v : Value} {d : DataW H} {p : List MemPlace} (hv : Value.okWide Tryz.prog w r b0 23 v) (h : DataW.Trod enc Tryz.prog w base spare held 23 v d p) :
    ∃ cf cc cg cp : Int, v = .agg #[.int .i64 cf, .int .i64 cc, .int .i64 cg, .int .i64 cp] := by
  obtain ⟨cs, rfl, _⟩ := okWide_struct Tryz.underlying23 hv
  obtain ⟨fuel, hf⟩ := h
  obtain ⟨cf, cc, cg, cp, hcs⟩ := open_cfgC hf
  refine ⟨cf, cc, cg, cp, ?_⟩
  have e : cs = #[.int .i64 cf, .int .i64 cc, .int .i64 cg, .int .i64 cp] := by
    have : cs.toList = [.int .i64 cf, .int .i64 cc, .int .i64 cg, .int .i64 cp] := by simpa [Value.cells] using hcs
    cases cs; simp_all
  rw [e]
end
end Go.Proofs.YtifbebomhhfaeaaGreat

namespace Go.Proofs.YtifbebomhhfaeaaGreat
open Go.RowKit
set_option linter.unusedSimpArgs false
set_option linter.unusedVariables false

theorem light_some {s : ByteArray} {bv : Value} {key : ByteArray} {cf cc cg cp E : Int} {w : World} (h : Calls Tryz.prog 6 #[.agg #[.int .i64 cf, .int .i64 cc, .int .i64 cg, .int .i64 cp], bv, .string key, .string s] w fun e w' => e = .returned (.tuple #[.agg lightZ, .int .i64 E]) ∧ Below w.heap.size w w') :
    ∃ z0 z1 z2, Calls Tryz.prog 6 #[.agg #[.int .i64 cf, .int .i64 cc, .int .i64 cg, .int .i64 cp], bv, .string key, .string s] w fun e w' => e = .returned (.tuple #[.agg #[.int .i64 z0, .string z1, .bool z2], .int .i64 E]) ∧ Below w.heap.size w w' := ⟨_, _, _, h⟩
set_option maxHeartbeats 8000000 in
set_option maxRecDepth 100000 in
theorem new_unfit (cf cc cg cp id : Int) (s : ByteArray) (w : World) (hF : fitsB cf cc cg cp = false) : Calls Tryz.prog 3 #[.agg #[.int .i64 cf, .int .i64 cc, .int .i64 cg, .int .i64 cp], .int .i64 id, .string s] w fun e w' => e = .returned (.bool true) ∧ Below w.heap.size w w' := by
  obtain ⟨W0, hW0, X0, B0⟩ : ∃ W0, w.alloc (.cells #[.int .i64 cf, .int .i64 cc, .int .i64 cg, .int .i64 cp] 23) = W0 ∧ Blk W0 w.heap.size #[.int .i64 cf, .int .i64 cc, .int .i64 cg, .int .i64 cp] 23 ∧ Below w.heap.size w W0 := ⟨_, rfl, blk_new _ _ _ _ rfl, by go_grown⟩
  have HNB : Hid _ := newBook_calls W0
  have HAw : Hid _ := awake_calls
  have HNn : Hid _ := fun wx => new_nil cf cc cg cp id wx
  have hGi := infoCfg cf cc cg cp
  go_enter Tryz.func3, Tryz.ntmps3
  go_wp2_with fail
  refine Calls.mono HNB.out ?_
  rintro e w1 ⟨p, b, x, y, rfl, K1, b1, hp, hb, hx, hy⟩
  have X1 := X0.below b1
  have HNw : Hid _ := new_bad cf cc cg cp id w1 K1 (by decide) (fun h => by rw [hF] at h; exact absurd h.1 (by decide))
  have HFn : Hid (1 ≤ cf ∧ cf ≤ 4 ∧ 1 ≤ cc ∧ cc ≤ 16 ∧ 1 ≤ cg ∧ cg ≤ 4 ∧ 1 ≤ cp ∧ cp ≤ 64 → False) := fun h => by
    unfold fitsB inB at hF
    simp [h] at hF
  go_wp2_with ((with_reducible refine rd_row (ty := 23) X1 Tryz.underlying23 rfl hGi ?_ ?_); rfl)
  refine Calls.mono HNw.out ?_
  rintro e w2 ⟨rfl, b2⟩
  have X2 := X1.below b2
  have BB2 := chain (chain B0 b1) b2
  have g0 : w2.cell? ⟨w.heap.size, 0, none⟩ = some (.int .i64 cf) := X2.cell rfl
  have g1 : w2.cell? ⟨w.heap.size, 1, none⟩ = some (.int .i64 cc) := X2.cell rfl
  have g2 : w2.cell? ⟨w.heap.size, 2, none⟩ = some (.int .i64 cg) := X2.cell rfl
  have g3 : w2.cell? ⟨w.heap.size, 3, none⟩ = some (.int .i64 cp) := X2.cell rfl
  clear HNw X1 K1
  go_upto_region 3 with fail
  go_cut [10] (fun v wx => v = .bool false ∧ wx = w2)
  case first =>
    by_cases hdA : 1 ≤ cf
    rotate_left
    · have dA : decide (1 ≤ cf) = false := decide_eq_false hdA
      clear hdA
      go_wp2_with fail
      go_meet
      exact ⟨rfl, rfl⟩
    have dA : decide (1 ≤ cf) = true := decide_eq_true hdA
    by_cases hdB : cf ≤ 4
    rotate_left
    · have dB : decide (cf ≤ 4) = false := decide_eq_false hdB
      clear hdB
      go_wp2_with fail
      go_meet
      exact ⟨rfl, rfl⟩
    have dB : decide (cf ≤ 4) = true := decide_eq_true hdB
    by_cases hdC : 1 ≤ cc
    rotate_left
    · have dC : decide (1 ≤ cc) = false := decide_eq_false hdC
      clear hdC
      go_wp2_with fail
      go_meet
      exact ⟨rfl, rfl⟩
    have dC : decide (1 ≤ cc) = true := decide_eq_true hdC
    by_cases hdD : cc ≤ 16
    rotate_left
    · have dD : decide (cc ≤ 16) = false := decide_eq_false hdD
      clear hdD
      go_wp2_with fail
      go_meet
      exact ⟨rfl, rfl⟩
    have dD : decide (cc ≤ 16) = true := decide_eq_true hdD
    by_cases hdE : 1 ≤ cg
    rotate_left
    · have dE : decide (1 ≤ cg) = false := decide_eq_false hdE
      clear hdE
      go_wp2_with fail
      go_meet
      exact ⟨rfl, rfl⟩
    have dE : decide (1 ≤ cg) = true := decide_eq_true hdE
    by_cases hdF : cg ≤ 4
    rotate_left
    · have dF : decide (cg ≤ 4) = false := decide_eq_false hdF
      clear hdF
      go_wp2_with fail
      go_meet
      exact ⟨rfl, rfl⟩
    have dF : decide (cg ≤ 4) = true := decide_eq_true hdF
    by_cases hdG : 1 ≤ cp
    rotate_left
    · have dG : decide (1 ≤ cp) = false := decide_eq_false hdG
      clear hdG
      go_wp2_with fail
      go_meet
      exact ⟨rfl, rfl⟩
    have dG : decide (1 ≤ cp) = true := decide_eq_true hdG
    by_cases hdH : cp ≤ 64
    rotate_left
    · have dH : decide (cp ≤ 64) = false := decide_eq_false hdH
      clear hdH
      go_wp2_with fail
      go_meet
      exact ⟨rfl, rfl⟩
    have dH : decide (cp ≤ 64) = true := decide_eq_true hdH
    exact (HFn.out ⟨hdA, hdB, hdC, hdD, hdE, hdF, hdG, hdH⟩).elim
  case rest =>
    obtain ⟨rfl, rfl⟩ := hcut
    rename World => w2
    clear g0 g2 g3 HFn
    obtain ⟨zn3, zs3, zb3, hV3⟩ := light_some (verify_unfit cf cc cg cp (.pointer (some ⟨p, 0, none⟩)) ⟨#[107]⟩ s w2 hF)
    have HV3 : Hid _ := hV3
    clear hV3
    go_wp2_with ((with_reducible refine rd_row (ty := 23) X2 Tryz.underlying23 rfl hGi ?_ ?_); rfl)
    refine Calls.mono HV3.out ?_
    rintro e w3 ⟨rfl, b3⟩
    obtain ⟨W4, hW4, B4⟩ : ∃ W4, w3.alloc (.cells #[.int .i64 zn3, .string zs3, .bool zb3] 31) = W4 ∧ Below w3.heap.size w3 W4 := ⟨_, rfl, by go_grown⟩
    have X10 := (X2.below b3).below B4
    have BB10 := chain (chain BB2 b3) B4
    clear HV3 X2 BB2 g1
    go_wp2_with ((with_reducible refine rd_row (ty := 23) X10 Tryz.underlying23 rfl hGi ?_ ?_); rfl)
    refine (HNn.out _).mono ?_
    rintro e w11 ⟨rfl, b11⟩
    have X11 := X10.below b11
    have BB11 := chain BB10 b11
    obtain ⟨zn12, zs12, zb12, hV12⟩ := light_some (verify_nil cf cc cg cp ⟨#[107]⟩ s w11)
    have HV12 : Hid _ := hV12
    clear hV12 X10 BB10
    go_wp2_with ((with_reducible refine rd_row (ty := 23) X11 Tryz.underlying23 rfl hGi ?_ ?_); rfl)
    refine Calls.mono HV12.out ?_
    rintro e w12 ⟨rfl, b12⟩
    obtain ⟨W13, hW13, B13⟩ : ∃ W13, w12.alloc (.cells #[.int .i64 zn12, .string zs12, .bool zb12] 31) = W13 ∧ Below w12.heap.size w12 W13 := ⟨_, rfl, by go_grown⟩
    have BB13 := chain (chain BB11 b12) B13
    clear HV12 X11 BB11
    go_wp2_with fail
    refine (nobody_request s _).mono ?_
    rintro e w13 ⟨rfl, rfl⟩
    go_wp2_with fail
    refine (nobody_ask s _).mono ?_
    rintro e w13 ⟨rfl, rfl⟩
    go_wp2_with fail
    refine (nobody_receive s _).mono ?_
    rintro e w13 ⟨rfl, rfl⟩
    go_wp2_with fail
    refine (nobody_waits _).mono ?_
    rintro e w13 ⟨rfl, rfl⟩
    go_wp2_with fail
    refine (nobody_answers _).mono ?_
    rintro e w13 ⟨rfl, rfl⟩
    go_wp2_with fail
    refine (nobody_tick _).mono ?_
    rintro e w13 ⟨rfl, rfl⟩
    go_wp2_with fail
    refine (HAw.out _).mono ?_
    rintro e w14 ⟨rfl, b14⟩
    go_wp2
    go_ret
    exact ⟨rfl, chain BB13 b14⟩

set_option maxHeartbeats 8000000 in
set_option maxRecDepth 100000 in
theorem new_low (cf cc cg cp id : Int) (s : ByteArray) (w : World) (hs : s.size ≤ 140737488351232) (hF : fitsB cf cc cg cp = true) (h0 : id < 0) : Calls Tryz.prog 3 #[.agg #[.int .i64 cf, .int .i64 cc, .int .i64 cg, .int .i64 cp], .int .i64 id, .string s] w fun e w' => e = .returned (.bool true) ∧ Below w.heap.size w w' := by
  have hA : 1 ≤ cf ∧ cf ≤ 4 ∧ 1 ≤ cc ∧ cc ≤ 16 ∧ 1 ≤ cg ∧ cg ≤ 4 ∧ 1 ≤ cp ∧ cp ≤ 64 := by
    unfold fitsB inB at hF
    simp only [Bool.and_eq_true, decide_eq_true_eq] at hF
    omega
  have dA : decide (1 ≤ cf) = true := decide_eq_true (by omega)
  have dB : decide (cf ≤ 4) = true := decide_eq_true (by omega)
  have dC : decide (1 ≤ cc) = true := decide_eq_true (by omega)
  have dD : decide (cc ≤ 16) = true := decide_eq_true (by omega)
  have dE : decide (1 ≤ cg) = true := decide_eq_true (by omega)
  have dF : decide (cg ≤ 4) = true := decide_eq_true (by omega)
  have dG : decide (1 ≤ cp) = true := decide_eq_true (by omega)
  have dH : decide (cp ≤ 64) = true := decide_eq_true (by omega)
  have d0 : decide (0 ≤ id) = false := decide_eq_false (by omega)
  obtain ⟨W0, hW0, X0, B0⟩ : ∃ W0, w.alloc (.cells #[.int .i64 cf, .int .i64 cc, .int .i64 cg, .int .i64 cp] 23) = W0 ∧ Blk W0 w.heap.size #[.int .i64 cf, .int .i64 cc, .int .i64 cg, .int .i64 cp] 23 ∧ Below w.heap.size w W0 := ⟨_, rfl, blk_new _ _ _ _ rfl, by go_grown⟩
  have HNB : Hid _ := newBook_calls W0
  have HAw : Hid _ := awake_calls
  have HNn : Hid _ := fun wx => new_nil cf cc cg cp id wx
  have hGi := infoCfg cf cc cg cp
  go_enter Tryz.func3, Tryz.ntmps3
  go_wp2_with fail
  refine Calls.mono HNB.out ?_
  rintro e w1 ⟨p, b, x, y, rfl, K1, b1, hp, hb, hx, hy⟩
  have X1 := X0.below b1
  have HNw : Hid _ := new_bad cf cc cg cp id w1 K1 (by decide) (fun h => by omega)
  go_wp2_with ((with_reducible refine rd_row (ty := 23) X1 Tryz.underlying23 rfl hGi ?_ ?_); rfl)
  refine Calls.mono HNw.out ?_
  rintro e w2 ⟨rfl, b2⟩
  have KK := K1.below b2
  have X2 := X1.below b2
  have BB2 := chain (chain B0 b1) b2
  have g0 : w2.cell? ⟨w.heap.size, 0, none⟩ = some (.int .i64 cf) := X2.cell rfl
  have g1 : w2.cell? ⟨w.heap.size, 1, none⟩ = some (.int .i64 cc) := X2.cell rfl
  have g2 : w2.cell? ⟨w.heap.size, 2, none⟩ = some (.int .i64 cg) := X2.cell rfl
  have g3 : w2.cell? ⟨w.heap.size, 3, none⟩ = some (.int .i64 cp) := X2.cell rfl
  obtain ⟨E, hE⟩ : ∃ E, (opnd [] s).2.2 = E := ⟨_, rfl⟩
  have hVe := verify_err cf cc cg cp ⟨#[107]⟩ s w2 KK (by decide) (by unfold maxLen; omega) hF (opnd_empty s)
  rw [hE] at hVe
  obtain ⟨zn3, zs3, zb3, hV3⟩ := light_some hVe
  have HV3 : Hid _ := hV3
  clear hV3 hVe hE hA HNw X1
  go_wp2_with ((with_reducible refine rd_row (ty := 23) X2 Tryz.underlying23 rfl hGi ?_ ?_); rfl)
  refine Calls.mono HV3.out ?_
  rintro e w3 ⟨rfl, b3⟩
  obtain ⟨W4, hW4, B4⟩ : ∃ W4, w3.alloc (.cells #[.int .i64 zn3, .string zs3, .bool zb3] 31) = W4 ∧ Below w3.heap.size w3 W4 := ⟨_, rfl, by go_grown⟩
  have X10 := (X2.below b3).below B4
  have BB10 := chain (chain BB2 b3) B4
  have q1 : W4.cell? ⟨w.heap.size, 1, none⟩ = some (.int .i64 cc) := X10.cell rfl
  clear HV3 X2 BB2 g0 g1 g2 g3
  go_wp2_with ((with_reducible refine rd_row (ty := 23) X10 Tryz.underlying23 rfl hGi ?_ ?_); rfl)
  refine (HNn.out _).mono ?_
  rintro e w11 ⟨rfl, b11⟩
  have X11 := X10.below b11
  have BB11 := chain BB10 b11
  obtain ⟨zn12, zs12, zb12, hV12⟩ := light_some (verify_nil cf cc cg cp ⟨#[107]⟩ s w11)
  have HV12 : Hid _ := hV12
  clear hV12 X10 BB10
  go_wp2_with ((with_reducible refine rd_row (ty := 23) X11 Tryz.underlying23 rfl hGi ?_ ?_); rfl)
  refine Calls.mono HV12.out ?_
  rintro e w12 ⟨rfl, b12⟩
  obtain ⟨W13, hW13, B13⟩ : ∃ W13, w12.alloc (.cells #[.int .i64 zn12, .string zs12, .bool zb12] 31) = W13 ∧ Below w12.heap.size w12 W13 := ⟨_, rfl, by go_grown⟩
  have BB13 := chain (chain BB11 b12) B13
  clear HV12 X11 BB11
  go_wp2_with fail
  refine (nobody_request s _).mono ?_
  rintro e w13 ⟨rfl, rfl⟩
  go_wp2_with fail
  refine (nobody_ask s _).mono ?_
  rintro e w13 ⟨rfl, rfl⟩
  go_wp2_with fail
  refine (nobody_receive s _).mono ?_
  rintro e w13 ⟨rfl, rfl⟩
  go_wp2_with fail
  refine (nobody_waits _).mono ?_
  rintro e w13 ⟨rfl, rfl⟩
  go_wp2_with fail
  refine (nobody_answers _).mono ?_
  rintro e w13 ⟨rfl, rfl⟩
  go_wp2_with fail
  refine (nobody_tick _).mono ?_
  rintro e w13 ⟨rfl, rfl⟩
  go_wp2_with fail
  refine (HAw.out _).mono ?_
  rintro e w14 ⟨rfl, b14⟩
  go_wp2
  go_ret
  exact ⟨rfl, chain BB13 b14⟩

set_option maxHeartbeats 8000000 in
set_option maxRecDepth 100000 in
theorem new_high (cf cc cg cp id : Int) (s : ByteArray) (w : World) (hs : s.size ≤ 140737488351232) (hF : fitsB cf cc cg cp = true) (h0 : 0 ≤ id) (h1 : cc ≤ id) : Calls Tryz.prog 3 #[.agg #[.int .i64 cf, .int .i64 cc, .int .i64 cg, .int .i64 cp], .int .i64 id, .string s] w fun e w' => e = .returned (.bool true) ∧ Below w.heap.size w w' := by
  have hA : 1 ≤ cf ∧ cf ≤ 4 ∧ 1 ≤ cc ∧ cc ≤ 16 ∧ 1 ≤ cg ∧ cg ≤ 4 ∧ 1 ≤ cp ∧ cp ≤ 64 := by
    unfold fitsB inB at hF
    simp only [Bool.and_eq_true, decide_eq_true_eq] at hF
    omega
  have dA : decide (1 ≤ cf) = true := decide_eq_true (by omega)
  have dB : decide (cf ≤ 4) = true := decide_eq_true (by omega)
  have dC : decide (1 ≤ cc) = true := decide_eq_true (by omega)
  have dD : decide (cc ≤ 16) = true := decide_eq_true (by omega)
  have dE : decide (1 ≤ cg) = true := decide_eq_true (by omega)
  have dF : decide (cg ≤ 4) = true := decide_eq_true (by omega)
  have dG : decide (1 ≤ cp) = true := decide_eq_true (by omega)
  have dH : decide (cp ≤ 64) = true := decide_eq_true (by omega)
  have d0 : decide (0 ≤ id) = true := decide_eq_true (by omega)
  have d1 : decide (id < cc) = false := decide_eq_false (by omega)
  obtain ⟨W0, hW0, X0, B0⟩ : ∃ W0, w.alloc (.cells #[.int .i64 cf, .int .i64 cc, .int .i64 cg, .int .i64 cp] 23) = W0 ∧ Blk W0 w.heap.size #[.int .i64 cf, .int .i64 cc, .int .i64 cg, .int .i64 cp] 23 ∧ Below w.heap.size w W0 := ⟨_, rfl, blk_new _ _ _ _ rfl, by go_grown⟩
  have HNB : Hid _ := newBook_calls W0
  have HAw : Hid _ := awake_calls
  have HNn : Hid _ := fun wx => new_nil cf cc cg cp id wx
  have hGi := infoCfg cf cc cg cp
  go_enter Tryz.func3, Tryz.ntmps3
  go_wp2_with fail
  refine Calls.mono HNB.out ?_
  rintro e w1 ⟨p, b, x, y, rfl, K1, b1, hp, hb, hx, hy⟩
  have X1 := X0.below b1
  have HNw : Hid _ := new_bad cf cc cg cp id w1 K1 (by decide) (fun h => by omega)
  go_wp2_with ((with_reducible refine rd_row (ty := 23) X1 Tryz.underlying23 rfl hGi ?_ ?_); rfl)
  refine Calls.mono HNw.out ?_
  rintro e w2 ⟨rfl, b2⟩
  have KK := K1.below b2
  have X2 := X1.below b2
  have BB2 := chain (chain B0 b1) b2
  have g0 : w2.cell? ⟨w.heap.size, 0, none⟩ = some (.int .i64 cf) := X2.cell rfl
  have g1 : w2.cell? ⟨w.heap.size, 1, none⟩ = some (.int .i64 cc) := X2.cell rfl
  have g2 : w2.cell? ⟨w.heap.size, 2, none⟩ = some (.int .i64 cg) := X2.cell rfl
  have g3 : w2.cell? ⟨w.heap.size, 3, none⟩ = some (.int .i64 cp) := X2.cell rfl
  obtain ⟨E, hE⟩ : ∃ E, (opnd [] s).2.2 = E := ⟨_, rfl⟩
  have hVe := verify_err cf cc cg cp ⟨#[107]⟩ s w2 KK (by decide) (by unfold maxLen; omega) hF (opnd_empty s)
  rw [hE] at hVe
  obtain ⟨zn3, zs3, zb3, hV3⟩ := light_some hVe
  have HV3 : Hid _ := hV3
  clear hV3 hVe hE hA HNw X1
  go_wp2_with ((with_reducible refine rd_row (ty := 23) X2 Tryz.underlying23 rfl hGi ?_ ?_); rfl)
  refine Calls.mono HV3.out ?_
  rintro e w3 ⟨rfl, b3⟩
  obtain ⟨W4, hW4, B4⟩ : ∃ W4, w3.alloc (.cells #[.int .i64 zn3, .string zs3, .bool zb3] 31) = W4 ∧ Below w3.heap.size w3 W4 := ⟨_, rfl, by go_grown⟩
  have X10 := (X2.below b3).below B4
  have BB10 := chain (chain BB2 b3) B4
  have q1 : W4.cell? ⟨w.heap.size, 1, none⟩ = some (.int .i64 cc) := X10.cell rfl
  clear HV3 X2 BB2 g0 g1 g2 g3
  go_wp2_with ((with_reducible refine rd_row (ty := 23) X10 Tryz.underlying23 rfl hGi ?_ ?_); rfl)
  refine (HNn.out _).mono ?_
  rintro e w11 ⟨rfl, b11⟩
  have X11 := X10.below b11
  have BB11 := chain BB10 b11
  obtain ⟨zn12, zs12, zb12, hV12⟩ := light_some (verify_nil cf cc cg cp ⟨#[107]⟩ s w11)
  have HV12 : Hid _ := hV12
  clear hV12 X10 BB10
  go_wp2_with ((with_reducible refine rd_row (ty := 23) X11 Tryz.underlying23 rfl hGi ?_ ?_); rfl)
  refine Calls.mono HV12.out ?_
  rintro e w12 ⟨rfl, b12⟩
  obtain ⟨W13, hW13, B13⟩ : ∃ W13, w12.alloc (.cells #[.int .i64 zn12, .string zs12, .bool zb12] 31) = W13 ∧ Below w12.heap.size w12 W13 := ⟨_, rfl, by go_grown⟩
  have BB13 := chain (chain BB11 b12) B13
  clear HV12 X11 BB11
  go_wp2_with fail
  refine (nobody_request s _).mono ?_
  rintro e w13 ⟨rfl, rfl⟩
  go_wp2_with fail
  refine (nobody_ask s _).mono ?_
  rintro e w13 ⟨rfl, rfl⟩
  go_wp2_with fail
  refine (nobody_receive s _).mono ?_
  rintro e w13 ⟨rfl, rfl⟩
  go_wp2_with fail
  refine (nobody_waits _).mono ?_
  rintro e w13 ⟨rfl, rfl⟩
  go_wp2_with fail
  refine (nobody_answers _).mono ?_
  rintro e w13 ⟨rfl, rfl⟩
  go_wp2_with fail
  refine (nobody_tick _).mono ?_
  rintro e w13 ⟨rfl, rfl⟩
  go_wp2_with fail
  refine (HAw.out _).mono ?_
  rintro e w14 ⟨rfl, b14⟩
  go_wp2
  go_ret
  exact ⟨rfl, chain BB13 b14⟩

set_option maxHeartbeats 8000000 in
set_option maxRecDepth 100000 in
theorem new_good (cf cc cg cp id : Int) (s : ByteArray) (w : World) (hs : s.size ≤ 140737488351232) (hF : fitsB cf cc cg cp = true) (h0 : 0 ≤ id) (h1 : id < cc) : Calls Tryz.prog 3 #[.agg #[.int .i64 cf, .int .i64 cc, .int .i64 cg, .int .i64 cp], .int .i64 id, .string s] w fun e w' => e = .returned (.bool true) ∧ Below w.heap.size w w' := by
  have hA : 1 ≤ cf ∧ cf ≤ 4 ∧ 1 ≤ cc ∧ cc ≤ 16 ∧ 1 ≤ cg ∧ cg ≤ 4 ∧ 1 ≤ cp ∧ cp ≤ 64 := by
    unfold fitsB inB at hF
    simp only [Bool.and_eq_true, decide_eq_true_eq] at hF
    omega
  have dA : decide (1 ≤ cf) = true := decide_eq_true (by omega)
  have dB : decide (cf ≤ 4) = true := decide_eq_true (by omega)
  have dC : decide (1 ≤ cc) = true := decide_eq_true (by omega)
  have dD : decide (cc ≤ 16) = true := decide_eq_true (by omega)
  have dE : decide (1 ≤ cg) = true := decide_eq_true (by omega)
  have dF : decide (cg ≤ 4) = true := decide_eq_true (by omega)
  have dG : decide (1 ≤ cp) = true := decide_eq_true (by omega)
  have dH : decide (cp ≤ 64) = true := decide_eq_true (by omega)
  have d0 : decide (0 ≤ id) = true := decide_eq_true (by omega)
  have d1 : decide (id < cc) = true := decide_eq_true (by omega)
  obtain ⟨W0, hW0, X0, B0⟩ : ∃ W0, w.alloc (.cells #[.int .i64 cf, .int .i64 cc, .int .i64 cg, .int .i64 cp] 23) = W0 ∧ Blk W0 w.heap.size #[.int .i64 cf, .int .i64 cc, .int .i64 cg, .int .i64 cp] 23 ∧ Below w.heap.size w W0 := ⟨_, rfl, blk_new _ _ _ _ rfl, by go_grown⟩
  have HNB : Hid _ := newBook_calls W0
  have HAw : Hid _ := awake_calls
  have HNn : Hid _ := fun wx => new_nil cf cc cg cp id wx
  have hGi := infoCfg cf cc cg cp
  go_enter Tryz.func3, Tryz.ntmps3
  go_wp2_with fail
  refine Calls.mono HNB.out ?_
  rintro e w1 ⟨p, b, x, y, rfl, K1, b1, hp, hb, hx, hy⟩
  have X1 := X0.below b1
  have HNw : Hid _ := new_ok cf cc cg cp id w w1 (chain B0 b1) (by have := B0.size; omega) K1 (by decide) hF h0 h1
  go_wp2_with ((with_reducible refine rd_row (ty := 23) X1 Tryz.underlying23 rfl hGi ?_ ?_); rfl)
  refine Calls.mono HNw.out ?_
  rintro e w2 ⟨q, tm, rfl, H2, b2⟩
  have KK := H2.book
  clear H2
  have X2 := X1.below b2
  have BB2 := chain (chain B0 b1) b2
  have g0 : w2.cell? ⟨w.heap.size, 0, none⟩ = some (.int .i64 cf) := X2.cell rfl
  have g1 : w2.cell? ⟨w.heap.size, 1, none⟩ = some (.int .i64 cc) := X2.cell rfl
  have g2 : w2.cell? ⟨w.heap.size, 2, none⟩ = some (.int .i64 cg) := X2.cell rfl
  have g3 : w2.cell? ⟨w.heap.size, 3, none⟩ = some (.int .i64 cp) := X2.cell rfl
  obtain ⟨E, hE⟩ : ∃ E, (opnd [] s).2.2 = E := ⟨_, rfl⟩
  have hVe := verify_err cf cc cg cp ⟨#[107]⟩ s w2 KK (by decide) (by unfold maxLen; omega) hF (opnd_empty s)
  rw [hE] at hVe
  obtain ⟨zn3, zs3, zb3, hV3⟩ := light_some hVe
  have HV3 : Hid _ := hV3
  clear hV3 hVe hE hA HNw X1
  go_wp2_with ((with_reducible refine rd_row (ty := 23) X2 Tryz.underlying23 rfl hGi ?_ ?_); rfl)
  refine Calls.mono HV3.out ?_
  rintro e w3 ⟨rfl, b3⟩
  obtain ⟨W4, hW4, B4⟩ : ∃ W4, w3.alloc (.cells #[.int .i64 zn3, .string zs3, .bool zb3] 31) = W4 ∧ Below w3.heap.size w3 W4 := ⟨_, rfl, by go_grown⟩
  have X10 := (X2.below b3).below B4
  have BB10 := chain (chain BB2 b3) B4
  have q1 : W4.cell? ⟨w.heap.size, 1, none⟩ = some (.int .i64 cc) := X10.cell rfl
  clear HV3 X2 BB2 g0 g1 g2 g3
  go_wp2_with ((with_reducible refine rd_row (ty := 23) X10 Tryz.underlying23 rfl hGi ?_ ?_); rfl)
  refine (HNn.out _).mono ?_
  rintro e w11 ⟨rfl, b11⟩
  have X11 := X10.below b11
  have BB11 := chain BB10 b11
  obtain ⟨zn12, zs12, zb12, hV12⟩ := light_some (verify_nil cf cc cg cp ⟨#[107]⟩ s w11)
  have HV12 : Hid _ := hV12
  clear hV12 X10 BB10
  go_wp2_with ((with_reducible refine rd_row (ty := 23) X11 Tryz.underlying23 rfl hGi ?_ ?_); rfl)
  refine Calls.mono HV12.out ?_
  rintro e w12 ⟨rfl, b12⟩
  obtain ⟨W13, hW13, B13⟩ : ∃ W13, w12.alloc (.cells #[.int .i64 zn12, .string zs12, .bool zb12] 31) = W13 ∧ Below w12.heap.size w12 W13 := ⟨_, rfl, by go_grown⟩
  have BB13 := chain (chain BB11 b12) B13
  clear HV12 X11 BB11
  go_wp2_with fail
  refine (nobody_request s _).mono ?_
  rintro e w13 ⟨rfl, rfl⟩
  go_wp2_with fail
  refine (nobody_ask s _).mono ?_
  rintro e w13 ⟨rfl, rfl⟩
  go_wp2_with fail
  refine (nobody_receive s _).mono ?_
  rintro e w13 ⟨rfl, rfl⟩
  go_wp2_with fail
  refine (nobody_waits _).mono ?_
  rintro e w13 ⟨rfl, rfl⟩
  go_wp2_with fail
  refine (nobody_answers _).mono ?_
  rintro e w13 ⟨rfl, rfl⟩
  go_wp2_with fail
  refine (nobody_tick _).mono ?_
  rintro e w13 ⟨rfl, rfl⟩
  go_wp2_with fail
  refine (HAw.out _).mono ?_
  rintro e w14 ⟨rfl, b14⟩
  go_wp2
  go_ret
  exact ⟨rfl, chain BB13 b14⟩

theorem new_calls (cf cc cg cp id : Int) (s : ByteArray) (w : World) (hs : s.size ≤ 140737488351232) : Calls Tryz.prog 3 #[.agg #[.int .i64 cf, .int .i64 cc, .int .i64 cg, .int .i64 cp], .int .i64 id, .string s] w fun e w' => e = .returned (.bool true) ∧ Below w.heap.size w w' := by
  cases hF : fitsB cf cc cg cp with
  | false => exact new_unfit cf cc cg cp id s w hF
  | true =>
    by_cases h0 : id < 0
    · exact new_low cf cc cg cp id s w hs hF h0
    · by_cases h1 : cc ≤ id
      · exact new_high cf cc cg cp id s w hs hF (by omega) h1
      · exact new_good cf cc cg cp id s w hs hF (by omega) (by omega)
end Go.Proofs.YtifbebomhhfaeaaGreat
