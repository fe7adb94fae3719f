/- Vwap, of the program and of the document. -/
import Derived.Test.YtoblekdjncikaaaFl2
namespace Go.Proofs.Ytoblekdjncikaaa
open Go.RowKit
set_option linter.unusedSimpArgs false
set_option linter.unusedVariables false

/-- The sums so far, as far as their bits are fixed. -/
def vwS : List Nat → List Nat → Option Nat × Option Nat → Option Nat × Option Nat
  | p :: ps, v :: vs, s => vwS ps vs (fop .add s.1 (fop .mul (fcl p) (fcl v)), fop .add s.2 (fcl v))
  | _, _, s => s
/-- Behind k. -/
def vwK (ps vs : List Nat) (k : Nat) : Option Nat × Option Nat := vwS (ps.take k) (vs.take k) (some 0, some 0)
theorem vwS_snoc (ps vs : List Nat) (p v : Nat) (s : Option Nat × Option Nat) (h : ps.length = vs.length) : vwS (ps ++ [p]) (vs ++ [v]) s = (fop .add (vwS ps vs s).1 (fop .mul (fcl p) (fcl v)), fop .add (vwS ps vs s).2 (fcl v)) := by
  induction ps generalizing vs s with
  | nil => cases vs with
    | nil => rfl
    | cons => cases h
  | cons a ps ih => cases vs with
    | nil => cases h
    | cons b vs => exact ih vs _ (by simpa using h)
theorem vwK_succ (ps vs : List Nat) (k : Nat) (hl : ps.length = vs.length) (hk : k < ps.length) : vwK ps vs (k + 1) = (fop .add (vwK ps vs k).1 (fop .mul (fcl ps[k]) (fcl (vs[k]'(hl ▸ hk)))), fop .add (vwK ps vs k).2 (fcl (vs[k]'(hl ▸ hk)))) := by
  unfold vwK
  have hk2 : k < vs.length := hl ▸ hk
  rw [List.take_succ_eq_append_getElem hk, List.take_succ_eq_append_getElem hk2]
  exact vwS_snoc _ _ _ _ _ (by simp [hl])
def vwR (ps vs : List Nat) : Nat × Int :=
  if ps.length = vs.length then ((fop .quo (vwK ps vs ps.length).1 (vwK ps vs ps.length).2).getD 9221120237041090561, 0) else (0, 1)
theorem told_getD {x : Nat} {o : Option Nat} (h : fcl x = o) : toldR x = o.getD 9221120237041090561 := by
  subst h; unfold toldR fcl; cases fnan x <;> rfl

set_option maxHeartbeats 1000000 in
set_option maxRecDepth 100000 in
theorem refVwap_calls (pv vv : Value) (ps vs : List Nat) (w : World) (hp : Fls w pv ps) (hv : Fls w vv vs) (hz : ps.length ≤ 1000) (hz2 : vs.length ≤ 1000) :
    Calls Try.prog 9 #[pv, vv] w fun e w' => e = .returned (.tuple #[.float .f64 (vwR ps vs).1, .int .i64 (vwR ps vs).2]) ∧ Below w.heap.size w w' := by
  obtain ⟨pa, pc, rfl, hpc⟩ := hp.any
  obtain ⟨va, vc, rfl, hvc⟩ := hv.any
  by_cases hl : ps.length = vs.length
  rotate_left
  · have hR : vwR ps vs = (0, 1) := by unfold vwR; rw [if_neg hl]
    have hd : ((ps.length : Int) != (vs.length : Int)) = true := by simp; omega
    rw [hR]
    clear hR hpc hvc hp hv
    go_enter Try.func9, Try.ntmps9
    go_wp2
    go_ret2
    exact ⟨rfl, Below.refl _ _⟩
  have hR : vwR ps vs = ((fop .quo (vwK ps vs ps.length).1 (vwK ps vs ps.length).2).getD 9221120237041090561, 0) := by unfold vwR; rw [if_pos hl]
  have hd : ((ps.length : Int) != (vs.length : Int)) = false := by simp; omega
  rw [hR]
  clear hR
  have HP : Hid _ := hpc
  have HV : Hid _ := hvc
  have HL : Hid _ := hl
  clear hpc hvc hp hv hl
  generalize hA : (fop .quo (vwK ps vs ps.length).1 (vwK ps vs ps.length).2).getD 9221120237041090561 = A at *
  have HA : Hid _ := hA
  clear hA
  have cv : ∀ z w, (convert 24 24 (.float .f64 z)).run Try.prog w = .ok (.float .f64 z) w := fun z w => run_convert_float_float w 24 24 .f64 .f64 z z (by rw [Try.underlying24]; rfl) Try.underlying24 (by simp [floatToFloatBits])
  have f1 : ∀ x y t w, (binOp .mul t (.float .f64 x) (.float .f64 y)).run Try.prog w = .ok (.float .f64 (fres .mul x y w)) (fwd .mul x y w) := fun x y t w => run_float w .mul t x y (by simp)
  have f2 : ∀ x y t w, (binOp .add t (.float .f64 x) (.float .f64 y)).run Try.prog w = .ok (.float .f64 (fres .add x y w)) (fwd .add x y w) := fun x y t w => run_float w .add t x y (by simp)
  have f3 : ∀ x y t w, (binOp .quo t (.float .f64 x) (.float .f64 y)).run Try.prog w = .ok (.float .f64 (fres .quo x y w)) (fwd .quo x y w) := fun x y t w => run_float w .quo t x y (by simp)
  have fc := fwd_cell
  go_enter Try.func9, Try.ntmps9
  go_wp2_with fail
  go_loopw [6, 7, 8] (fun s a i wr => ∃ (k x y : Nat), k ≤ ps.length ∧ i = .int .i64 k ∧ s = .float .f64 x ∧ a = .float .f64 y ∧ (fcl x, fcl y) = vwK ps vs k ∧ Below w.heap.size w wr) (fun _ _ i _ => ps.length - (intOf i).toNat)
  case atStart => exact ⟨0, 0, 0, Nat.zero_le _, rfl, rfl, rfl, rfl, Below.refl _ _⟩
  case round =>
    obtain ⟨k, x, y, hk, rfl, rfl, rfl, hxy, hb⟩ := hrel
    have HXY : Hid _ := hxy
    clear hxy
    by_cases hlt : k < ps.length
    · have hd : decide ((k : Int) < (ps.length : Int)) = true := by simp only [decide_eq_true_eq]; omega
      obtain ⟨gp, op, rfl, hpl, hgp, hcp, hbp⟩ := HP.out k hlt
      have hk2 : k < vs.length := HL.out ▸ hlt
      obtain ⟨gv, ov, rfl, hvl, hgv, hcv, hbv⟩ := HV.out k hk2
      have c1 : wr.cell? ⟨gp, op + k, none⟩ = some (.float .f64 ps[k]) := (hb.cell (p := ⟨gp, op + k, none⟩) hgp).trans (by simpa using hcp 0 _ rfl)
      have c2 : wr.cell? ⟨gv, ov + k, none⟩ = some (.float .f64 vs[k]) := (hb.cell (p := ⟨gv, ov + k, none⟩) hgv).trans (by simpa using hcv 0 _ rfl)
      have HS : Hid _ := vwK_succ ps vs k HL.out hlt
      generalize ps[k] = p at *
      generalize vs[k] = v at *
      clear hcp hcv
      go_wp2_with fail
      go_region
      go_wp2_with fail
      refine ⟨⟨k + 1, _, _, by omega, by go_num, rfl, rfl, ?_, ?_⟩, by simp [intOf]; omega⟩
      · rw [HS.out, ← HXY.out, fcl_op, fcl_op, fcl_op]
      · repeat (first | exact hb | apply Below.fwd | apply Below.drew)
    · have hd : decide ((k : Int) < (ps.length : Int)) = false := by simp only [decide_eq_false_iff_not]; omega
      obtain rfl : k = ps.length := by omega
      go_wp2_with fail
      refine (one_calls _ _).mono ?_
      rintro e w1 ⟨rfl, rfl⟩
      go_wp2
      go_ret2
      refine ⟨?_, ?_⟩
      · rw [← HA.out, ← HXY.out, told_getD (fcl_op _ _ _ _)]; rfl
      · repeat (first | exact hb | apply Below.fwd | apply Below.drew)
set_option maxHeartbeats 1000000 in
set_option maxRecDepth 100000 in
theorem vwap_calls (pv vv : Value) (ps vs : List Nat) (w : World) (hp : Fls w pv ps) (hv : Fls w vv vs) (hz : ps.length ≤ 1000) (hz2 : vs.length ≤ 1000) :
    Calls Try.prog 8 #[pv, vv] w fun e w' => e = .returned (.tuple #[.float .f64 (vwR ps vs).1, .int .i64 (vwR ps vs).2]) ∧ Below w.heap.size w w' := by
  obtain ⟨pa, pc, rfl, hpc⟩ := hp.any
  obtain ⟨va, vc, rfl, hvc⟩ := hv.any
  by_cases hl : ps.length = vs.length
  rotate_left
  · have hR : vwR ps vs = (0, 1) := by unfold vwR; rw [if_neg hl]
    have hd : ((ps.length : Int) != (vs.length : Int)) = true := by simp; omega
    rw [hR]
    clear hR hpc hvc hp hv
    go_enter Try.func8, Try.ntmps8
    go_wp2
    go_ret2
    exact ⟨rfl, Below.refl _ _⟩
  have hR : vwR ps vs = ((fop .quo (vwK ps vs ps.length).1 (vwK ps vs ps.length).2).getD 9221120237041090561, 0) := by unfold vwR; rw [if_pos hl]
  have hd : ((ps.length : Int) != (vs.length : Int)) = false := by simp; omega
  rw [hR]
  clear hR
  have HP : Hid _ := hpc
  have HV : Hid _ := hvc
  have HL : Hid _ := hl
  clear hpc hvc hp hv hl
  generalize hA : (fop .quo (vwK ps vs ps.length).1 (vwK ps vs ps.length).2).getD 9221120237041090561 = A at *
  have HA : Hid _ := hA
  clear hA
  have cv : ∀ z w, (convert 24 24 (.float .f64 z)).run Try.prog w = .ok (.float .f64 z) w := fun z w => run_convert_float_float w 24 24 .f64 .f64 z z (by rw [Try.underlying24]; rfl) Try.underlying24 (by simp [floatToFloatBits])
  have f1 : ∀ x y t w, (binOp .mul t (.float .f64 x) (.float .f64 y)).run Try.prog w = .ok (.float .f64 (fres .mul x y w)) (fwd .mul x y w) := fun x y t w => run_float w .mul t x y (by simp)
  have f2 : ∀ x y t w, (binOp .add t (.float .f64 x) (.float .f64 y)).run Try.prog w = .ok (.float .f64 (fres .add x y w)) (fwd .add x y w) := fun x y t w => run_float w .add t x y (by simp)
  have f3 : ∀ x y t w, (binOp .quo t (.float .f64 x) (.float .f64 y)).run Try.prog w = .ok (.float .f64 (fres .quo x y w)) (fwd .quo x y w) := fun x y t w => run_float w .quo t x y (by simp)
  have fc := fwd_cell
  go_enter Try.func8, Try.ntmps8
  go_wp2_with fail
  go_loopw [6, 7, 17] (fun s a i wr => ∃ (k x y : Nat), k ≤ ps.length ∧ i = .int .i64 k ∧ s = .float .f64 x ∧ a = .float .f64 y ∧ (fcl x, fcl y) = vwK ps vs k ∧ Below w.heap.size w wr) (fun _ _ i _ => ps.length - (intOf i).toNat)
  case atStart => exact ⟨0, 0, 0, Nat.zero_le _, rfl, rfl, rfl, rfl, Below.refl _ _⟩
  case round =>
    obtain ⟨k, x, y, hk, rfl, rfl, rfl, hxy, hb⟩ := hrel
    have HXY : Hid _ := hxy
    clear hxy
    by_cases hlt : k < ps.length
    · have hd : decide ((k : Int) < (ps.length : Int)) = true := by simp only [decide_eq_true_eq]; omega
      obtain ⟨gp, op, rfl, hpl, hgp, hcp, hbp⟩ := HP.out k hlt
      have hk2 : k < vs.length := HL.out ▸ hlt
      obtain ⟨gv, ov, rfl, hvl, hgv, hcv, hbv⟩ := HV.out k hk2
      have c1 : wr.cell? ⟨gp, op + k, none⟩ = some (.float .f64 ps[k]) := (hb.cell (p := ⟨gp, op + k, none⟩) hgp).trans (by simpa using hcp 0 _ rfl)
      have c2 : wr.cell? ⟨gv, ov + k, none⟩ = some (.float .f64 vs[k]) := (hb.cell (p := ⟨gv, ov + k, none⟩) hgv).trans (by simpa using hcv 0 _ rfl)
      have HS : Hid _ := vwK_succ ps vs k HL.out hlt
      generalize ps[k] = p at *
      generalize vs[k] = v at *
      clear hcp hcv
      go_wp2_with fail
      refine ⟨⟨k + 1, _, _, by omega, by go_num, rfl, rfl, ?_, ?_⟩, by simp [intOf]; omega⟩
      · rw [HS.out, ← HXY.out, fcl_op, fcl_op, fcl_op]
      · repeat (first | exact hb | apply Below.fwd | apply Below.drew)
    · have hd : decide ((k : Int) < (ps.length : Int)) = false := by simp only [decide_eq_false_iff_not]; omega
      obtain rfl : k = ps.length := by omega
      go_wp2_with fail
      refine (told_calls _ _).mono ?_
      rintro e w1 ⟨rfl, rfl⟩
      go_wp2
      go_ret2
      refine ⟨?_, ?_⟩
      · rw [← HA.out, ← HXY.out, told_getD (fcl_op _ _ _ _)]; rfl
      · repeat (first | exact hb | apply Below.fwd | apply Below.drew)
end Go.Proofs.Ytoblekdjncikaaa
