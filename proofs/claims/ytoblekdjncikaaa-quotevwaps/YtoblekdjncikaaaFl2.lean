/- A float operation in one equation, whether its bits are fixed or not; what stands for a float when its bits are not. -/
import Derived.Test.YtoblekdjncikaaaQtMd
import Derived.Test.YtoblekdjncikaaaMem
import Derived.Test.YtoblekdjncikaaaOpS
namespace Go.Proofs.Ytoblekdjncikaaa
open Go.RowKit
set_option linter.unusedSimpArgs false
set_option linter.unusedVariables false

def fres (op : BinOp) (x y : Nat) (w : World) : Nat := match floatBits op .f64 x y with | some r => r | none => pickNan w x y
def fwd (op : BinOp) (x y : Nat) (w : World) : World := match floatBits op .f64 x y with | some _ => w | none => w.drew
theorem run_float {P : Program} (w : World) (op : BinOp) (t : TypeId) (x y : Nat) (ho : op = .add ∨ op = .sub ∨ op = .mul ∨ op = .quo) : (binOp op t (.float .f64 x) (.float .f64 y)).run P w = .ok (.float .f64 (fres op x y w)) (fwd op x y w) := by
  unfold fres fwd
  cases h : floatBits op .f64 x y with
  | some r => exact run_float_arith w op t .f64 x y r h
  | none => exact run_float_none w op t x y ho h
theorem fwd_heap (op : BinOp) (x y : Nat) (w : World) : (fwd op x y w).heap = w.heap := by unfold fwd; split <;> rfl
theorem fwd_cell (op : BinOp) (x y : Nat) (w : World) (p : Addr) : (fwd op x y w).cell? p = w.cell? p := by unfold fwd; split <;> rfl
theorem fwd_below (op : BinOp) (x y : Nat) (w : World) : Below w.heap.size w (fwd op x y w) := by
  unfold fwd; split
  · exact Below.refl _ _
  · exact (Below.refl _ _).drew
theorem Below.fwd {k : Nat} {w w' : World} (h : Below k w w') (op : BinOp) (x y : Nat) : Below k w (fwd op x y w') := by
  unfold Go.Proofs.Ytoblekdjncikaaa.fwd; split
  · exact h
  · exact h.drew

/-- A float as far as its bits are fixed. -/
def fcl (x : Nat) : Option Nat := if fnan x then none else some x
def fop (op : BinOp) (a b : Option Nat) : Option Nat := match a, b with | some x, some y => (floatBits op .f64 x y).bind fcl | _, _ => none
theorem nan_op {op : BinOp} {x y : Nat} (h : fnan x = true ∨ fnan y = true) : floatBits op .f64 x y = none := by
  have hx : fnan x = true → ∃ s t, Ieee.double.read x = .nan s t := fun h => ⟨_, _, read_nan (by simpa [fnan] using h)⟩
  have hy : fnan y = true → ∃ s t, Ieee.double.read y = .nan s t := fun h => ⟨_, _, read_nan (by simpa [fnan] using h)⟩
  unfold floatBits
  cases op <;> first | rfl | skip
  all_goals
    simp only [FloatKind.format, Ieee.Format.add, Ieee.Format.sub, Ieee.Format.mul, Ieee.Format.div]
    rcases h with h | h
    · obtain ⟨s, t, e⟩ := hx h
      rw [e]; rfl
    · obtain ⟨s, t, e⟩ := hy h
      rw [e]; cases Ieee.double.read x <;> rfl
theorem fcl_op (op : BinOp) (x y : Nat) (w : World) : fcl (fres op x y w) = fop op (fcl x) (fcl y) := by
  unfold fres fop
  cases hx : fnan x
  · cases hy : fnan y
    · rw [show fcl x = some x by simp [fcl, hx], show fcl y = some y by simp [fcl, hy]]
      cases h : floatBits op .f64 x y with
      | some r => simp [h]
      | none => simp [h, fcl, pickNan_nan]
    · rw [nan_op (.inr hy), show fcl x = some x by simp [fcl, hx], show fcl y = none by simp [fcl, hy]]
      simp [fcl, pickNan_nan]
  · rw [nan_op (.inl hx), show fcl x = none by simp [fcl, hx]]
    simp [fcl, pickNan_nan]
theorem told_fcl {x y : Nat} (h : fcl x = fcl y) : toldR x = toldR y := by
  unfold fcl at h
  unfold toldR
  cases hx : fnan x <;> cases hy : fnan y <;> simp [hx, hy] at h ⊢
  exact h

/-- Floats in a slice. -/
abbrev Fls (w : World) (v : Value) (l : List Nat) : Prop := Elems 1 (fun x : Nat => [.float .f64 x]) (fun x => x < 18446744073709551616) w v l
theorem cells_Fl : Try.prog.cellsOf 24 = 1 := by kernel_rfl
theorem bytes_Fl : Try.prog.bytesOf 24 = 8 := by kernel_rfl
section
open Go.ChangeShapes Go.WideShapes Go.ChangeAt Go.Deep
variable {H : Type} {enc : TypeId × Value → H} {w : World} {base : Nat} {spare : Nat → Bool} {held : Bool}
theorem open_fls {v : Value} {d : DataW H} {p : List MemPlace} (hv : v.cells = #[v]) (h : DataW.Trod enc Try.prog w base spare held 22 v d p) (hsz : (d.weights Try.prog 22).all (· ≤ reachBytes) = true) (hlt : ∀ x ∈ p, x.block < w.heap.size) :
    ∃ l : List Nat, Fls w v l ∧ l.length * 8 ≤ 140737488351232 := by
  refine open_elems (fun x : Nat => [.float .f64 x]) (fun x => x < 18446744073709551616) Try.underlying22 cells_Fl (fun _ => rfl) (by decide) bytes_Fl ?_ hv h hsz hlt
  intro fuel cs x hx hw
  cases fuel with
  | zero => simp [DataW.trod] at hx
  | succ n =>
    simp only [DataW.trod, Try.underlying24] at hx
    split at hx
    all_goals first | (rename_i he; cases he; done) | skip
    · rename_i he
      cases he
      split at hx
      · rename_i hk
        obtain ⟨rfl, hb⟩ := hk
        exact ⟨_, rfl, by simpa [Lit.wf] using hb⟩
      · cases hx
    · cases hx
end
end Go.Proofs.Ytoblekdjncikaaa
