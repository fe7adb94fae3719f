/- Small facts for the walks of the ledger's calls. -/
import Derived.Test.YtkgkflgopiabiaaLgM
namespace Go.Proofs.Ytkgkflgopiabiaa
open Go.RowKit
set_option linter.unusedSimpArgs false
set_option linter.unusedVariables false
variable {p b g : Nat} {l : List Kt}
theorem nms_one (w : World) (z : Int) : ∃ W1, (w.alloc (.cells #[.int .i64 z] 3)) = W1 ∧ Nms W1 w.heap.size [z] ∧ Below w.heap.size w W1 ∧ W1.heap.size = w.heap.size + 1 :=
  ⟨_, rfl, fun i hi => by
    have : i = 0 := by simp at hi; omega
    subst this
    exact (blk_new w w.heap.size #[.int .i64 z] 3 rfl).cell rfl, by go_grown, by simp⟩
theorem nms_two (w : World) (z y : Int) : ∃ W1, (w.alloc (.cells #[.int .i64 z, .int .i64 y] 3)) = W1 ∧ Nms W1 w.heap.size [z, y] ∧ Below w.heap.size w W1 ∧ W1.heap.size = w.heap.size + 1 :=
  ⟨_, rfl, fun i hi => by
    have : i = 0 ∨ i = 1 := by simp at hi; omega
    rcases this with rfl | rfl
    · exact (blk_new w w.heap.size #[.int .i64 z, .int .i64 y] 3 rfl).cell rfl
    · exact (blk_new w w.heap.size #[.int .i64 z, .int .i64 y] 3 rfl).cell rfl, by go_grown, by simp⟩
theorem Lg.numG {w : World} (h : Lg w p b g l) {i q : Nat} (hi : i < l.length) (hq : q < 4) : w.cell? ⟨b, i * 12 + 2 + q, none⟩ = some (.int .i64 ((kAt l i).n (2 + q))) := by
  have := h.num (2 + q) hi (by omega)
  rw [← Nat.add_assoc] at this
  exact this
theorem Lg.numL {w : World} (h : Lg w p b g l) {i q : Nat} (hi : i < l.length) (hq : q < 4) : w.cell? ⟨b, i * 12 + 6 + q, none⟩ = some (.int .i64 ((kAt l i).n (6 + q))) := by
  have := h.num (6 + q) hi (by omega)
  rw [← Nat.add_assoc] at this
  exact this
theorem Lg.set0 {w : World} (h : Lg w p b g l) {i : Nat} (v : Int) (hi : i < l.length) (hv : Inv g (upd l i 0 v)) : Lg (w.setCell ⟨b, i * 12, none⟩ (.int .i64 v)) p b g (upd l i 0 v) := h.set (j := 0) v hi (by omega) hv
theorem Lg.setG {w : World} (h : Lg w p b g l) {i q : Nat} (v : Int) (hi : i < l.length) (hq : q < 4) (hv : Inv g (upd l i (2 + q) v)) : Lg (w.setCell ⟨b, i * 12 + 2 + q, none⟩ (.int .i64 v)) p b g (upd l i (2 + q) v) := by
  have := h.set (j := 2 + q) v hi (by omega) hv
  rw [← Nat.add_assoc] at this
  exact this
theorem Lg.setL {w : World} (h : Lg w p b g l) {i q : Nat} (v : Int) (hi : i < l.length) (hq : q < 4) (hv : Inv g (upd l i (6 + q) v)) : Lg (w.setCell ⟨b, i * 12 + 6 + q, none⟩ (.int .i64 v)) p b g (upd l i (6 + q) v) := by
  have := h.set (j := 6 + q) v hi (by omega) hv
  rw [← Nat.add_assoc] at this
  exact this
theorem drewN_below (B : Nat) (w : World) (n : Nat) : Below B w (w.drewN n) := ⟨rfl, rfl, rfl, Nat.le_refl _, fun _ _ => rfl⟩
end Go.Proofs.Ytkgkflgopiabiaa
