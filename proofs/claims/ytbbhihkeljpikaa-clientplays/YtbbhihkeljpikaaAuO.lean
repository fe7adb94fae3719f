/- Rows that are the call's own beside a book. -/
import Derived.Test.YtbbhihkeljpikaaAuB
import Derived.Test.YtbbhihkeljpikaaOpS
import Derived.Test.YtbbhihkeljpikaaQtS
namespace Go.Proofs.Ytbbhihkeljpikaa
open Go.RowKit
set_option linter.unusedSimpArgs false
set_option linter.unusedVariables false
variable {p b x y : Nat} {T : List ByteArray} {S : List (Int × ByteArray)}

theorem own_heap {w : World} {base : Nat} {e : TypeId} {sz : Nat} {v : Value} {n : Nat} {xs : List Value} (h : w.ownsRow base e sz v n xs) {k : Nat} (hk : v.ownBlock = some k) : ∃ cur, w.heap[k]? = some (.cells cur e (0, 0)) := by
  rcases h.2 with ⟨rfl, _⟩ | ⟨g, cap, cur, rfl, _, hg, _⟩
  · cases hk
  · simp only [Value.ownBlock, Option.some.injEq] at hk
    subst hk
    exact ⟨cur, hg⟩
theorem Book.apart {w : World} (h : Book w p b x y T S) {base : Nat} {e : TypeId} {sz : Nat} {v : Value} {n : Nat} {xs : List Value} (ho : w.ownsRow base e sz v n xs) (h1 : e ≠ 51) (h2 : e ≠ 77) :
    v.ownBlock ≠ some p ∧ v.ownBlock ≠ some b ∧ v.ownBlock ≠ some x ∧ v.ownBlock ≠ some y := by
  refine ⟨fun hk => ?_, fun hk => ?_, fun hk => ?_, fun hk => ?_⟩
  · obtain ⟨cur, hc⟩ := own_heap ho hk
    have := h.blk; unfold Blk at this; rw [hc] at this
    simp only [Option.some.injEq, Obj.cells.injEq] at this
    exact h1 this.2.1
  · obtain ⟨cur, hc⟩ := own_heap ho hk
    have := h.nums.blk; unfold Blk at this; rw [hc] at this
    simp only [Option.some.injEq, Obj.cells.injEq] at this
    exact h2 this.2.1
  · obtain ⟨cur, hc⟩ := own_heap ho hk
    rw [h.nums.mx] at hc; cases hc
  · obtain ⟨cur, hc⟩ := own_heap ho hk
    rw [h.nums.my] at hc; cases hc
theorem Book.grown {w w' : World} (h : Book w p b x y T S) {row : Option Nat} (hg : w.grownBy w' row) (hr : row ≠ some p ∧ row ≠ some b ∧ row ≠ some x ∧ row ≠ some y) : Book w' p b x y T S :=
  ⟨(hg.block p h.lts.1 (Ne.symm hr.1)).trans h.blk, (hg.block b h.lts.2.1 (Ne.symm hr.2.1)).trans h.nums.blk, (hg.block x h.lts.2.2.1 (Ne.symm hr.2.2.1)).trans h.nums.mx, (hg.block y h.lts.2.2.2 (Ne.symm hr.2.2.2)).trans h.nums.my, h.nums.ne⟩
theorem own_off2 {w w' : World} (h : Book w p b x y T S) {base : Nat} {e : TypeId} {sz : Nat} {v : Value} {n : Nat} {xs : List Value} (ho : w.ownsRow base e sz v n xs) (hoff : Off2 x y w w') : w'.ownsRow base e sz v n xs := by
  refine ⟨ho.1, ?_⟩
  rcases ho.2 with hn | ⟨g, cap, cur, rfl, hb, hgg, rest⟩
  · exact .inl hn
  · refine .inr ⟨g, cap, cur, rfl, hb, ?_, rest⟩
    rw [hoff.block g (lt_of_heap hgg) (fun e => by subst e; rw [h.nums.mx] at hgg; cases hgg) (fun e => by subst e; rw [h.nums.my] at hgg; cases hgg)]
    exact hgg
theorem own_below {w w' : World} {base : Nat} {e : TypeId} {sz : Nat} {v : Value} {n : Nat} {xs : List Value} (ho : w.ownsRow base e sz v n xs) (hb : Below w.heap.size w w') : w'.ownsRow base e sz v n xs :=
  ho.kept (row := none) ⟨hb.os, hb.tape, hb.output, hb.size, fun k hk _ => hb.block k hk⟩ (by cases v.ownBlock <;> simp)
/-- A row's cell. -/
theorem own_at {w : World} {base : Nat} {e : TypeId} {sz : Nat} {v : Value} {n : Nat} {xs : List Value} (ho : w.ownsRow base e sz v n xs) (hn : 0 < n) :
    ∃ g cap, v = .slice (some ⟨g, 0, none⟩) n cap ∧ base ≤ g ∧ n ≤ cap ∧ ∀ j u, xs[j]? = some u → w.cell? ⟨g, j, none⟩ = some u := by
  obtain ⟨hl, h | ⟨g, cap, cur, hv, hb, hgg, hc, _, hs, ht⟩⟩ := ho
  · omega
  · refine ⟨g, cap, hv, hb, hc, fun j u hj => ?_⟩
    rw [← ht] at hj
    rw [cell_of_row w g j cur e (0, 0) hgg]
    have hjl := (List.getElem?_eq_some_iff.1 hj).1
    rw [List.length_take] at hjl
    rw [List.getElem?_take_of_lt (by omega)] at hj
    simpa using hj
theorem below_grown {B : Nat} {z w w' : World} {row : Option Nat} (h : Below B z w) (hg : w.grownBy w' row) (hr : ∀ k, row = some k → B ≤ k) (hbs : B ≤ w.heap.size) : Below B z w' :=
  ⟨hg.os.trans h.os, hg.tape.trans h.tape, hg.output.trans h.output, Nat.le_trans h.size hg.size, fun k hk => (hg.block k (by omega) (fun e => by have := hr k e.symm; omega)).trans (h.block k hk)⟩
theorem keepCell {w w' : World} (h : Below w.heap.size w w') {a : Addr} {u : Value} (hc : w.cell? a = some u) : w'.cell? a = some u := (h.cell (World.block_lt_of_cell? w _ hc)).trans hc
theorem keepCell2 {w w' : World} (h : Book w p b x y T S) (ho : Off2 x y w w') {a : Addr} {u : Value} (hc : w.cell? a = some u) : w'.cell? a = some u := by
  have hlt := World.block_lt_of_cell? w _ hc
  rw [World.cell?_of_block (w := w) (ho.block a.block hlt (fun e => by have := h.nums.mx; rw [← e] at this; simp [World.cell?, this] at hc) (fun e => by have := h.nums.my; rw [← e] at this; simp [World.cell?, this] at hc))]
  exact hc
theorem infoStr : (Try.prog.info? 9).map (fun i => (i.zero, i.size, i.bytes)) = some (some (.string ⟨#[]⟩), 1, 16) := by kernel_rfl
end Go.Proofs.Ytbbhihkeljpikaa
