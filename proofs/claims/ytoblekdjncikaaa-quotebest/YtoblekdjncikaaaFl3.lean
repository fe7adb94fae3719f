/- Rows of floats of one's own. -/
import Derived.Test.YtoblekdjncikaaaFl2
import Derived.OwnWalk
import Derived.Handy
import Derived.Deep.QuietTactic
import Derived.BigQuiet
import Derived.BigRegion
import Derived.Deep.RegionWith
import Derived.Laws.AppendOwn
namespace Go.Proofs.Ytoblekdjncikaaa
open Go.RowKit
set_option linter.unusedSimpArgs false
set_option linter.unusedVariables false

theorem run_store_fl (P : Program) (w : World) (a : Addr) (k : FloatKind) (n : Nat) (m : Mode) : (store a (.float k n) m).run P w = stored P w a (.float k n) m := run_store P w a _ m rfl
attribute [go_sem] run_store_fl

def flC (l : List Nat) : List Value := l.map fun x => .float .f64 x
theorem flC_len (l : List Nat) : (flC l).length = l.length * 1 := by simp [flC]
theorem flC_at (l : List Nat) (i : Nat) (h : i < l.length) : (flC l)[i]? = some (.float .f64 l[i]) := by simp [flC, h]
theorem flC_snoc (l : List Nat) (x : Nat) : flC (l ++ [x]) = flC l ++ [.float .f64 x] := by simp [flC]
theorem infoFl : (Try.prog.info? 24).map (fun i => (i.zero, i.size, i.bytes)) = some (some (.float .f64 0), 1, 8) := by kernel_rfl
theorem fls_of_own {w : World} {base : Nat} {v : Value} {l : List Nat} (h : w.ownsRow base 24 1 v l.length (flC l)) (hl : ∀ x ∈ l, x < 18446744073709551616) : Fls w v l := by
  obtain ⟨h1, h2⟩ := id h
  rcases h2 with ⟨rfl, h3⟩ | ⟨g, cap, cur, rfl, hb, hg, hcap, h3⟩
  · exact Or.inl ⟨⟨_, _, rfl⟩, List.eq_nil_of_length_eq_zero h3⟩
  · have hgl : g < w.heap.size := by
      rcases Nat.lt_or_ge g w.heap.size with h4 | h4
      · exact h4
      · rw [Array.getElem?_eq_none h4] at hg; cases hg
    refine Or.inr ⟨g, 0, cap, rfl, hgl, hcap, fun i hi => ⟨fun j u hu => ?_, hl _ (List.getElem_mem hi)⟩⟩
    have hj : j = 0 ∧ u = .float .f64 l[i] := by
      match j, hu with
      | 0, hu => simp at hu; exact ⟨rfl, hu.symm⟩
      | j + 1, hu => simp at hu
    obtain ⟨rfl, rfl⟩ := hj
    have d0 := h.cells rfl _ _ (flC_at l i hi)
    rw [Addr.add_lit] at d0
    simpa using d0
theorem own_belowF {w w' : World} {base : Nat} {e : TypeId} {sz : Nat} {v : Value} {n : Nat} {xs : List Value} (ho : w.ownsRow base e sz v n xs) (hb : Below w.heap.size w w') : w'.ownsRow base e sz v n xs :=
  ho.kept (row := none) ⟨hb.os, hb.tape, hb.output, hb.size, fun k hk _ => hb.block k hk⟩ (by cases v.ownBlock <;> simp)
theorem below_grownF {B : Nat} {z w w' : World} {row : Option Nat} (h : Below B z w) (hg : w.grownBy w' row) (hr : ∀ k, row = some k → B ≤ k) (hbs : B ≤ w.heap.size) : Below B z w' :=
  ⟨hg.os.trans h.os, hg.tape.trans h.tape, hg.output.trans h.output, Nat.le_trans h.size hg.size, fun k hk => (hg.block k (by omega) (fun e => by have := hr k e.symm; omega)).trans (h.block k hk)⟩
theorem append_emptyF (p : Option Addr) (c : Nat) (w : World) : (Builtin.append_ #[22, 22] 22 #[.slice none 0 0, .slice p 0 c]).run Try.prog w = .ok (.slice none 0 0) w := by
  cases p with
  | none => kernel_rfl
  | some a => kernel_rfl
theorem wpList_append_givenF (w : World) {ops : Array Oper} {rest : List Oper} {o : Oper} {a : Act} {Q : Exit → Act → World → Prop} (hgd : o.guard = none) (s x : Operand) (t : TypeId)
    (ho : o.op = .call { callee := .builtin .append, args := #[s, x], argTypes := #[t, t] }) (v u : Value) (hs : a.eval s = v) (hx : a.eval x = u) {v' : Value} {w' : World}
    (hr : (Builtin.append_ #[t, t] o.type #[v, u]).run Try.prog w = .ok v' w') (h : wpList Try.prog ops Q rest (a.put o.dst v') w') : wpList Try.prog ops Q (o :: rest) a w :=
  wpList_plain hgd fun K hK => by
    unfold Oper.wp execOp
    simp only [ho, resolve, invoke, builtin, Sem.run_bind, Sem.run_pure, Result.andThen_ok, List.map_toArray, List.map_cons, List.map_nil, hs, hx, hr]
    exact hK _ _ h
/-- What a slice's cells are, as a row's. -/
theorem fls_cells {w : World} {b off : Nat} {l : List Nat} (hc : ∀ i (h : i < l.length), (∀ j u, ([Value.float .f64 l[i]] : List Value)[j]? = some u → w.cell? ⟨b, off + i * 1 + j, none⟩ = some u) ∧ l[i] < 18446744073709551616) :
    ∀ j u, (flC l)[j]? = some u → w.cell? ⟨b, off + j, none⟩ = some u := by
  intro j u hj
  have hjl : j < l.length := by have := (List.getElem?_eq_some_iff.1 hj).1; simpa [flC] using this
  rw [flC_at l j hjl] at hj
  cases hj
  have := (hc j hjl).1 0 _ rfl
  simpa using this
theorem flC_float {l : List Nat} {u : Value} (hu : u ∈ flC l) : ∃ x, u = .float .f64 x := by
  unfold flC at hu; obtain ⟨x, _, rfl⟩ := List.mem_map.1 hu; exact ⟨x, rfl⟩
theorem fls_bound {w : World} {v : Value} {l : List Nat} (h : Fls w v l) : ∀ x ∈ l, x < 18446744073709551616 := by
  intro x hx
  rcases h with ⟨_, rfl⟩ | ⟨b, off, cap, _, _, _, hc⟩
  · cases hx
  · obtain ⟨i, hi, rfl⟩ := List.mem_iff_getElem.1 hx
    exact (hc i hi).2
end Go.Proofs.Ytoblekdjncikaaa
