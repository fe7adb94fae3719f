/- What the document's calls want, in a seat that reads no book. -/
import Derived.Test.YtglbfeccdibmiaaCaBy
import Derived.Test.YtglbfeccdibmiaaCaI
import Derived.Test.YtglbfeccdibmiaaRowH
namespace Go.Proofs.Ytglbfeccdibmiaa
open Go.RowKit
set_option linter.unusedSimpArgs false
set_option linter.unusedVariables false

theorem below_grownU {B : Nat} {z w w' : World} {row : Option Nat} (h : Below B z w) (hg : w.grownBy w' row) (hr : ∀ k, row = some k → B ≤ k) (hbs : B ≤ w.heap.size) : Below B z w' :=
  h.trans ⟨hg.os, hg.tape, hg.output, hg.size, fun k hk => hg.block k (by omega) (fun e => by have := hr k e.symm; omega)⟩
/-- A guarded call as the next step of a held region. -/
theorem readyH_callK {P : Program} {md : Region.Mode} {ops : Array Oper} {Q : Exit → Act → World → Prop} {S : World → Prop} {fuel : Nat} {listed : Array Bool} {a : Act} {w : World} {i : Nat} {o : Oper} (ho : ops[i]? = some o) (hw : Region.wanted o (yielded ops a.tmps) = true)
    (h : ∀ K' : Act → World → Prop, Shut (∀ a w, S w → (S w → wpAnyH P md ops Q S fuel (listed.setIfInBounds i true) a w) → K' a w) → Oper.wp P o a w K' Q) : AllReadyH P md ops Q S fuel listed a w [i] :=
  AllReadyH.cons ho (fun K hK => by rw [if_pos hw]; exact h K hK) AllReadyH.nil
theorem rowK {w W : World} {k : Nat} {cs : Array Value} (hW : w.setRow k cs = W) {a : Addr} {u : Value} (h : w.cell? a = some u) (hn : a.block ≠ k) : W.cell? a = some u := by
  subst hW
  exact (World.cell?_of_block (setRow_other w k a.block cs hn)).trans h
theorem infoOd6 : (Try.prog.info? 31).map (fun i => (i.zero, i.size, i.bytes)) = some (some (.agg #[.int .i64 0, .int .i64 0, .int .i64 0, .int .i64 0, .int .i64 0, .bool false]), 6, 48) := by kernel_rfl
theorem oC_oneO (o : Od) : ∀ u ∈ oC o, u.oneCell' = true := by
  intro u hu
  unfold oC at hu
  simp only [List.mem_cons, List.not_mem_nil, or_false] at hu
  rcases hu with rfl | rfl | rfl | rfl | rfl | rfl <;> rfl
theorem odL_snocO (l : List Od) (o : Od) : odL (l ++ [o]) = odL l ++ oC o := by simp [odL]
theorem six_new (w : World) (o : Od) (t : TypeId) : ∀ j q, (oC o)[j]? = some q → (w.alloc (.cells (oC o).toArray t)).cell? ((⟨w.heap.size, 0, none⟩ : Addr).add j) = some q := fun j q hj => by
  rw [Addr.add_lit, Nat.zero_add]
  exact (blk_new w _ _ _ rfl).cell (by simpa using hj)
theorem offBy {k : Nat} {w w' : World} (h : Off k w w') : w.grownBy w' (some k) := ⟨h.os, h.tape, h.output, h.size, fun j hj hn => h.block j hj (fun e => hn (by rw [e]))⟩
theorem ownsRow_weakO {w : World} {base base2 n z : Nat} {t : TypeId} {v : Value} {xs : List Value} (h : w.ownsRow base t z v n xs) (hb : base2 ≤ base) : w.ownsRow base2 t z v n xs := by
  refine ⟨h.1, ?_⟩
  rcases h.2 with h2 | ⟨g, cap, cur, h1, h2, h3⟩
  · exact Or.inl h2
  · exact Or.inr ⟨g, cap, cur, h1, by omega, h3⟩
end Go.Proofs.Ytglbfeccdibmiaa
