/- Numbers as bytes, one behind the other; what a builder leaves as it was. -/
import Derived.Test.YtglbfeccdibmiaaLgBd
namespace Go.Proofs.Ytglbfeccdibmiaa
open Go.RowKit Go.Shelf
set_option linter.unusedSimpArgs false
set_option linter.unusedVariables false

/-- Numbers, one behind the other. -/
def encs (m : List Int) : List UInt8 := m.flatMap fun n => enc n.toNat
theorem encs_take (m : List Int) (k : Nat) (h : k < m.length) : encs (m.take (k + 1)) = encs (m.take k) ++ enc m[k].toNat := by
  unfold encs
  rw [List.take_succ_eq_append_getElem h, List.flatMap_append]; simp
theorem encs_len (m : List Int) : (encs m).length ≤ 10 * m.length := by
  unfold encs
  induction m with
  | nil => simp
  | cons n m ih => rw [List.flatMap_cons, List.length_append, List.length_cons]; have := enc_le n.toNat; omega
theorem own_belowL {w w' : World} {base : Nat} {e : TypeId} {sz : Nat} {v : Value} {n : Nat} {xs : List Value} (ho : w.ownsRow base e sz v n xs) (hb : Below w.heap.size w w') : w'.ownsRow base e sz v n xs :=
  ho.kept (row := none) ⟨hb.os, hb.tape, hb.output, hb.size, fun k hk _ => hb.block k hk⟩ (by cases v.ownBlock <;> simp)
/-- A row's cell. -/
theorem Bdr.below {B b : Nat} {l : List UInt8} {w w' : World} (h : Bdr B b l w) (hb : Below w.heap.size w w') : Bdr B b l w' := by
  have key : ∀ p, Lib.BuilderAt 81 5 B b p (Lib.byteCells l) w → Lib.BuilderAt 81 5 B b p (Lib.byteCells l) w' := by
    intro p hp
    have hlt := hp.lt
    obtain ⟨h1, v, h2, h3, h4⟩ := hp
    exact ⟨h1, v, (hb.block b hlt).trans h2, own_belowL h3 hb, h4⟩
  rcases h with h | h
  · exact Or.inl (key _ h)
  · exact Or.inr (key _ h)
theorem Bdr.lt {B b : Nat} {l : List UInt8} {w : World} (h : Bdr B b l w) : B ≤ b ∧ b < w.heap.size := by
  rcases h with h | h
  · exact ⟨h.1, h.lt⟩
  · exact ⟨h.1, h.lt⟩
theorem kept_below {b : Nat} {w w' : World} (hb : Below w.heap.size w w') : Lib.OthersKept 5 (some b) w w' := fun k o hk _ _ => by
  have hlt : k < w.heap.size := (Array.getElem?_eq_some_iff.1 hk).1
  exact (hb.block k hlt).trans hk
theorem Blk.kept {b q : Nat} {w w' : World} {cs : Array Value} {t : TypeId} (X : Blk w q cs t) (h : Lib.OthersKept 5 (some b) w w') (hq : q ≠ b) (ht : t ≠ 5) : Blk w' q cs t :=
  h q _ X (fun e => hq (Option.some.inj e)) (fun c fz e => by injection e with _ e2; exact ht e2)
end Go.Proofs.Ytglbfeccdibmiaa
