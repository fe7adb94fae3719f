/- The document's auction: each call in one; it stays where the program's is written. -/
import Derived.Test.YteinfckkpkbnlaaCkRn
import Derived.Test.YteinfckkpkbnlaaCkRc
import Derived.Test.YteinfckkpkbnlaaCkE
namespace Go.Proofs.Yteinfckkpkbnlaa
open Go.RowKit
set_option linter.unusedSimpArgs false
set_option linter.unusedVariables false
variable {p b : Nat} {a : Au} {R g cap : Nat} {rs : Nat → Value}

theorem Blk.unlike {w : World} {x y : Nat} {c1 c2 : Array Value} {t1 t2 : TypeId} (h1 : Blk w x c1 t1) (h2 : Blk w y c2 t2) (ht : t1 ≠ t2) : x ≠ y := by
  intro e
  subst e
  have h : w.heap[x]? = some (.cells c1 t1) := h1
  have k : w.heap[x]? = some (.cells c2 t2) := h2
  rw [h] at k
  injection k with k
  injection k with _ k
  exact ht k
theorem Rd.keepT {w w' : World} {v : Value} {l : List Int} (h : Rd w v l) (ht : Tyd w v) (hk : ∀ g cur, Blk w g cur 3 → w'.heap[g]? = w.heap[g]?) (hs : w.heap.size ≤ w'.heap.size) : Rd w' v l := by
  obtain ⟨c, cap, rfl, hc⟩ := h
  refine ⟨c, cap, rfl, fun i hi => ?_⟩
  obtain ⟨g, off, rfl, hg, hx⟩ := hc i hi
  obtain ⟨cur, X⟩ := ht g off _ _ rfl
  exact ⟨g, off, rfl, Nat.lt_of_lt_of_le hg hs, (World.cell?_of_block (w := w) (a := ⟨g, off + i, none⟩) (hk g cur X)).trans hx⟩
theorem Tyd.keepT {w w' : World} {v : Value} (ht : Tyd w v) (hk : ∀ g cur, Blk w g cur 3 → w'.heap[g]? = w.heap[g]?) : Tyd w' v := fun g off n cp e => by
  obtain ⟨cur, X⟩ := ht g off n cp e
  exact ⟨cur, (hk g cur X).trans X⟩
theorem Rf.keep {w w' : World} (h : Rf w a R g cap rs) (hg : w'.heap[g]? = w.heap[g]?) (hk : ∀ g cur, Blk w g cur 3 → w'.heap[g]? = w.heap[g]?) (hs : w.heap.size ≤ w'.heap.size) : Rf w' a R g cap rs :=
  ⟨h.rd, Nat.lt_of_lt_of_le h.lt hs, fun i hi => (World.cell?_of_block (w := w) (a := ⟨g, i, none⟩) hg).trans (h.cell i hi), h.sl, h.now.keepT h.nowT hk hs, fun h2 => (h.was h2).keepT (h.wasT h2) hk hs, h.cp, h.inv, h.nowT.keepT hk, fun h2 => (h.wasT h2).keepT hk⟩
/-- The row of rounds is no block that begins with a number. -/
theorem Rf.ne {w : World} (h : Rf w a R g cap rs) {k : Nat} {z : Int} (hk : w.cell? ⟨k, 0, none⟩ = some (.int .i64 z)) : g ≠ k := by
  have h1 := h.one
  have c0 := h.cell 0 (by omega)
  obtain ⟨c, n, cp, hsl⟩ := h.sl 0 (by omega)
  rw [hsl] at c0
  intro e
  rw [← e, c0] at hk
  cases hk
theorem Rf.ofc {w w' : World} {a' : Au} (h : Rf w a R g cap rs) (hl : Lc w p b a') (ho : Ofc p b w w') : Rf w' a R g cap rs := by
  have hgp : g ≠ p := h.ne (show w.cell? ⟨p, 0, none⟩ = some (.int .i64 a'.supply) from hl.blk.cell rfl)
  have hgb : g ≠ b := h.ne (by have := hl.was (i := 0) (by have := hl.inv.len; omega); rw [Nat.zero_mul] at this; exact this)
  exact h.keep (ho.block g h.lt hgp hgb) (fun g cur X => ho.block g X.lt (X.unlike hl.blk (by decide)) (X.unlike hl.row (by decide))) ho.size
/-- Both stay where the box of a result is written. -/
theorem both_row {w W : World} {a' : Au} {k : Nat} {z : Int} {cs cs' : Array Value} (h : Rf w a R g cap rs) (hl : Lc w p b a') (X : Blk w k cs 30) (hz : w.cell? ⟨k, 0, none⟩ = some (.int .i64 z)) (hW : w.setRow k cs' = W) : Rf W a R g cap rs ∧ Lc W p b a' := by
  have hb : ∀ j, j ≠ k → W.heap[j]? = w.heap[j]? := fun j hj => by rw [← hW]; exact setRow_other w k j cs' hj
  have hs : W.heap.size = w.heap.size := by rw [← hW]; simp
  refine ⟨h.keep (hb g (h.ne hz)) (fun g cur Y => hb g (Y.unlike X (by decide))) (by omega), ⟨(hb p (hl.blk.unlike X (by decide))).trans hl.blk, (hb b (hl.row.unlike X (by decide))).trans hl.row, hl.ne, hl.inv⟩⟩
theorem refNext_calls (w : World) (h : Rf w a R g cap rs) : Calls Try.prog 15 #[rfV a R g cap] w fun e w' => ∃ R' g' cap' rs', e = .returned (.tuple #[rfV a.next.2.2 R' g' cap', .int .i64 a.next.2.1]) ∧ Rf w' a.next.2.2 R' g' cap' rs' ∧ Below w.heap.size w w' := by
  unfold Au.next
  by_cases h0 : a.state = 0
  · rw [if_neg (fun x => x h0)]
    by_cases hw : a.want ≤ a.supply
    · rw [if_pos hw]
      exact (next_sold w h h0 hw).mono fun e w' ⟨e1, r, bb⟩ => ⟨R, g, cap, rs, e1, r, bb⟩
    · rw [if_neg hw]
      by_cases hv : 1099511627776 < a.price + a.step
      · rw [if_pos hv]
        exact (next_void w h h0 hw hv).mono fun e w' ⟨e1, r, bb⟩ => ⟨R, g, cap, rs, e1, r, bb⟩
      · rw [if_neg hv]
        exact (next_on w h h0 hw hv).mono fun e w' ⟨g', cap', rs', e1, r, bb⟩ => ⟨R + 1, g', cap', rs', e1, r, bb⟩
  · rw [if_pos h0]
    exact (next_closed w h h0).mono fun e w' ⟨e1, r, bb⟩ => ⟨R, g, cap, rs, e1, r, bb⟩
theorem refBid_calls (w : World) (h : Rf w a R g cap rs) (who n : Int) : Calls Try.prog 16 #[rfV a R g cap, .int .i64 who, .int .i64 n] w fun e w' => ∃ R' g' cap' rs', e = .returned (.tuple #[rfV (a.bid who n).2 R' g' cap', .int .i64 (a.bid who n).1]) ∧ Rf w' (a.bid who n).2 R' g' cap' rs' ∧ Below w.heap.size w w' := by
  have hrd := h.rd
  have h1 := h.one
  unfold Au.bid
  by_cases h0 : a.state = 0
  · rw [if_neg (fun x => x h0)]
    by_cases hb : who < 0
    · rw [if_pos (Or.inl (by omega))]
      exact (bid_who w h who n h0 hb).mono fun e w' ⟨e1, r, bb⟩ => ⟨R, g, cap, rs, e1, r, bb⟩
    · by_cases hc : (a.ds.length : Int) ≤ who
      · rw [if_pos (Or.inl (by omega))]
        exact (bid_arg0 w h who n h0 hb hc).mono fun e w' ⟨e1, r, bb⟩ => ⟨R, g, cap, rs, e1, r, bb⟩
      · by_cases hd : n < 0
        · rw [if_pos (Or.inr (by omega))]
          exact (bid_arg1 w h who n h0 hb hc hd).mono fun e w' ⟨e1, r, bb⟩ => ⟨R, g, cap, rs, e1, r, bb⟩
        · by_cases he : 1048576 < n
          · rw [if_pos (Or.inr (by omega))]
            exact (bid_arg2 w h who n h0 hb hc hd he).mono fun e w' ⟨e1, r, bb⟩ => ⟨R, g, cap, rs, e1, r, bb⟩
          · rw [if_neg (by omega)]
            by_cases hx : 1 < a.round ∧ wasOf a.ds who.toNat < n
            · rw [if_pos hx]
              exact (bid_rise w h who n h0 ⟨by omega, by omega⟩ ⟨by omega, by omega⟩ hx.1 hx.2).mono fun e w' ⟨e1, r, bb⟩ => ⟨R, g, cap, rs, e1, r, bb⟩
            · rw [if_neg hx]
              by_cases hR : R = 1
              · exact (bid_one w h who n h0 ⟨by omega, by omega⟩ ⟨by omega, by omega⟩ hR).mono fun e w' ⟨g', cap', rs', e1, r, bb⟩ => ⟨R, g', cap', rs', e1, r, bb⟩
              · exact (bid_more w h who n h0 ⟨by omega, by omega⟩ ⟨by omega, by omega⟩ (by omega) (fun e => hx ⟨by omega, e⟩)).mono fun e w' ⟨g', cap', rs', e1, r, bb⟩ => ⟨R, g', cap', rs', e1, r, bb⟩
  · rw [if_pos h0]
    exact (bid_closed w h who n h0).mono fun e w' ⟨e1, r, bb⟩ => ⟨R, g, cap, rs, e1, r, bb⟩
theorem next_over (a : Au) : a.next.1 = (decide (a.next.2.1 = 0) && !decide (a.next.2.2.state = 0)) := by
  unfold Au.next
  split
  · rfl
  · rename_i h0
    split
    · rfl
    · split
      · rfl
      · have : a.begin.state = 0 := by simpa [Au.begin] using h0
        simp [this]
end Go.Proofs.Yteinfckkpkbnlaa
