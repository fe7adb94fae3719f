/- A row of bytes that began as a text: its mark stands behind its last cell; bytes are appended to it one by one. -/
import Derived.Test.YtdkkleikabipgaaDoorShE
import Derived.Lib.ConvBytes
import Derived.Lib.Strings
namespace Go.Proofs.YtdkkleikabipgaaDoor
open Go.RowKit
set_option linter.unusedSimpArgs false
set_option linter.unusedVariables false

def Mrow (w : World) (base : Nat) (v : Value) (n : Nat) (xs : List Value) : Prop :=
  xs.length = n ∧ ∃ g cap cur fz, v = .slice (some ⟨g, 0, none⟩) n cap ∧ base ≤ g ∧ w.heap[g]? = some (.cells cur 5 fz) ∧ (fz = (0, 0) ∨ cap ≤ fz.1) ∧ n ≤ cap ∧ cur.size = cap ∧ cur.toList.take n = xs
theorem Mrow.of_own {w : World} {base b : Nat} {v : Value} {n : Nat} {xs : List Value} (h : w.ownsRow b 5 1 v n xs) (hn : 0 < n) (hb : base ≤ b) : Mrow w base v n xs := by
  obtain ⟨h1, h2⟩ := h
  rw [Nat.mul_one] at h1
  rcases h2 with ⟨_, h0⟩ | ⟨g, cap, cur, rfl, hg, hc, hcap, _, hsz, hx⟩
  · omega
  · rw [Nat.mul_one] at hsz hx
    exact ⟨h1, g, cap, cur, (0, 0), rfl, by omega, hc, Or.inl rfl, hcap, hsz, hx⟩
theorem Mrow.below {w w' : World} {base B : Nat} {v : Value} {n : Nat} {xs : List Value} (h : Mrow w base v n xs) (hb : Below B w w') (hB : w.heap.size ≤ B) : Mrow w' base v n xs := by
  obtain ⟨h1, g, cap, cur, fz, hv, hg, hc, hr⟩ := h
  have hlt : g < w.heap.size := by
    rcases Nat.lt_or_ge g w.heap.size with h | h
    · exact h
    · rw [Array.getElem?_eq_none h] at hc; cases hc
  exact ⟨h1, g, cap, cur, fz, hv, hg, (hb.block g (by omega)).trans hc, hr⟩
theorem Mrow.form {w : World} {base : Nat} {v : Value} {n : Nat} {xs : List Value} (h : Mrow w base v n xs) : ∃ g cap, v = .slice (some ⟨g, 0, none⟩) n cap ∧ base ≤ g ∧ g < w.heap.size ∧ ∀ j u, xs[j]? = some u → w.cell? ⟨g, j, none⟩ = some u := by
  obtain ⟨h1, g, cap, cur, fz, hv, hg, hc, _, _, _, hx⟩ := h
  refine ⟨g, cap, hv, hg, ?_, fun j u hj => ?_⟩
  · rcases Nat.lt_or_ge g w.heap.size with h | h
    · exact h
    · rw [Array.getElem?_eq_none h] at hc; cases hc
  · rw [cell_of_row w g j cur _ fz hc, ← Array.getElem?_toList]
    have hlt : j < xs.length := (List.getElem?_eq_some_iff.1 hj).1
    have : (cur.toList.take n)[j]? = some u := by rw [hx]; exact hj
    rw [List.getElem?_take] at this
    split at this
    · exact this
    · cases this

/-- '[]byte(s)'. -/
theorem text_row (s : ByteArray) (w : World) : ∃ cap W1, (convert 9 33 (.string s)).run Tryd.prog w = .ok (.slice (some ⟨w.heap.size, 0, none⟩) s.size cap) W1 ∧
    Mrow W1 w.heap.size (.slice (some ⟨w.heap.size, 0, none⟩) s.size cap) s.size (Lib.byteCells s.data.toList) ∧ Below w.heap.size w W1 := by
  refine ⟨_, _, Lib.run_convert_string_bytes (P := Tryd.prog) w 9 33 5 s Tryd.underlying9 Tryd.underlying33 Tryd.underlying5, ?_, ?_⟩
  · have hge := grownCap_ge w s.size 0 5
    have hsz : (Lib.bytesCells w 5 s).size = grownCap w s.size 0 5 := by
      simp [Lib.bytesCells]; omega
    have hls : s.data.toList.length = s.size := by rw [Lib.size_eq]
    refine ⟨by rw [Lib.byteCells_length, hls], w.heap.size, _, _, _, rfl, Nat.le_refl _, Lib.bytesWorld_at_new w 5 s, Or.inr (by rw [hsz]; exact Nat.le_refl _), hge, hsz, ?_⟩
    unfold Lib.bytesCells
    rw [Array.toList_append, List.take_append_of_le_length (by simp), List.take_of_length_le (by simp)]
    simp [Lib.byteCells]
  · exact ⟨rfl, rfl, rfl, by rw [Lib.bytesWorld_size]; omega, fun k hk => Lib.bytesWorld_at_old w _ s k hk⟩

/-- The walk's step at an append of one byte. -/
theorem wpl_appM {ops : Array Oper} {rest : List Oper} {dst : Option Tmp} {type : TypeId} {pos : String} {after : Array Edge} {a : Act} {w : World} {Q : Exit → Act → World → Prop} {s x : Operand}
    {base n : Nat} {v : Value} {xs : List Value} (hM : Mrow w base v n xs) (hn : n ≤ 100000000000) (hbase : base ≤ w.heap.size)
    (ad : Addr) (c : Nat) (u : Value) (hu : w.cell? ad = some u) (h1 : u.oneCell' = true) (hs : a.eval s = v) (hx : a.eval x = .slice (some ad) 1 c)
    (h : ∀ v' w', Mrow w' base v' (n + 1) (xs ++ [u]) → Below base w w' → wpList Tryd.prog ops Q rest (a.put dst v') w') :
    wpList Tryd.prog ops Q ({ dst := dst, op := .call { callee := .builtin .append, args := #[s, x], argTypes := #[33, 33] }, type := type, pos := pos, after := after, guard := none } :: rest) a w := by
  obtain ⟨i0, hi, hz0, hz1, hz2⟩ := info_parts infoByte
  obtain ⟨hl, g, cap, cur, fz, rfl, hg, hc, hfz, hcap, hsz, hxs⟩ := id hM
  obtain ⟨g', cap', e, _, hglt, hcell⟩ := hM.form
  simp only [Value.slice.injEq, Option.some.injEq, Addr.mk.injEq, and_true, true_and] at e
  obtain ⟨rfl, rfl⟩ := e
  refine wpList_append_arg w rfl s x 33 rfl 5 i0 (.int .u8 0) 1 1 Tryd.underlying33 hi hz0 hz1 hz2 rfl (by decide) g 0 n cap xs hs (by omega) (fun j u hj => by rw [Nat.zero_add]; exact hcell j u hj) ad 1 c [u] hx rfl ?_ ?_ ?_ ?_ ?_ ?_ ?_
  · intro j v hj
    cases j with
    | zero => simp at hj; subst hj; simpa [Addr.add] using hu
    | succ j => simp at hj
  · intro v hv; simp at hv; subst hv; exact h1
  · intro hroom j hj
    have hj0 : j = 0 := by simpa using hj
    subst hj0
    simp only [Nat.mul_one, Nat.add_zero, Nat.zero_add]
    refine ⟨?_, ?_⟩
    · rw [cell_of_row w g n cur _ fz hc, Array.getElem?_eq_getElem (by omega)]; rfl
    · simp only [World.frozen?, hc]
      rcases hfz with rfl | hfz
      · simp
      · simp; omega
  · unfold maxLen; omega
  · omega
  · intro hroom
    simp only [Nat.mul_one, Nat.zero_add]
    refine h _ _ ⟨by simp; omega, g, cap, cur.setIfInBounds n u, fz, rfl, hg, ?_, hfz, by omega, by simp [hsz], ?_⟩ ?_
    · show (w.setCell ⟨g, n, none⟩ u).heap[g]? = _
      rw [setCell_eq_setRow w g n cur _ fz u hc]
      exact setRow_heap w g cur _ _ fz hc
    · rw [Array.toList_setIfInBounds, List.take_succ_eq_append_getElem (by simp; omega), List.take_set, List.set_eq_of_length_le (by simp; omega), hxs]
      simp
    · exact (Below.refl _ _).setCell hg _
  · intro hfull v' w' hown hgrow
    exact h v' w' (Mrow.of_own hown (by omega) hbase) ((Below.refl _ _).grown hgrow hbase (fun k hk => by cases hk))
end Go.Proofs.YtdkkleikabipgaaDoor
