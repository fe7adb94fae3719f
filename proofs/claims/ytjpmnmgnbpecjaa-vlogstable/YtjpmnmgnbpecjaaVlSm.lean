/- Messages, and bodies, that are the same. -/
import Derived.Test.YtjpmnmgnbpecjaaVlO
import Derived.Laws.StructEq
namespace Go.Proofs.Ytjpmnmgnbpecjaa
open Go.Shelf Go.RowKit Go.Lib Go.Sort
set_option linter.unusedSimpArgs false
set_option linter.unusedVariables false
theorem cellsIntS : Try.prog.cellsOf 3 = 1 := by kernel_rfl
theorem cellsStrS : Try.prog.cellsOf 9 = 1 := by kernel_rfl
theorem run_neq_same (a : Int) (b c : ByteArray) (w : World) : (binOp .neq 38 (.agg #[.int .i64 a, .string b, .string c]) (.agg #[.int .i64 a, .string b, .string c])).run Try.prog w = .ok (.bool false) w := by
  rw [run_neq_struct, run_equalIn_agg]
  · simp [Op.eqFields, go_sem, Program.fieldsOf, Try.underlying38, part, cellsIntS]
  · kernel_rfl
  · kernel_rfl
/-- The cells of messages that can be read. -/
theorem Sgr.cells {w : World} {base : Nat} {v : Value} {l : List Sgn} (h : Sgr w base v l) : ∃ a cap, v = .slice a l.length cap ∧ ∀ k m, l[k]? = some m → ∃ g, a = some ⟨g, 0, none⟩ ∧ g < w.heap.size ∧ w.cell? ⟨g, k * 3, none⟩ = some (.int .i64 m.1) ∧ w.cell? ⟨g, k * 3 + 1, none⟩ = some (.string m.2.1) ∧ w.cell? ⟨g, k * 3 + 2, none⟩ = some (.string m.2.2) := by
  rcases h with ⟨rfl, rfl⟩ | ⟨g, cap, cs, rfl, h2, h3, h4, h5, h6⟩
  · exact ⟨none, 0, rfl, fun k m hm => by simp at hm⟩
  · refine ⟨_, _, rfl, fun k m hm => ⟨g, rfl, h5.lt, ?_⟩⟩
    have hk : k < l.length := (List.getElem?_eq_some_iff.1 hm).1
    have hc : ∀ j u, (sC m)[j]? = some u → w.cell? ⟨g, k * 3 + j, none⟩ = some u := fun j u hu => by
      have hj : j < 3 := by have := (List.getElem?_eq_some_iff.1 hu).1; rw [sC_len] at this; exact this
      have e := sL_get l k j m u hm hu
      rw [← h6, List.getElem?_take, if_pos (by omega)] at e
      exact h5.cell (by simpa using e)
    exact ⟨hc 0 _ rfl, hc 1 _ rfl, hc 2 _ rfl⟩
set_option maxHeartbeats 4000000 in
set_option maxRecDepth 100000 in
theorem sameAll_true (v u : Value) (l : List Sgn) (w : World) (b1 b2 : Nat) (h : Sgr w b1 v l) (h' : Sgr w b2 u l) (hl : l.length ≤ 1000000) :
    Calls Try.prog 30 #[v, u] w fun e w' => e = .returned (.bool true) ∧ Below w.heap.size w w' := by
  obtain ⟨a, c, rfl, hc⟩ := h.cells
  obtain ⟨a', c', rfl, hc'⟩ := h'.cells
  have HC : Hid _ := hc
  have HC' : Hid _ := hc'
  clear hc hc' h h'
  go_enter Try.func30, Try.ntmps30
  go_wp2
  go_loopw [5] (fun i wr => ∃ k : Nat, k ≤ l.length ∧ i = .int .i64 k ∧ Below w.heap.size w wr) (fun i _ => l.length - (intOf i).toNat)
  case atStart => exact ⟨0, Nat.zero_le _, rfl, Below.refl _ _⟩
  case round =>
    obtain ⟨k, hk, rfl, hb⟩ := hrel
    by_cases hlt : k < l.length
    · have hd : decide ((k : Int) < l.length) = true := by simp only [decide_eq_true_eq]; omega
      obtain ⟨m, hm⟩ : ∃ m, l[k]? = some m := ⟨_, List.getElem?_eq_getElem hlt⟩
      obtain ⟨g, rfl, hbl, c1, c2, c3⟩ := HC.out k m hm
      obtain ⟨g', rfl, hbl', g1, g2, g3⟩ := HC'.out k m hm
      have d1 := (hb.cell (p := ⟨g, k * 3, none⟩) hbl).trans c1
      have d2 := (hb.cell (p := ⟨g, k * 3 + 1, none⟩) hbl).trans c2
      have d3 := (hb.cell (p := ⟨g, k * 3 + 2, none⟩) hbl).trans c3
      have e1 := (hb.cell (p := ⟨g', k * 3, none⟩) hbl').trans g1
      have e2 := (hb.cell (p := ⟨g', k * 3 + 1, none⟩) hbl').trans g2
      have e3 := (hb.cell (p := ⟨g', k * 3 + 2, none⟩) hbl').trans g3
      have hne2 := fun wx => run_neq_same m.1 m.2.1 m.2.2 wx
      have hki : (k : Int) < l.length := by omega
      clear c1 c2 c3 g1 g2 g3 hm
      generalize m.1 = m1 at *
      generalize m.2.1 = m2 at *
      generalize m.2.2 = m3 at *
      go_wp2
      go_region
      go_wp2
      go_roundw
      case rel => exact ⟨k + 1, by omega, by go_num, hb.drew⟩
      case measure => simp [intOf]; omega
    · have hd : decide ((k : Int) < l.length) = false := by simp only [decide_eq_false_iff_not]; omega
      go_wp2
      go_ret
      exact ⟨rfl, hb⟩
set_option maxHeartbeats 4000000 in
set_option maxRecDepth 100000 in
theorem same_true (k v q c t : Int) (d x : ByteArray) (va vb : Value) (l : List Sgn) (w : World) (b1 b2 : Nat) (h : Sgr w b1 va l) (h' : Sgr w b2 vb l) (hl : l.length ≤ 1000000) :
    Calls Try.prog 14 #[.agg #[.int .i64 k, .int .i64 v, .int .i64 q, .int .i64 c, .int .i64 t, .string d, .string x, va], .agg #[.int .i64 k, .int .i64 v, .int .i64 q, .int .i64 c, .int .i64 t, .string d, .string x, vb]] w fun e w' => e = .returned (.bool true) ∧ Below w.heap.size w w' := by
  have HS : Hid _ := fun wx (hb : Below w.heap.size w wx) => sameAll_true va vb l wx b1 b2 (h.below hb) (h'.below hb) hl
  obtain ⟨a, ca, rfl, _⟩ := h.cells
  obtain ⟨a', ca', rfl, _⟩ := h'.cells
  clear h h'
  go_enter Try.func14, Try.ntmps14
  go_wp2_with fail
  refine (HS.out _ (by go_grown)).mono ?_
  rintro e w1 ⟨rfl, b1⟩
  go_wp2
  go_ret
  exact ⟨rfl, (show Below w.heap.size w _ by go_grown).trans (b1.mono (by simp; omega))⟩
end Go.Proofs.Ytjpmnmgnbpecjaa
