/- The library's DeleteFunc at a row of orders of one's own. -/
import Derived.Test.YtglbfeccdibmiaaCaK
namespace Go.Proofs.Ytglbfeccdibmiaa
open Go.Shelf Go.RowKit Go.Lib Go.Sort
set_option linter.unusedSimpArgs false
set_option linter.unusedVariables false

/-- One element of a row written over. -/
theorem own_elem {w : World} {base g cap n : Nat} {t : TypeId} {X : List Od} (h : w.ownsRow base t 6 (.slice (some ⟨g, 0, none⟩) n cap) n (odL X)) (hX : X.length = n) (a : Nat) (o : Od) (ha : a < n) :
    ∃ W, (∀ P : Program, Sem.run P (storeCells ⟨g, a * 6, none⟩ (oC o) 0) w = .ok () W) ∧ W.ownsRow base t 6 (.slice (some ⟨g, 0, none⟩) n cap) n (odL (X.set a o)) ∧ Off g w W ∧ W.heap.size = w.heap.size := by
  rcases h.2 with ⟨h1, _⟩ | ⟨g', cap', cur, h1, hb, hB, hnc, hcm, hcs, ht⟩
  · cases h1
  · injection h1 with h1 h2 h3
    injection h1 with h1
    injection h1 with h1
    subst h1 h3
    have hB' : w.heap[g]? = some (.cells cur t (0, 0)) := hB
    have hle : n * 6 ≤ cap * 6 := Nat.mul_le_mul_right _ hnc
    refine ⟨w.setRow g (cur.toList.take (a * 6) ++ oC o ++ cur.toList.drop (a * 6 + 6)).toArray, fun P => ?_, ?_, (Off.refl _ _).setRow _, by simp⟩
    · have := run_storeCells_at (P := P) g (a * 6) t (oC o) 0 cur w hB' (by rw [oC_len]; omega) (oC_one o)
      rw [Nat.add_zero, oC_len] at this
      exact this
    · refine ⟨by rw [odL_len, List.length_set, hX], Or.inr ⟨g, cap, _, rfl, hb, setRow_heap w g cur _ t (0, 0) hB', hnc, hcm, ?_, ?_⟩⟩
      · simp only [List.size_toArray, List.length_append, List.length_take, List.length_drop, Array.length_toList, oC_len]
        omega
      · have e1 : X = X.take a ++ X.drop a := (List.take_append_drop a X).symm
        obtain ⟨A, y, C, hA, hAl⟩ := cut_at (l := X) (k := a) (by omega)
        have hset : X.set a o = A ++ o :: C := by rw [hA, ← hAl, List.set_append_right _ _ (Nat.le_refl _), Nat.sub_self, List.set_cons_zero]
        have hcur : cur.toList.take (n * 6) = odL A ++ oC y ++ odL C := by rw [ht, hA, odL_app, odL_cons, List.append_assoc]
        have hn : n = A.length + 1 + C.length := by rw [← hX, hA]; simp; omega
        rw [hset, odL_app, odL_cons]
        have t1 : cur.toList.take (a * 6) = odL A := by
          have : (cur.toList.take (n * 6)).take (a * 6) = odL A := by
            rw [hcur, List.append_assoc, List.take_left' (by rw [odL_len, hAl])]
          rwa [List.take_take, Nat.min_eq_left (by omega)] at this
        have t2 : (cur.toList.drop (a * 6 + 6)).take (C.length * 6) = odL C := by
          have : (cur.toList.take (n * 6)).drop (a * 6 + 6) = odL C := by
            rw [hcur, List.drop_left' (by rw [List.length_append, odL_len, oC_len, hAl])]
          rw [List.drop_take] at this
          rw [← this]
          congr 1
          omega
        show List.take (n * 6) (cur.toList.take (a * 6) ++ oC o ++ cur.toList.drop (a * 6 + 6)) = _
        rw [t1, List.take_append, List.take_of_length_le (by rw [List.length_append, odL_len, oC_len, hAl]; omega), List.length_append, odL_len, oC_len, hAl]
        rw [show n * 6 - (a * 6 + 6) = C.length * 6 by omega, t2]
        simp
set_option maxRecDepth 100000 in
/-- The rest of a row cleared: what is ahead stays. -/
theorem own_clear {w : World} {base g cap n : Nat} {X : List Od} (h : w.ownsRow base 31 6 (.slice (some ⟨g, 0, none⟩) n cap) n (odL X)) (hX : X.length = n) (a : Nat) (ha : a < n) (ty : TypeId) :
    ∃ W, (∀ c', (Builtin.clear_ #[25] ty #[.slice (some ⟨g, a * 6, none⟩) (n - a) c']).run Try.prog w = .ok (.tuple #[]) W) ∧ W.ownsRow base 31 6 (.slice (some ⟨g, 0, none⟩) a cap) a (odL (X.take a)) ∧ Off g w W := by
  obtain ⟨i0, hi, hz0, hz1, hz2⟩ := info_parts infoO
  rcases h.2 with ⟨h1, _⟩ | ⟨g', cap', cur, h1, hb, hB, hnc, hcm, hcs, ht⟩
  · cases h1
  · injection h1 with h1 h2 h3
    injection h1 with h1
    injection h1 with h1
    subst h1 h3
    have hB' : w.heap[g]? = some (.cells cur 31 (0, 0)) := hB
    have hle : n * 6 ≤ cap * 6 := Nat.mul_le_mul_right _ hnc
    obtain ⟨zs, hzs⟩ : ∃ zs, (Builtin.zeroCells #[.int .i64 0, .int .i64 0, .int .i64 0, .int .i64 0, .int .i64 0, .bool false] (n - a)).toList = zs := ⟨_, rfl⟩
    have hzl : zs.length = (n - a) * 6 := by rw [← hzs]; simp [Builtin.zeroCells]
    have hz1' : ∀ u ∈ zs, u.oneCell' = true := by
      intro u hu
      rw [← hzs] at hu
      simp only [Builtin.zeroCells, Array.toList_map, List.mem_map] at hu
      obtain ⟨q, _, rfl⟩ := hu
      have : q % 6 < 6 := Nat.mod_lt _ (by decide)
      have h6 : (#[Value.int .i64 0, .int .i64 0, .int .i64 0, .int .i64 0, .int .i64 0, .bool false] : Array Value).size = 6 := rfl
      rw [h6]
      generalize q % 6 = z at *
      match z, this with
      | 0, _ => rfl
      | 1, _ => rfl
      | 2, _ => rfl
      | 3, _ => rfl
      | 4, _ => rfl
      | 5, _ => rfl
    refine ⟨w.setRow g (cur.toList.take (a * 6) ++ zs ++ cur.toList.drop (a * 6 + zs.length)).toArray, fun c' => ?_, ?_, (Off.refl _ _).setRow _⟩
    · have hst := run_storeCells_at (P := Try.prog) g (a * 6) 31 zs 0 cur w hB' (by rw [hzl, hcs]; omega) hz1'
      rw [Nat.add_zero] at hst
      obtain ⟨m, hm⟩ : ∃ m, n - a = m + 1 := ⟨n - a - 1, by omega⟩
      have hv : ∀ w, (zeroValue 31).run Try.prog w = .ok (.agg #[.int .i64 0, .int .i64 0, .int .i64 0, .int .i64 0, .int .i64 0, .bool false]) w := by intro w; kernel_rfl
      rw [hm] at hzs ⊢
      simp [Builtin.clear_, run_underlying Try.underlying25, hv, Value.cells, hzs, hst]
    · refine ⟨by rw [odL_len, List.length_take]; congr 1; omega, Or.inr ⟨g, cap, _, rfl, hb, setRow_heap w g cur _ _ (0, 0) hB', by omega, hcm, ?_, ?_⟩⟩
      · simp only [List.size_toArray, List.length_append, List.length_take, List.length_drop, Array.length_toList, hzl]
        omega
      · show List.take (a * 6) (cur.toList.take (a * 6) ++ zs ++ _) = _
        have t1 : cur.toList.take (a * 6) = odL (X.take a) := by
          have : (cur.toList.take (n * 6)).take (a * 6) = odL (X.take a) := by
            rw [ht]
            conv => lhs; rw [← List.take_append_drop a X, odL_app]
            rw [List.take_left' (by rw [odL_len, List.length_take]; congr 1; omega)]
          rwa [List.take_take, Nat.min_eq_left (by omega)] at this
        rw [t1, List.append_assoc, List.take_left' (by rw [odL_len, List.length_take]; congr 1; omega)]
end Go.Proofs.Ytglbfeccdibmiaa
