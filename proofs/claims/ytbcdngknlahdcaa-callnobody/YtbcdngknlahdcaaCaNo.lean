/- A book that there is not: the walk. -/
import Derived.Test.YtbcdngknlahdcaaCaS
import Derived.Test.YtbcdngknlahdcaaCaEq
namespace Go.Proofs.Ytbcdngknlahdcaa
open Go.Shelf Go.RowKit Go.Lib Go.Sort
set_option linter.unusedSimpArgs false
set_option linter.unusedVariables false

set_option maxRecDepth 100000 in
theorem clear_nil (w : World) : Calls Try.prog 6 #[.pointer none] w fun e w' => e = .returned (.tuple #[.int .i64 0, .int .i64 0, .slice none 0 0]) ∧ w' = w := by
  go_enter Try.func6, Try.ntmps6
  go_wp2_with fail
  refine (made_nil w).mono ?_
  rintro e w1 ⟨rfl, rfl⟩
  go_wp2
  go_ret3
  exact ⟨rfl, rfl⟩
set_option maxHeartbeats 4000000 in
set_option maxRecDepth 100000 in
theorem get_nil (x : Int) (w : World) : Calls Try.prog 9 #[.pointer none, .int .i64 x] w fun e w' => e = .returned (.tuple #[.agg #[.int .i64 0, .int .i64 0, .int .i64 0, .int .i64 0, .int .i64 0, .bool false], .bool false]) ∧ Below w.heap.size w w' := by
  obtain ⟨W0, hW0, X0, B0, Z0⟩ : ∃ W0, (w.alloc (.cells #[.int .i64 0, .int .i64 0, .int .i64 0, .int .i64 0, .int .i64 0, .bool false] 32)) = W0 ∧ Blk W0 w.heap.size #[.int .i64 0, .int .i64 0, .int .i64 0, .int .i64 0, .int .i64 0, .bool false] 32 ∧ Below w.heap.size w W0 ∧ W0.heap.size = w.heap.size + 1 :=
    ⟨_, rfl, blk_new _ _ _ _ rfl, by go_grown, by simp⟩
  have hm := made_nil W0
  go_enter Try.func9, Try.ntmps9
  go_wp2_with fail
  refine hm.mono ?_
  rintro e w2 ⟨rfl, hwa⟩
  have hwb := hwa.symm
  subst hwb
  have X2 : Blk W0 w.heap.size (oC (0, 0, 0, 0, 0, false)).toArray 32 := X0
  obtain ⟨W3, hW3, X3, H3, Z3, O3⟩ := setRow_named X2 (oC (0, 0, 0, 0, 0, false)).toArray
  have q0 : W3.cell? ⟨w.heap.size, 0, none⟩ = some (.int .i64 0) := X3.cell rfl
  have q1 : W3.cell? ⟨w.heap.size, 1, none⟩ = some (.int .i64 0) := X3.cell rfl
  have q2 : W3.cell? ⟨w.heap.size, 2, none⟩ = some (.int .i64 0) := X3.cell rfl
  have q3 : W3.cell? ⟨w.heap.size, 3, none⟩ = some (.int .i64 0) := X3.cell rfl
  have q4 : W3.cell? ⟨w.heap.size, 4, none⟩ = some (.int .i64 0) := X3.cell rfl
  have q5 : W3.cell? ⟨w.heap.size, 5, none⟩ = some (.bool false) := X3.cell rfl
  go_wp2_with ((with_reducible refine st_row (ty := 32) (cs' := (oC (0, 0, 0, 0, 0, false)).toArray) X2 (infoO6 _) (oCA_same _ _) (oCA_one _) hW3 ?_ ?_ ?_); rfl; rfl)
  refine bodyPost_ret (v := .tuple #[.agg (oC (0, 0, 0, 0, 0, false)).toArray, .bool false]) (by simp [results, Try.results9, go_sem, q0, q1, q2, q3, q4, q5]; rfl) rfl ⟨rfl, ?_⟩
  exact below_row B0 hW3 (Nat.le_refl _)
set_option maxRecDepth 100000 in
theorem owned_nil (x y : Int) (w : World) : Calls Try.prog 29 #[.pointer none, .int .i64 x, .int .i64 y] w fun e w' => e = .returned (.tuple #[.int .i64 0, .int .i64 1]) ∧ w' = w := by
  go_enter Try.func29, Try.ntmps29
  go_wp2_with fail
  refine (made_nil w).mono ?_
  rintro e w1 ⟨rfl, rfl⟩
  go_wp2
  go_ret2
  exact ⟨rfl, rfl⟩
set_option maxRecDepth 100000 in
theorem amend_nil (x y pr am : Int) (w : World) : Calls Try.prog 11 #[.pointer none, .int .i64 x, .int .i64 y, .int .i64 pr, .int .i64 am] w fun e w' => e = .returned (.int .i64 1) ∧ w' = w := by
  go_enter Try.func11, Try.ntmps11
  go_wp2_with fail
  refine (owned_nil x y w).mono ?_
  rintro e w1 ⟨rfl, rfl⟩
  go_wp2
  go_ret
  exact ⟨rfl, rfl⟩
set_option maxRecDepth 100000 in
theorem cancel_nil (x y : Int) (w : World) : Calls Try.prog 12 #[.pointer none, .int .i64 x, .int .i64 y] w fun e w' => e = .returned (.int .i64 1) ∧ w' = w := by
  go_enter Try.func12, Try.ntmps12
  go_wp2_with fail
  refine (owned_nil x y w).mono ?_
  rintro e w1 ⟨rfl, rfl⟩
  go_wp2
  go_ret
  exact ⟨rfl, rfl⟩
set_option maxRecDepth 100000 in
theorem orders_nil (w : World) : Calls Try.prog 13 #[.pointer none] w fun e w' => e = .returned (.slice none 0 0) ∧ w' = w := by
  go_enter Try.func13, Try.ntmps13
  go_wp2_with fail
  refine (made_nil w).mono ?_
  rintro e w1 ⟨rfl, rfl⟩
  go_wp2
  go_ret
  exact ⟨rfl, rfl⟩
set_option maxRecDepth 100000 in
theorem bytes_nil (w : World) : Calls Try.prog 7 #[.pointer none] w fun e w' => e = .returned (.string .empty) ∧ w' = w := by
  go_enter Try.func7, Try.ntmps7
  go_wp2_with fail
  refine (made_nil w).mono ?_
  rintro e w1 ⟨rfl, rfl⟩
  go_wp2
  go_ret
  exact ⟨rfl, rfl⟩
set_option maxRecDepth 100000 in
theorem put_nil (o : Od) (w : World) : Calls Try.prog 10 #[.pointer none, .agg #[.int .i64 o.id, .int .i64 o.own, .int .i64 o.pr, .int .i64 o.am, .int .i64 o.pl, .bool o.by]] w fun e w' => e = .returned (.int .i64 1) ∧ Below w.heap.size w w' := by
  have hun := Try.underlying32
  have h6 := infoO6 o
  obtain ⟨W1, hW1, B1⟩ : ∃ W1, (w.alloc (.cells #[.int .i64 o.id, .int .i64 o.own, .int .i64 o.pr, .int .i64 o.am, .int .i64 o.pl, .bool o.by] 32)) = W1 ∧ Below w.heap.size w W1 :=
    ⟨_, rfl, by go_grown⟩
  unfold oC at h6
  go_enter Try.func10, Try.ntmps10
  go_wp2_with fail
  refine (made_nil W1).mono ?_
  rintro e w1 ⟨rfl, rfl⟩
  go_wp2
  go_ret
  exact ⟨rfl, B1⟩

set_option maxHeartbeats 8000000 in
set_option maxRecDepth 100000 in
theorem nobody_calls (o : Od) (w : World) : Calls Try.prog 4 #[.agg (oC o).toArray] w fun e w' => e = .returned (.bool true) ∧ Below w.heap.size w w' := by
  have hun := Try.underlying32
  have h6 := infoO6 o
  have heq : ∀ w, (binOp .eql 32 (.agg #[.int .i64 0, .int .i64 0, .int .i64 0, .int .i64 0, .int .i64 0, .bool false]) (.agg #[.int .i64 0, .int .i64 0, .int .i64 0, .int .i64 0, .int .i64 0, .bool false])).run Try.prog w = .ok (.bool true) w := fun w => by
    have q := eqO w ((0, 0, 0, 0, 0, false) : Od) ((0, 0, 0, 0, 0, false) : Od)
    rw [oEq_self] at q
    exact q
  obtain ⟨W1, hW1, X1, B1, Z1⟩ : ∃ W1, (w.alloc (.cells #[.int .i64 o.id, .int .i64 o.own, .int .i64 o.pr, .int .i64 o.am, .int .i64 o.pl, .bool o.by] 32)) = W1 ∧ Blk W1 w.heap.size (oC o).toArray 32 ∧ Below w.heap.size w W1 ∧ W1.heap.size = w.heap.size + 1 :=
    ⟨_, rfl, blk_new _ _ _ _ rfl, by go_grown, by simp⟩
  unfold oC at X1 h6 ⊢
  have xa : W1.cell? ⟨w.heap.size, 0, none⟩ = some (.int .i64 o.id) := X1.cell rfl
  have HX1 : Hid _ := X1
  clear X1
  go_enter Try.func4, Try.ntmps4
  go_wp2_with fail
  refine (clear_nil W1).mono ?_
  rintro e w1 ⟨rfl, hwa⟩
  have hwb := hwa.symm
  subst hwb
  go_wp2_with fail
  refine (get_nil o.id W1).mono ?_
  rintro e w2 ⟨rfl, b2⟩
  obtain ⟨W2, hW2, X2, B2, Z2⟩ : ∃ W2, (w2.alloc (.cells #[.int .i64 0, .int .i64 0, .int .i64 0, .int .i64 0, .int .i64 0, .bool false] 32)) = W2 ∧ Blk W2 w2.heap.size #[.int .i64 0, .int .i64 0, .int .i64 0, .int .i64 0, .int .i64 0, .bool false] 32 ∧ Below w2.heap.size w2 W2 ∧ W2.heap.size = w2.heap.size + 1 :=
    ⟨_, rfl, blk_new _ _ _ _ rfl, by go_grown, by simp⟩
  have X12 := (Blk.below HX1.out b2).below B2
  have X2' : Blk W2 w2.heap.size (oC (0, 0, 0, 0, 0, false)).toArray 32 := X2
  obtain ⟨W3, hW3, X3, H3, Z3, O3⟩ := setRow_named X2' (oC (0, 0, 0, 0, 0, false)).toArray
  have B03 : Below w.heap.size w W3 := below_row ((B1.trans (b2.mono B1.size)).trans (B2.mono (by have := B1.size; have := b2.size; omega))) hW3 (by have := B1.size; have := b2.size; omega)
  have X13 : Blk W3 w.heap.size (oC o).toArray 32 := blk_row X12 hW3 (by have := B1.size; have := b2.size; omega)
  have y0 : W3.cell? ⟨w.heap.size, 0, none⟩ = some (.int .i64 o.id) := X13.cell rfl
  have y1 : W3.cell? ⟨w.heap.size, 1, none⟩ = some (.int .i64 o.own) := X13.cell rfl
  have y2 : W3.cell? ⟨w.heap.size, 2, none⟩ = some (.int .i64 o.pr) := X13.cell rfl
  have y3 : W3.cell? ⟨w.heap.size, 3, none⟩ = some (.int .i64 o.am) := X13.cell rfl
  have y4 : W3.cell? ⟨w.heap.size, 4, none⟩ = some (.int .i64 o.pl) := X13.cell rfl
  have y5 : W3.cell? ⟨w.heap.size, 5, none⟩ = some (.bool o.by) := X13.cell rfl
  have HX2 : Hid _ := X3
  have HX12 : Hid _ := X13
  clear X2 X12 X13 X3 xa
  go_wp2_with ((with_reducible refine st_row (ty := 32) (cs' := (oC (0, 0, 0, 0, 0, false)).toArray) X2' (infoO6 _) (oCA_same _ _) (oCA_one _) hW3 ?_ ?_ ?_); rfl; rfl)
  refine (put_nil o W3).mono ?_
  rintro e w3 ⟨rfl, b3⟩
  have X13 := Blk.below HX12.out b3
  have X23 := Blk.below HX2.out b3
  have v0 : w3.cell? ⟨w.heap.size, 0, none⟩ = some (.int .i64 o.id) := X13.cell rfl
  have v1 : w3.cell? ⟨w.heap.size, 1, none⟩ = some (.int .i64 o.own) := X13.cell rfl
  have z0 : w3.cell? ⟨w2.heap.size, 0, none⟩ = some (.int .i64 0) := X23.cell rfl
  have z1 : w3.cell? ⟨w2.heap.size, 1, none⟩ = some (.int .i64 0) := X23.cell rfl
  have z2 : w3.cell? ⟨w2.heap.size, 2, none⟩ = some (.int .i64 0) := X23.cell rfl
  have z3 : w3.cell? ⟨w2.heap.size, 3, none⟩ = some (.int .i64 0) := X23.cell rfl
  have z4 : w3.cell? ⟨w2.heap.size, 4, none⟩ = some (.int .i64 0) := X23.cell rfl
  have z5 : w3.cell? ⟨w2.heap.size, 5, none⟩ = some (.bool false) := X23.cell rfl
  have BW3 : Below w.heap.size w w3 := B03.trans (b3.mono B03.size)
  clear X13 X23 y0 y1 y2 y3 y4 y5
  go_wp2_with fail
  refine (amend_nil o.id o.own 1 1 w3).mono ?_
  rintro e w4 ⟨rfl, rfl⟩
  go_wp2_with fail
  refine (cancel_nil o.id o.own w4).mono ?_
  rintro e w5 ⟨rfl, rfl⟩
  go_wp2_with fail
  refine (orders_nil w5).mono ?_
  rintro e w6 ⟨rfl, rfl⟩
  go_wp2_with fail
  refine (bytes_nil w6).mono ?_
  rintro e w7 ⟨rfl, rfl⟩
  go_wp2_with fail
  refine (awake_calls w7).mono ?_
  rintro e w9 ⟨rfl, b9⟩
  go_wp2
  go_ret
  exact ⟨rfl, BW3.trans (b9.mono BW3.size)⟩
end Go.Proofs.Ytbcdngknlahdcaa
