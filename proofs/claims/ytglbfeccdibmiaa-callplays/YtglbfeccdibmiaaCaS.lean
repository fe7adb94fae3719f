/- The chapter's example. -/
import Derived.Test.YtglbfeccdibmiaaCaR
namespace Go.Proofs.Ytglbfeccdibmiaa
open Go.Shelf Go.RowKit Go.Lib Go.Sort
set_option linter.unusedSimpArgs false
set_option linter.unusedVariables false

def ex1 : Bo := ⟨2, [(1, 0, 10, 5, 1, true)]⟩
def ex2 : Bo := ⟨3, [(1, 0, 10, 5, 1, true), (2, 1, 8, 3, 2, false)]⟩
theorem ex_put1 : Bo.put ⟨1, []⟩ (1, 0, 10, 5, 0, true) = (0, ex1) := by rfl
theorem ex_put2 : Bo.put ex1 (2, 1, 8, 3, 0, false) = (0, ex2) := by rfl
theorem ex_put3 : Bo.put ex2 (2, 0, 1, 1, 0, false) = (63, ex2) := by rfl
theorem ex_crs : crs ex2.os = (8, 3) := by rfl
theorem ex_fl : ex2.fl = [(1, 0, 3), (2, 1, 3)] := by rfl
theorem ex_clr : ex2.clr = ⟨3, [(1, 0, 10, 2, 1, true)]⟩ := by rfl

set_option maxHeartbeats 8000000 in
set_option maxRecDepth 100000 in
theorem awake_calls (w : World) : Calls Try.prog 7 #[] w fun e w' => e = .returned (.bool true) ∧ Below w.heap.size w w' := by
  have heq : ∀ w, (binOp .eql 62 (.agg #[.int .i64 1, .int .i64 0, .int .i64 3]) (.agg #[.int .i64 1, .int .i64 0, .int .i64 3])).run Try.prog w = .ok (.bool true) w := by intro w; kernel_rfl
  go_enter Try.func7, Try.ntmps7
  go_wp2_with fail
  refine (new_calls w).mono ?_
  rintro e w1 ⟨rfl, K1, b1⟩
  have z1 := b1.size
  have H1 : Hid _ := put_calls (1, 0, 10, 5, 0, true) w1 K1 b1.size _ ex_put1
  have HK1 : Hid _ := K1
  clear K1
  go_wp2_with fail
  refine Calls.mono H1.out ?_
  rintro e w2 ⟨rfl, v2, S2⟩
  have b2 := S2.below HK1.out b1 z1
  have z2 := b2.size
  have H2 : Hid _ := put_calls (2, 1, 8, 3, 0, false) w2 S2.bk b2.size _ ex_put2
  have HK2 : Hid _ := S2.bk
  clear S2
  go_wp2_with fail
  refine Calls.mono H2.out ?_
  rintro e w3 ⟨rfl, v3, S3⟩
  have b3 := S3.below HK2.out b2 z2
  have z3 := b3.size
  have H3 : Hid _ := put_calls (2, 0, 1, 1, 0, false) w3 S3.bk b3.size _ ex_put3
  have HK3 : Hid _ := S3.bk
  clear S3
  go_wp2_with fail
  refine Calls.mono H3.out ?_
  rintro e w4 ⟨rfl, v4, S4⟩
  have b4 := S4.below HK3.out b3 z3
  have z4 := b4.size
  have H4 : Hid _ := clear_calls w4 S4.bk b4.size
  have HK4 : Hid _ := S4.bk
  clear S4
  rw [ex_crs, ex_fl, ex_clr] at H4
  go_wp2_with fail
  refine Calls.mono H4.out ?_
  rintro e w5 ⟨vF, v5, rfl, own5, S5⟩
  have b5 := S5.below HK4.out b4 z4
  have z5 := b5.size
  have hg : gtB [(1, 0, 10, 2, 1, true)] 1 = ((1, 0, 10, 2, 1, true), true) := by rfl
  have H5 : Hid (Calls Try.prog 18 #[.pointer (some ⟨w.heap.size, 0, none⟩), .int .i64 1] w5 fun e w' => e = .returned (.tuple #[.agg #[.int .i64 1, .int .i64 0, .int .i64 10, .int .i64 2, .int .i64 1, .bool true], .bool true]) ∧ Below w5.heap.size w5 w') := by
    have q := get_calls 1 w5 S5.bk
    rw [hg] at q
    exact q
  have HK5 : Hid _ := S5.bk
  clear S5 hg
  obtain ⟨gF, capF, rfl, -, -⟩ := own5.form (by decide)
  have HO5 : Hid _ := own5
  clear own5
  go_wp2_with fail
  refine Calls.mono H5.out ?_
  rintro e w6 ⟨rfl, b6⟩
  have own6 := ownB HO5.out b6
  obtain ⟨W7, hW7, X7, B7, Z7⟩ : ∃ W7, (w6.alloc (.cells #[.int .i64 1, .int .i64 0, .int .i64 10, .int .i64 2, .int .i64 1, .bool true] 31)) = W7 ∧ Blk W7 w6.heap.size #[.int .i64 1, .int .i64 0, .int .i64 10, .int .i64 2, .int .i64 1, .bool true] 31 ∧ Below w6.heap.size w6 W7 ∧ W7.heap.size = w6.heap.size + 1 :=
    ⟨_, rfl, blk_new _ _ _ _ rfl, by go_grown, by simp⟩
  have own7 := ownB own6 B7
  have y0 : W7.cell? ⟨gF, 0, none⟩ = some (.int .i64 1) := own7.cells (g := gF) rfl 0 _ rfl
  have y1 : W7.cell? ⟨gF, 1, none⟩ = some (.int .i64 0) := own7.cells (g := gF) rfl 1 _ rfl
  have y2 : W7.cell? ⟨gF, 2, none⟩ = some (.int .i64 3) := own7.cells (g := gF) rfl 2 _ rfl
  have x3 : W7.cell? ⟨w6.heap.size, 3, none⟩ = some (.int .i64 2) := X7.cell rfl
  have K7 := (Bk.below HK5.out b6).below B7
  have b7 : Below w.heap.size w W7 := (b5.trans (b6.mono z5)).trans (B7.mono (by have := b6.size; omega))
  have H7 : Hid _ := orders_calls W7 K7
  clear own6 own7 X7 K7
  go_wp2_with fail
  refine Calls.mono H7.out ?_
  rintro e w8 ⟨v8, rfl, own8, b8⟩
  obtain ⟨c8, cp8, rfl⟩ := own_form own8
  clear own8
  go_wp2
  go_ret
  exact ⟨rfl, b7.trans (b8.mono b7.size)⟩
end Go.Proofs.Ytglbfeccdibmiaa
