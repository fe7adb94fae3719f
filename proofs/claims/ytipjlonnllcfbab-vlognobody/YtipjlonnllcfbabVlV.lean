/- The walk of VlogNobody. -/
import Derived.Test.YtipjlonnllcfbabVlU
namespace Go.Proofs.Ytipjlonnllcfbab
open Go.Shelf Go.RowKit Go.Lib Go.Sort
set_option linter.unusedSimpArgs false
set_option linter.unusedVariables false

set_option maxHeartbeats 16000000 in
set_option maxRecDepth 100000 in
theorem nobody_calls (ak af av aq : Int) (ad at' : ByteArray) (w : World) : Calls Try.prog 4 #[.agg #[.int .i64 ak, .int .i64 af, .int .i64 av, .int .i64 aq, .string ad, .string at']] w fun e w' => e = .returned (.bool true) ∧ Below w.heap.size w w' := by
  obtain ⟨W0, hW0, XA, B0, Z0⟩ : ∃ W0, (w.alloc (.cells #[.int .i64 ak, .int .i64 af, .int .i64 av, .int .i64 aq, .string ad, .string at'] 24)) = W0 ∧ Blk W0 w.heap.size #[.int .i64 ak, .int .i64 af, .int .i64 av, .int .i64 aq, .string ad, .string at'] 24 ∧ Below w.heap.size w W0 ∧ W0.heap.size = w.heap.size + 1 :=
    ⟨_, rfl, blk_new _ _ _ _ rfl, by go_grown, by simp⟩
  have HZ0 : Hid _ := Z0
  have hza : w.heap.size < W0.heap.size := by omega
  clear Z0
  have c1 : W0.cell? ⟨w.heap.size, 1, none⟩ = some (.int .i64 af) := XA.cell rfl
  have c3 : W0.cell? ⟨w.heap.size, 3, none⟩ = some (.int .i64 aq) := XA.cell rfl
  go_enter Try.func4, Try.ntmps4
  go_wp2_with fail
  refine (proposal_nil _ aq).mono ?_
  rintro e w1 ⟨rfl, b1⟩
  have X1 := XA.below b1
  have d1 : w1.cell? ⟨w.heap.size, 1, none⟩ = some (.int .i64 af) := X1.cell rfl
  have d3 : w1.cell? ⟨w.heap.size, 3, none⟩ = some (.int .i64 aq) := X1.cell rfl
  go_wp2_with fail
  refine (voted_nil _ 4 aq af).mono ?_
  rintro e w2 ⟨rfl, b2⟩
  have b02 : Below W0.heap.size W0 w2 := b1.trans (b2.mono b1.size)
  have X2 := XA.below b02
  go_wp2_with fail
  refine (stable_nil _).mono ?_
  rintro e w4 ⟨rfl, b4⟩
  obtain ⟨XM, b24⟩ : Blk w4 w2.heap.size #[.int .i64 0, .string ⟨#[]⟩, .string ⟨#[]⟩] 38 ∧ Below w2.heap.size w2 w4 := by
    refine ⟨(blk_new w2 w2.heap.size #[.int .i64 0, .string ⟨#[]⟩, .string ⟨#[]⟩] 38 rfl).below b4, ?_⟩
    exact ((Below.refl _ _).alloc (Nat.le_refl _) _).trans (b4.mono (by simp))
  have X4 := X2.below b24
  have HB4 : Hid (Below w.heap.size w w4) := B0.trans ((b02.trans (b24.mono b02.size)).mono B0.size)
  have hz4 : w.heap.size ≤ w4.heap.size := HB4.out.size
  have HX : Hid _ := X4
  have HM : Hid _ := XM
  clear b4 b24 b02 b1 b2 X1 X2 X4 XM XA B0 hW0 c1 c3 d1 d3
  have y0 : w4.cell? ⟨w.heap.size, 0, none⟩ = some (.int .i64 ak) := Blk.cell (w := w4) HX.out rfl
  have y1 : w4.cell? ⟨w.heap.size, 1, none⟩ = some (.int .i64 af) := Blk.cell (w := w4) HX.out rfl
  have y2 : w4.cell? ⟨w.heap.size, 2, none⟩ = some (.int .i64 av) := Blk.cell (w := w4) HX.out rfl
  have y3 : w4.cell? ⟨w.heap.size, 3, none⟩ = some (.int .i64 aq) := Blk.cell (w := w4) HX.out rfl
  have y4 : w4.cell? ⟨w.heap.size, 4, none⟩ = some (.string ad) := Blk.cell (w := w4) HX.out rfl
  have y5 : w4.cell? ⟨w.heap.size, 5, none⟩ = some (.string at') := Blk.cell (w := w4) HX.out rfl
  go_wp2_with fail
  refine (done_nil _ ak af av aq ad at').mono ?_
  rintro e w5 ⟨rfl, b5⟩
  have HX5 : Hid _ := Blk.below (w := w4) HX.out b5
  have m0 : w5.cell? ⟨w2.heap.size, 0, none⟩ = some (.int .i64 0) := (Blk.below (w := w4) HM.out b5).cell rfl
  have m1 : w5.cell? ⟨w2.heap.size, 1, none⟩ = some (.string ⟨#[]⟩) := (Blk.below (w := w4) HM.out b5).cell rfl
  have m2 : w5.cell? ⟨w2.heap.size, 2, none⟩ = some (.string ⟨#[]⟩) := (Blk.below (w := w4) HM.out b5).cell rfl
  have HB5 : Hid (Below w.heap.size w w5) := HB4.out.trans (b5.mono hz4)
  have hz5 : w.heap.size ≤ w5.heap.size := HB5.out.size
  clear y0 y1 y2 y3 y4 y5 b5 HX HM HB4
  go_wp2_with fail
  refine (kept_nil _).mono ?_
  rintro e w6 ⟨rfl, b6⟩
  have HX6 : Hid _ := Blk.below (w := w5) HX5.out b6
  have n3 : w6.cell? ⟨w.heap.size, 3, none⟩ = some (.int .i64 aq) := Blk.cell (w := w6) HX6.out rfl
  have HB6 : Hid (Below w.heap.size w w6) := HB5.out.trans (b6.mono hz5)
  have hz6 : w.heap.size ≤ w6.heap.size := HB6.out.size
  clear m0 m1 m2 b6 HX5 HB5
  go_wp2_with fail
  refine (prepd_nil _ aq).mono ?_
  rintro e w7 ⟨rfl, b7⟩
  have HX7 : Hid _ := Blk.below (w := w6) HX6.out b7
  have o3 : w7.cell? ⟨w.heap.size, 3, none⟩ = some (.int .i64 aq) := Blk.cell (w := w7) HX7.out rfl
  have HB7 : Hid (Below w.heap.size w w7) := HB6.out.trans (b7.mono hz6)
  have hz7 : w.heap.size ≤ w7.heap.size := HB7.out.size
  clear n3 b7 HX6 HB6
  go_wp2_with fail
  refine (commd_nil _ aq).mono ?_
  rintro e w8 ⟨rfl, b8⟩
  have HB8 : Hid (Below w.heap.size w w8) := HB7.out.trans (b8.mono hz7)
  have hz8 : w.heap.size ≤ w8.heap.size := HB8.out.size
  clear o3 b8 HX7 HB7
  go_wp2_with fail
  refine (view_nil _).mono ?_
  rintro e w9 ⟨rfl, b9⟩
  have HB9 : Hid (Below w.heap.size w w9) := HB8.out.trans (b9.mono hz8)
  have hz9 : w.heap.size ≤ w9.heap.size := HB9.out.size
  clear b9 HB8
  go_wp2_with fail
  refine (low_nil _).mono ?_
  rintro e w10 ⟨rfl, b10⟩
  have HB10 : Hid (Below w.heap.size w w10) := HB9.out.trans (b10.mono hz9)
  have hz10 : w.heap.size ≤ w10.heap.size := HB10.out.size
  clear b10 HB9
  go_wp2_with fail
  refine (awake_calls _).mono ?_
  rintro e w11 ⟨rfl, b11⟩
  go_wp2
  go_ret
  exact ⟨rfl, HB10.out.trans (b11.mono hz10)⟩
end Go.Proofs.Ytipjlonnllcfbab
