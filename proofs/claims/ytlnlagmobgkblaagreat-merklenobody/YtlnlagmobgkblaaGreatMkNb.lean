/- Without a book, and of a tree that nobody made: the program's answers. -/
import Derived.Test.YtlnlagmobgkblaaGreatMkI
namespace Go.Proofs.YtlnlagmobgkblaaGreat
open Go.RowKit
set_option linter.unusedSimpArgs false
set_option linter.unusedVariables false

theorem madeNil_calls (w : World) : Calls Tryz.prog 61 #[.pointer none] w fun e w' => e = .returned (.bool false) ∧ w' = w := by
  go_enter Tryz.func61, Tryz.ntmps61
  go_wp2
  go_ret
  exact ⟨rfl, rfl⟩
set_option maxHeartbeats 1000000 in
set_option maxRecDepth 100000 in
theorem openNil_calls (w : World) :
    Calls Tryz.prog 39 #[.pointer none, .agg #[.int .i64 (-1), .string ⟨#[]⟩, .string ⟨#[]⟩]] w fun e w' => e = .returned (.tuple #[.agg zB8, .int .i64 1]) ∧ Below w.heap.size w w' := by
  obtain ⟨W1, hW1, XM, XR, B1, Z1⟩ : ∃ W1, ((w.alloc (.cells #[.int .i64 (-1), .string ⟨#[]⟩, .string ⟨#[]⟩] 79)).alloc (.cells #[.int .i64 0, .int .i64 0, .int .i64 0, .int .i64 0, .int .i64 0, .string ⟨#[]⟩, .string ⟨#[]⟩, .slice none 0 0] 75)) = W1 ∧ Blk W1 w.heap.size #[.int .i64 (-1), .string ⟨#[]⟩, .string ⟨#[]⟩] 79 ∧ Blk W1 (w.heap.size + 1) zB8 75 ∧ Below w.heap.size w W1 ∧ W1.heap.size = w.heap.size + 2 :=
    ⟨_, rfl, (blk_new _ _ _ _ rfl).alloc _, blk_new _ _ _ _ (by simp), by go_grown, by simp⟩
  have hm := madeNil_calls W1
  go_enter Tryz.func39, Tryz.ntmps39
  go_wp2_with fail
  refine hm.mono ?_
  rintro e w1 ⟨rfl, rfl⟩
  obtain ⟨W3, hW3, X3, _⟩ := setRow_named XR zB8
  go_wp2_with ((with_reducible refine st_row (ty := 75) XR infoB8 zB8_same zB8_one hW3 ?_ ?_ ?_); rfl; rfl)
  refine bodyPost_ret (v := .tuple #[.agg zB8, .int .i64 1]) (openN_results X3 rfl rfl) rfl ?_
  exact ⟨rfl, below_row B1 hW3 (by omega)⟩
set_option maxHeartbeats 1000000 in
set_option maxRecDepth 100000 in
theorem isBookNil_calls (w : World) : Calls Tryz.prog 20 #[.pointer none] w fun e w' => e = .returned (.bool false) ∧ Below w.heap.size w w' := by
  have HO : Hid _ := fun wx => openNil_calls wx
  go_enter Tryz.func20, Tryz.ntmps20
  go_wp2_with fail
  refine (HO.out _).mono ?_
  rintro e w2 ⟨rfl, hb2⟩
  obtain ⟨W3, hW3, X3, B3⟩ : ∃ W3, w2.alloc (.cells #[.int .i64 0, .int .i64 0, .int .i64 0, .int .i64 0, .int .i64 0, .string ⟨#[]⟩, .string ⟨#[]⟩, .slice none 0 0] 75) = W3 ∧ Blk W3 w2.heap.size zB8 75 ∧ Below w2.heap.size w2 W3 :=
    ⟨_, rfl, blk_new _ _ _ _ rfl, by go_grown⟩
  obtain ⟨W4, hW4, X4, _⟩ := setRow_named X3 zB8
  go_wp2_with ((with_reducible refine st_row (ty := 75) X3 infoB8 zB8_same zB8_one hW4 ?_ ?_ ?_); rfl; rfl)
  go_ret
  exact ⟨rfl, below_row (chain hb2 B3) hW4 hb2.size⟩
theorem refuseNil_calls (v : Value) (w : World) : Calls Tryz.prog 15 #[.pointer none, v] w fun e w' => e = .returned (.int .i64 1) ∧ Below w.heap.size w w' := by
  have HB : Hid _ := isBookNil_calls w
  go_enter Tryz.func15, Tryz.ntmps15
  go_wp2_with fail
  refine Calls.mono HB.out ?_
  rintro e w1 ⟨rfl, b1⟩
  go_wp2
  go_ret
  exact ⟨rfl, b1⟩
theorem rootNil_calls (v : Value) (w : World) : Calls Tryz.prog 4 #[.pointer none, v] w fun e w' => e = .returned (.tuple #[.string ⟨#[]⟩, .int .i64 1]) ∧ Below w.heap.size w w' := by
  have HB : Hid _ := refuseNil_calls v w
  go_enter Tryz.func4, Tryz.ntmps4
  go_wp2_with fail
  refine Calls.mono HB.out ?_
  rintro e w1 ⟨rfl, b1⟩
  go_wp2
  go_ret2
  exact ⟨rfl, b1⟩
set_option maxHeartbeats 1000000 in
set_option maxRecDepth 100000 in
theorem proveNil_calls (v : Value) (key : ByteArray) (w : World) : Calls Tryz.prog 5 #[.pointer none, v, .string key] w fun e w' => e = .returned (.tuple #[.agg #[.int .i64 0, .slice none 0 0], .int .i64 1]) ∧ Below w.heap.size w w' := by
  obtain ⟨W1, hW1, X1, B1, Z1⟩ : ∃ W1, w.alloc (.cells #[.int .i64 0, .slice none 0 0] 25) = W1 ∧ Blk W1 w.heap.size #[.int .i64 0, .slice none 0 0] 25 ∧ Below w.heap.size w W1 ∧ W1.heap.size = w.heap.size + 1 :=
    ⟨_, rfl, blk_new _ _ _ _ rfl, by go_grown, by simp⟩
  have HR : Hid _ := refuseNil_calls v W1
  go_enter Tryz.func5, Tryz.ntmps5
  go_wp2_with fail
  refine Calls.mono HR.out ?_
  rintro e w1 ⟨rfl, b1⟩
  obtain ⟨W3, hW3, X3, _⟩ := setRow_named (X1.below b1) #[.int .i64 0, .slice none 0 0]
  go_wp2_with ((with_reducible refine st_row (ty := 25) (X1.below b1) (infoPf2 _ _) (pfSame _ _ _ _) (pfOne _ _ _ _) hW3 ?_ ?_ ?_); rfl; rfl)
  refine bodyPost_ret (v := .tuple #[.agg #[.int .i64 0, .slice none 0 0], .int .i64 1]) (proveRecs_results X3 rfl rfl) rfl ?_
  exact ⟨rfl, below_row (chain B1 b1) hW3 (by omega)⟩
set_option maxHeartbeats 1000000 in
set_option maxRecDepth 100000 in
theorem verifyNil_calls (n : Int) (lv : Value) (rt key : ByteArray) (w : World) :
    Calls Tryz.prog 6 #[.pointer none, .string rt, .string key, .agg #[.int .i64 n, lv]] w fun e w' => e = .returned (.tuple #[.string ⟨#[]⟩, .bool false, .int .i64 1]) ∧ Below w.heap.size w w' := by
  obtain ⟨W1, hW1, B1⟩ : ∃ W1, w.alloc (.cells #[.int .i64 n, lv] 25) = W1 ∧ Below w.heap.size w W1 := ⟨_, rfl, by go_grown⟩
  have HB : Hid _ := isBookNil_calls W1
  go_enter Tryz.func6, Tryz.ntmps6
  go_wp2_with fail
  refine Calls.mono HB.out ?_
  rintro e w2 ⟨rfl, b2⟩
  go_wp2
  go_ret3
  exact ⟨rfl, chain B1 b2⟩
/-- A tree that nobody made: nil, or one without a book. -/
def NoTree (w : World) (v : Value) : Prop := v = .pointer none ∨ ∃ z, v = .pointer (some ⟨z, 0, none⟩) ∧ Blk w z #[.pointer none, .slice none 0 0, .slice none 0 0] 30
theorem NoTree.below {w w' : World} {v : Value} (h : NoTree w v) (hb : Below w.heap.size w w') : NoTree w' v := by
  rcases h with h | ⟨z, h, hB⟩
  · exact Or.inl h
  · exact Or.inr ⟨z, h, hB.below hb⟩
theorem noTree_calls (v : Value) (w : World) (h : NoTree w v) : Calls Tryz.prog 26 #[v] w fun e w' => e = .returned (.bool false) ∧ w' = w := by
  rcases h with rfl | ⟨z, rfl, hB⟩
  · go_enter Tryz.func26, Tryz.ntmps26
    go_wp2
    go_ret
    exact ⟨rfl, rfl⟩
  · have c0 : w.cell? ⟨z, 0, none⟩ = some (.pointer none) := hB.cell rfl
    go_enter Tryz.func26, Tryz.ntmps26
    go_wp2
    go_ret
    exact ⟨rfl, rfl⟩
theorem noGet_calls (v : Value) (key : ByteArray) (w : World) (h : NoTree w v) : Calls Tryz.prog 7 #[v, .string key] w fun e w' => e = .returned (.tuple #[.string ⟨#[]⟩, .bool false]) ∧ w' = w := by
  have hm := noTree_calls v w h
  go_enter Tryz.func7, Tryz.ntmps7
  go_wp2_with fail
  refine hm.mono ?_
  rintro e w1 ⟨rfl, rfl⟩
  go_wp2
  go_ret2
  exact ⟨rfl, rfl⟩
theorem noPut_calls (v : Value) (key val : ByteArray) (w : World) (h : NoTree w v) : Calls Tryz.prog 10 #[v, .string key, .string val] w fun e w' => e = .returned (.int .i64 1) ∧ w' = w := by
  have hm := noTree_calls v w h
  go_enter Tryz.func10, Tryz.ntmps10
  go_wp2_with fail
  refine hm.mono ?_
  rintro e w1 ⟨rfl, rfl⟩
  go_wp2
  go_ret
  exact ⟨rfl, rfl⟩
theorem noDrop_calls (v : Value) (key : ByteArray) (w : World) (h : NoTree w v) : Calls Tryz.prog 11 #[v, .string key] w fun e w' => e = .returned (.bool false) ∧ w' = w := by
  have hm := noTree_calls v w h
  go_enter Tryz.func11, Tryz.ntmps11
  go_wp2_with fail
  refine hm.mono ?_
  rintro e w1 ⟨rfl, rfl⟩
  go_wp2
  go_ret
  exact ⟨rfl, rfl⟩
theorem noRoot_calls (v : Value) (w : World) (h : NoTree w v) : Calls Tryz.prog 12 #[v] w fun e w' => e = .returned (.string ⟨#[]⟩) ∧ w' = w := by
  have hm := noTree_calls v w h
  go_enter Tryz.func12, Tryz.ntmps12
  go_wp2_with fail
  refine hm.mono ?_
  rintro e w1 ⟨rfl, rfl⟩
  go_wp2
  go_ret
  exact ⟨rfl, rfl⟩
theorem noRecords_calls (v : Value) (w : World) (h : NoTree w v) : Calls Tryz.prog 13 #[v] w fun e w' => e = .returned (.slice none 0 0) ∧ w' = w := by
  have hm := noTree_calls v w h
  go_enter Tryz.func13, Tryz.ntmps13
  go_wp2_with fail
  refine hm.mono ?_
  rintro e w1 ⟨rfl, rfl⟩
  go_wp2
  go_ret
  exact ⟨rfl, rfl⟩
theorem noProve_results {w' : World} {c0 c1 v : Value} {r : Nat} (X : Blk w' r #[c0, c1] 25) {t : Array Value} (h1 : t.getD 4 undef = .pointer (some ⟨r, 0, none⟩)) (h2 : t.getD 5 undef = v) :
    (results Tryz.f8 t).run Tryz.prog w' = .ok (.tuple #[.agg #[c0, c1], v]) w' := by
  have a0 := X.cell (o := 0) rfl
  have a1 := X.cell (o := 1) rfl
  simp only [Array.getD_eq_getD_getElem?] at h1 h2
  simp [results, Tryz.results8, go_sem, h1, h2, a0, a1]
set_option maxHeartbeats 1000000 in
set_option maxRecDepth 100000 in
theorem noProve_calls (v : Value) (key : ByteArray) (w : World) (h : NoTree w v) : Calls Tryz.prog 8 #[v, .string key] w fun e w' => e = .returned (.tuple #[.agg #[.int .i64 0, .slice none 0 0], .int .i64 1]) ∧ Below w.heap.size w w' := by
  obtain ⟨W1, hW1, X1, B1, Z1⟩ : ∃ W1, w.alloc (.cells #[.int .i64 0, .slice none 0 0] 25) = W1 ∧ Blk W1 w.heap.size #[.int .i64 0, .slice none 0 0] 25 ∧ Below w.heap.size w W1 ∧ W1.heap.size = w.heap.size + 1 :=
    ⟨_, rfl, blk_new _ _ _ _ rfl, by go_grown, by simp⟩
  have hm := noTree_calls v W1 (h.below B1)
  go_enter Tryz.func8, Tryz.ntmps8
  go_wp2_with fail
  refine hm.mono ?_
  rintro e w1 ⟨rfl, rfl⟩
  obtain ⟨W3, hW3, X3, _⟩ := setRow_named X1 #[.int .i64 0, .slice none 0 0]
  go_wp2_with ((with_reducible refine st_row (ty := 25) X1 (infoPf2 _ _) (pfSame _ _ _ _) (pfOne _ _ _ _) hW3 ?_ ?_ ?_); rfl; rfl)
  refine bodyPost_ret (v := .tuple #[.agg #[.int .i64 0, .slice none 0 0], .int .i64 1]) (noProve_results X3 rfl rfl) rfl ?_
  exact ⟨rfl, below_row B1 hW3 (by omega)⟩
theorem noNew_calls (w : World) : Calls Tryz.prog 9 #[.pointer none] w fun e w' => e = .returned (.pointer none) ∧ Below w.heap.size w w' := by
  have HB : Hid _ := isBookNil_calls w
  go_enter Tryz.func9, Tryz.ntmps9
  go_wp2_with fail
  refine Calls.mono HB.out ?_
  rintro e w1 ⟨rfl, b1⟩
  go_wp2
  go_ret
  exact ⟨rfl, b1⟩
end Go.Proofs.YtlnlagmobgkblaaGreat
