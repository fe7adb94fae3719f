/- A log that there is not. -/
import Derived.Test.YtjpmnmgnbpecjaaVlO
namespace Go.Proofs.Ytjpmnmgnbpecjaa
open Go.Shelf Go.RowKit Go.Lib Go.Sort
open Go.ChangeMaps (setBlock)
set_option linter.unusedSimpArgs false
set_option linter.unusedVariables false
set_option maxHeartbeats 4000000 in
set_option maxRecDepth 100000 in
theorem proposal_nil (w : World) (q : Int) : Calls Try.prog 15 #[.pointer none, .int .i64 q] w fun e w' => e = .returned (.tuple #[.string ⟨#[]⟩, .string ⟨#[]⟩, .bool false]) ∧ Below w.heap.size w w' := by
  have hm := fun wx => at_nil wx q
  go_enter Try.func15, Try.ntmps15
  go_wp2_with fail
  refine (hm _).mono ?_
  rintro e w1 ⟨rfl, hw1⟩
  obtain rfl := hw1.symm
  go_wp2
  (try simp only [Exit.inBlock, Exit.then])
  refine bodyPost_ret (v := .tuple #[.string ⟨#[]⟩, .string ⟨#[]⟩, .bool false]) (by simp [results, Try.results15, go_sem]) rfl ?_
  exact ⟨rfl, by first | exact Below.refl _ _ | go_grown⟩
set_option maxHeartbeats 4000000 in
set_option maxRecDepth 100000 in
theorem stable_nil (w : World) : Calls Try.prog 23 #[.pointer none] w fun e w' => e = .returned (.tuple #[.int .i64 0, .string ⟨#[]⟩, .slice none 0 0]) ∧ Below w.heap.size w w' := by
  have hm := fun wx => made_nil wx
  go_enter Try.func23, Try.ntmps23
  go_wp2_with fail
  refine (hm _).mono ?_
  rintro e w1 ⟨rfl, hw1⟩
  obtain rfl := hw1.symm
  go_wp2
  (try simp only [Exit.inBlock, Exit.then])
  refine bodyPost_ret (v := .tuple #[.int .i64 0, .string ⟨#[]⟩, .slice none 0 0]) (by simp [results, Try.results23, go_sem]) rfl ?_
  exact ⟨rfl, by first | exact Below.refl _ _ | go_grown⟩
set_option maxHeartbeats 4000000 in
set_option maxRecDepth 100000 in
theorem enter_nil (w : World) (q : Int) : Calls Try.prog 12 #[.pointer none, .int .i64 q] w fun e w' => e = .returned (.int .i64 1) ∧ Below w.heap.size w w' := by
  have hm := fun wx => made_nil wx
  go_enter Try.func12, Try.ntmps12
  go_wp2_with fail
  refine (hm _).mono ?_
  rintro e w1 ⟨rfl, hw1⟩
  obtain rfl := hw1.symm
  go_wp2
  go_ret
  exact ⟨rfl, by first | exact Below.refl _ _ | go_grown⟩
set_option maxHeartbeats 4000000 in
set_option maxRecDepth 100000 in
theorem cut_nil (w : World) (q : Int) : Calls Try.prog 22 #[.pointer none, .int .i64 q] w fun e w' => e = .returned (.int .i64 1) ∧ Below w.heap.size w w' := by
  have hm := fun wx => made_nil wx
  go_enter Try.func22, Try.ntmps22
  go_wp2_with fail
  refine (hm _).mono ?_
  rintro e w1 ⟨rfl, hw1⟩
  obtain rfl := hw1.symm
  go_wp2
  go_ret
  exact ⟨rfl, by first | exact Below.refl _ _ | go_grown⟩
set_option maxHeartbeats 4000000 in
set_option maxRecDepth 100000 in
theorem propose_nil (w : World) (a b : Int) (c d : ByteArray) : Calls Try.prog 28 #[.pointer none, .int .i64 a, .int .i64 b, .string c, .string d] w fun e w' => e = .returned (.int .i64 1) ∧ Below w.heap.size w w' := by
  have hm := fun wx => made_nil wx
  go_enter Try.func28, Try.ntmps28
  go_wp2_with fail
  refine (hm _).mono ?_
  rintro e w1 ⟨rfl, hw1⟩
  obtain rfl := hw1.symm
  go_wp2
  go_ret
  exact ⟨rfl, by first | exact Below.refl _ _ | go_grown⟩
set_option maxHeartbeats 4000000 in
set_option maxRecDepth 100000 in
theorem kept_nil (w : World) : Calls Try.prog 10 #[.pointer none] w fun e w' => e = .returned (.slice none 0 0) ∧ Below w.heap.size w w' := by
  have hm := fun wx => made_nil wx
  go_enter Try.func10, Try.ntmps10
  go_wp2_with fail
  refine (hm _).mono ?_
  rintro e w1 ⟨rfl, hw1⟩
  obtain rfl := hw1.symm
  go_wp2
  go_ret
  exact ⟨rfl, by first | exact Below.refl _ _ | go_grown⟩
set_option maxHeartbeats 4000000 in
set_option maxRecDepth 100000 in
theorem view_nil (w : World) : Calls Try.prog 9 #[.pointer none] w fun e w' => e = .returned (.int .i64 0) ∧ Below w.heap.size w w' := by
  have hm := fun wx => made_nil wx
  go_enter Try.func9, Try.ntmps9
  go_wp2_with fail
  refine (hm _).mono ?_
  rintro e w1 ⟨rfl, hw1⟩
  obtain rfl := hw1.symm
  go_wp2
  go_ret
  exact ⟨rfl, by first | exact Below.refl _ _ | go_grown⟩
set_option maxHeartbeats 4000000 in
set_option maxRecDepth 100000 in
theorem low_nil (w : World) : Calls Try.prog 11 #[.pointer none] w fun e w' => e = .returned (.int .i64 0) ∧ Below w.heap.size w w' := by
  have hm := fun wx => made_nil wx
  go_enter Try.func11, Try.ntmps11
  go_wp2_with fail
  refine (hm _).mono ?_
  rintro e w1 ⟨rfl, hw1⟩
  obtain rfl := hw1.symm
  go_wp2
  go_ret
  exact ⟨rfl, by first | exact Below.refl _ _ | go_grown⟩
set_option maxHeartbeats 4000000 in
set_option maxRecDepth 100000 in
theorem prepd_nil (w : World) (q : Int) : Calls Try.prog 17 #[.pointer none, .int .i64 q] w fun e w' => e = .returned (.bool false) ∧ Below w.heap.size w w' := by
  have hm := fun wx => at_nil wx q
  go_enter Try.func17, Try.ntmps17
  go_wp2_with fail
  refine (hm _).mono ?_
  rintro e w1 ⟨rfl, hw1⟩
  obtain rfl := hw1.symm
  go_wp2
  go_ret
  exact ⟨rfl, by first | exact Below.refl _ _ | go_grown⟩
set_option maxHeartbeats 4000000 in
set_option maxRecDepth 100000 in
theorem commd_nil (w : World) (q : Int) : Calls Try.prog 18 #[.pointer none, .int .i64 q] w fun e w' => e = .returned (.bool false) ∧ Below w.heap.size w w' := by
  have hm := at_nil w q
  go_enter Try.func18, Try.ntmps18
  go_wp2_with fail
  refine hm.mono ?_
  rintro e w1 ⟨rfl, hw1⟩
  obtain rfl := hw1.symm
  go_wp2_with fail
  go_quiet (fail)
  go_wp2
  go_ret
  exact ⟨rfl, by first | exact below_drewN _ _ | exact (Below.refl _ _).drew | (refine ⟨rfl, rfl, rfl, Nat.le_refl _, fun _ _ => rfl⟩)⟩
set_option maxHeartbeats 4000000 in
set_option maxRecDepth 100000 in
theorem vote_nil (w : World) (m0 : Int) (m1 m2 : ByteArray) (k v q : Int) (d : ByteArray) : Calls Try.prog 36 #[.pointer none, .agg #[.int .i64 m0, .string m1, .string m2], .agg #[.int .i64 k, .int .i64 v, .int .i64 q, .int .i64 0, .int .i64 0, .string d, .string ⟨#[]⟩, .slice none 0 0]] w fun e w' => e = .returned (.int .i64 1) ∧ Below w.heap.size w w' := by
  have hm := fun wx => has_nil wx m0
  obtain ⟨W0, hW0, XM, B0, Z0⟩ : ∃ W0, (w.alloc (.cells #[.int .i64 m0, .string m1, .string m2] 38)) = W0 ∧ Blk W0 w.heap.size #[.int .i64 m0, .string m1, .string m2] 38 ∧ Below w.heap.size w W0 ∧ W0.heap.size = w.heap.size + 1 :=
    ⟨_, rfl, blk_new _ _ _ _ rfl, by go_grown, by simp⟩
  obtain ⟨W1, hW1, B1⟩ : ∃ W1, (W0.alloc (.cells #[.int .i64 k, .int .i64 v, .int .i64 q, .int .i64 0, .int .i64 0, .string d, .string ⟨#[]⟩, .slice none 0 0] 34)) = W1 ∧ Below W0.heap.size W0 W1 :=
    ⟨_, rfl, by go_grown⟩
  have XM1 := XM.below B1
  have y0 : W1.cell? ⟨w.heap.size, 0, none⟩ = some (.int .i64 m0) := XM1.cell rfl
  have HB : Hid (Below w.heap.size w W1) := B0.trans (B1.mono (by omega))
  have HZ : Hid _ := Z0
  clear Z0
  go_enter Try.func36, Try.ntmps36
  go_wp2_with fail
  refine (hm _).mono ?_
  rintro e w1 ⟨rfl, hw1⟩
  obtain rfl := hw1.symm
  go_wp2
  go_ret
  exact ⟨rfl, HB.out⟩
set_option maxHeartbeats 4000000 in
set_option maxRecDepth 100000 in
theorem check_nil (w : World) (m0 : Int) (m1 m2 : ByteArray) (k v q : Int) (d : ByteArray) : Calls Try.prog 39 #[.pointer none, .agg #[.int .i64 m0, .string m1, .string m2], .agg #[.int .i64 k, .int .i64 v, .int .i64 q, .int .i64 0, .int .i64 0, .string d, .string ⟨#[]⟩, .slice none 0 0]] w fun e w' => e = .returned (.int .i64 1) ∧ Below w.heap.size w w' := by
  have hm := fun wx => has_nil wx m0
  obtain ⟨W0, hW0, XM, B0, Z0⟩ : ∃ W0, (w.alloc (.cells #[.int .i64 m0, .string m1, .string m2] 38)) = W0 ∧ Blk W0 w.heap.size #[.int .i64 m0, .string m1, .string m2] 38 ∧ Below w.heap.size w W0 ∧ W0.heap.size = w.heap.size + 1 :=
    ⟨_, rfl, blk_new _ _ _ _ rfl, by go_grown, by simp⟩
  obtain ⟨W1, hW1, B1⟩ : ∃ W1, (W0.alloc (.cells #[.int .i64 k, .int .i64 v, .int .i64 q, .int .i64 0, .int .i64 0, .string d, .string ⟨#[]⟩, .slice none 0 0] 34)) = W1 ∧ Below W0.heap.size W0 W1 :=
    ⟨_, rfl, by go_grown⟩
  have XM1 := XM.below B1
  have y0 : W1.cell? ⟨w.heap.size, 0, none⟩ = some (.int .i64 m0) := XM1.cell rfl
  have HB : Hid (Below w.heap.size w W1) := B0.trans (B1.mono (by omega))
  have HZ : Hid _ := Z0
  clear Z0
  go_enter Try.func39, Try.ntmps39
  go_wp2_with fail
  refine (hm _).mono ?_
  rintro e w1 ⟨rfl, hw1⟩
  obtain rfl := hw1.symm
  go_wp2
  go_ret
  exact ⟨rfl, HB.out⟩
set_option maxHeartbeats 4000000 in
set_option maxRecDepth 100000 in
theorem voted_nil (w : World) (k q f : Int) : Calls Try.prog 16 #[.pointer none, .int .i64 k, .int .i64 q, .int .i64 f] w fun e w' => e = .returned (.tuple #[.agg #[.int .i64 0, .string ⟨#[]⟩, .string ⟨#[]⟩], .bool false]) ∧ Below w.heap.size w w' := by
  have hm := fun wx => at_nil wx q
  obtain ⟨zs, hzs, hsz⟩ : ∃ zs : Array Value, zs = #[.int .i64 0, .string ⟨#[]⟩, .string ⟨#[]⟩] ∧ zs.size = 3 := ⟨_, rfl, rfl⟩
  obtain ⟨W0, hW0, X0, b0⟩ : ∃ W0, (w.alloc (.cells #[.int .i64 0, .string ⟨#[]⟩, .string ⟨#[]⟩] 38)) = W0 ∧ Blk W0 w.heap.size zs 38 ∧ Below w.heap.size w W0 := ⟨_, rfl, by rw [hzs]; exact blk_new _ _ _ _ rfl, by go_grown⟩
  obtain ⟨W2, hW2, X2, o2, z2, os2, tp2, ou2⟩ := setRow_named X0 #[.int .i64 0, .string ⟨#[]⟩, .string ⟨#[]⟩]
  have hb : Below w.heap.size w W2 := below_row (B := w.heap.size) b0 hW2 (Nat.le_refl _)
  have hinf : (Try.prog.info? 38).map (·.size) = some (#[Value.int .i64 0, .string ⟨#[]⟩, .string ⟨#[]⟩]).size := by kernel_rfl
  have hs : zs.size = (#[Value.int .i64 0, .string ⟨#[]⟩, .string ⟨#[]⟩]).size := hsz
  have h1 : (#[Value.int .i64 0, .string ⟨#[]⟩, .string ⟨#[]⟩]).all (·.oneCell') = true := by kernel_rfl
  have x0 : W2.cell? ⟨w.heap.size, 0, none⟩ = some (.int .i64 0) := X2.cell rfl
  have x1 : W2.cell? ⟨w.heap.size, 1, none⟩ = some (.string ⟨#[]⟩) := X2.cell rfl
  have x2 : W2.cell? ⟨w.heap.size, 2, none⟩ = some (.string ⟨#[]⟩) := X2.cell rfl
  have HH : Hid _ := hzs
  clear hzs hsz
  go_enter Try.func16, Try.ntmps16
  go_wp2_with fail
  refine (hm _).mono ?_
  rintro e w1 ⟨rfl, hw1⟩
  obtain rfl := hw1.symm
  go_wp2_with (with_reducible refine st_row X0 hinf hs h1 hW2 rfl rfl ?_)
  (try simp only [Exit.inBlock, Exit.then])
  refine bodyPost_ret (v := .tuple #[.agg #[.int .i64 0, .string ⟨#[]⟩, .string ⟨#[]⟩], .bool false]) (by simp [results, Try.results16, go_sem, x0, x1, x2]) rfl ?_
  exact ⟨rfl, hb⟩
end Go.Proofs.Ytjpmnmgnbpecjaa
