/- A log that there is not takes and tells nothing: the walk of the law. -/
import Derived.Test.YtjpmnmgnbpecjaaVlT
namespace Go.Proofs.Ytjpmnmgnbpecjaa
open Go.Shelf Go.RowKit Go.Lib Go.Sort
open Go.ChangeMaps (setBlock)
set_option linter.unusedSimpArgs false
set_option linter.unusedVariables false
set_option maxHeartbeats 4000000 in
set_option maxRecDepth 100000 in
theorem body4_calls (ak af av aq : Int) (ad at' : ByteArray) (w : World) (hak : arn ak 6 = 4) : Calls Try.prog 38 #[.agg #[.int .i64 ak, .int .i64 af, .int .i64 av, .int .i64 aq, .string ad, .string at']] w fun e w' => e = .returned (.agg #[.int .i64 5, .int .i64 0, .int .i64 aq, .int .i64 0, .int .i64 0, .string ad, .string ⟨#[]⟩, .slice none 0 0]) ∧ Below w.heap.size w w' := by
  obtain ⟨W0, hW0, XA, B0, Z0⟩ : ∃ W0, (w.alloc (.cells #[.int .i64 ak, .int .i64 af, .int .i64 av, .int .i64 aq, .string ad, .string at'] 48)) = W0 ∧ Blk W0 w.heap.size #[.int .i64 ak, .int .i64 af, .int .i64 av, .int .i64 aq, .string ad, .string at'] 48 ∧ Below w.heap.size w W0 ∧ W0.heap.size = w.heap.size + 1 :=
    ⟨_, rfl, blk_new _ _ _ _ rfl, by go_grown, by simp⟩
  have HZ0 : Hid _ := Z0
  have hza : w.heap.size < W0.heap.size := by omega
  clear Z0
  obtain ⟨zs, hzs, hsz⟩ : ∃ zs : Array Value, zs = #[.int .i64 0, .int .i64 0, .int .i64 0, .int .i64 0, .int .i64 0, .string ⟨#[]⟩, .string ⟨#[]⟩, .slice none 0 0] ∧ zs.size = 8 := ⟨_, rfl, rfl⟩
  obtain ⟨W1, hW1, X1, b1, Z1⟩ : ∃ W1, (W0.alloc (.cells #[.int .i64 0, .int .i64 0, .int .i64 0, .int .i64 0, .int .i64 0, .string ⟨#[]⟩, .string ⟨#[]⟩, .slice none 0 0] 34)) = W1 ∧ Blk W1 W0.heap.size zs 34 ∧ Below W0.heap.size W0 W1 ∧ W1.heap.size = W0.heap.size + 1 := ⟨_, rfl, by rw [hzs]; exact blk_new _ _ _ _ rfl, by go_grown, by simp⟩
  have HZ1 : Hid _ := Z1
  clear Z1
  have XA1 := XA.below b1
  have a0 : W1.cell? ⟨w.heap.size, 0, none⟩ = some (.int .i64 ak) := XA1.cell rfl
  have a1 : W1.cell? ⟨w.heap.size, 1, none⟩ = some (.int .i64 af) := XA1.cell rfl
  have a2 : W1.cell? ⟨w.heap.size, 2, none⟩ = some (.int .i64 av) := XA1.cell rfl
  have a3 : W1.cell? ⟨w.heap.size, 3, none⟩ = some (.int .i64 aq) := XA1.cell rfl
  have a4 : W1.cell? ⟨w.heap.size, 4, none⟩ = some (.string ad) := XA1.cell rfl
  have a5 : W1.cell? ⟨w.heap.size, 5, none⟩ = some (.string at') := XA1.cell rfl
  obtain ⟨W2, hW2, X2, o2, z2, os2, tp2, ou2⟩ := setRow_named X1 #[.int .i64 5, .int .i64 0, .int .i64 aq, .int .i64 0, .int .i64 0, .string ad, .string ⟨#[]⟩, .slice none 0 0]
  have hb : Below w.heap.size w W2 := below_row (B := w.heap.size) (B0.trans (b1.mono (by omega))) hW2 (by omega)
  have hinf : (Try.prog.info? 34).map (·.size) = some (#[.int .i64 5, .int .i64 0, .int .i64 aq, .int .i64 0, .int .i64 0, .string ad, .string ⟨#[]⟩, .slice none 0 0] : Array Value).size := by kernel_rfl
  have hs : zs.size = (#[.int .i64 5, .int .i64 0, .int .i64 aq, .int .i64 0, .int .i64 0, .string ad, .string ⟨#[]⟩, .slice none 0 0] : Array Value).size := hsz
  have h1 : (#[.int .i64 5, .int .i64 0, .int .i64 aq, .int .i64 0, .int .i64 0, .string ad, .string ⟨#[]⟩, .slice none 0 0] : Array Value).all (·.oneCell') = true := by kernel_rfl
  have x0 : W2.cell? ⟨W0.heap.size, 0, none⟩ = some (.int .i64 5) := X2.cell rfl
  have x1 : W2.cell? ⟨W0.heap.size, 1, none⟩ = some (.int .i64 0) := X2.cell rfl
  have x2 : W2.cell? ⟨W0.heap.size, 2, none⟩ = some (.int .i64 aq) := X2.cell rfl
  have x3 : W2.cell? ⟨W0.heap.size, 3, none⟩ = some (.int .i64 0) := X2.cell rfl
  have x4 : W2.cell? ⟨W0.heap.size, 4, none⟩ = some (.int .i64 0) := X2.cell rfl
  have x5 : W2.cell? ⟨W0.heap.size, 5, none⟩ = some (.string ad) := X2.cell rfl
  have x6 : W2.cell? ⟨W0.heap.size, 6, none⟩ = some (.string ⟨#[]⟩) := X2.cell rfl
  have x7 : W2.cell? ⟨W0.heap.size, 7, none⟩ = some (.slice none 0 0) := X2.cell rfl
  have HH : Hid _ := hzs
  clear hzs hsz
  go_enter Try.func38, Try.ntmps38
  go_wp2_with fail
  refine (around_calls ak 6 _ (by decide) (by decide)).mono ?_
  rintro e wa ⟨rfl, hwa⟩
  obtain rfl := hwa.symm
  rw [hak]
  go_wp2_with (with_reducible refine st_row X1 hinf hs h1 hW2 rfl rfl ?_)
  (try simp only [Exit.inBlock, Exit.then])
  refine bodyPost_ret (v := .agg #[.int .i64 5, .int .i64 0, .int .i64 aq, .int .i64 0, .int .i64 0, .string ad, .string ⟨#[]⟩, .slice none 0 0]) (by simp [results, Try.results38, go_sem, x0, x1, x2, x3, x4, x5, x6, x7]) rfl ?_
  exact ⟨rfl, hb⟩
set_option maxHeartbeats 4000000 in
set_option maxRecDepth 100000 in
theorem done_nil0 (w : World) (ak af av aq : Int) (ad at' : ByteArray) (hak : arn ak 6 = 0) : Calls Try.prog 21 #[.pointer none, .agg #[.int .i64 ak, .int .i64 af, .int .i64 av, .int .i64 aq, .string ad, .string at']] w fun e w' => e = .returned (.int .i64 1) ∧ Below w.heap.size w w' := by
  obtain ⟨W0, hW0, XA, B0, Z0⟩ : ∃ W0, (w.alloc (.cells #[.int .i64 ak, .int .i64 af, .int .i64 av, .int .i64 aq, .string ad, .string at'] 48)) = W0 ∧ Blk W0 w.heap.size #[.int .i64 ak, .int .i64 af, .int .i64 av, .int .i64 aq, .string ad, .string at'] 48 ∧ Below w.heap.size w W0 ∧ W0.heap.size = w.heap.size + 1 :=
    ⟨_, rfl, blk_new _ _ _ _ rfl, by go_grown, by simp⟩
  have HZ0 : Hid _ := Z0
  have hza : w.heap.size < W0.heap.size := by omega
  clear Z0
  have c0 : W0.cell? ⟨w.heap.size, 0, none⟩ = some (.int .i64 ak) := XA.cell rfl
  have c1 : W0.cell? ⟨w.heap.size, 1, none⟩ = some (.int .i64 af) := XA.cell rfl
  have c2 : W0.cell? ⟨w.heap.size, 2, none⟩ = some (.int .i64 av) := XA.cell rfl
  have c3 : W0.cell? ⟨w.heap.size, 3, none⟩ = some (.int .i64 aq) := XA.cell rfl
  have c4 : W0.cell? ⟨w.heap.size, 4, none⟩ = some (.string ad) := XA.cell rfl
  have c5 : W0.cell? ⟨w.heap.size, 5, none⟩ = some (.string at') := XA.cell rfl
  go_enter Try.func21, Try.ntmps21
  go_wp2_with fail
  refine (around_calls ak 6 _ (by decide) (by decide)).mono ?_
  rintro e wa ⟨rfl, hwa⟩
  obtain rfl := hwa.symm
  rw [hak]
  go_wp2_with fail
  refine (enter_nil _ av).mono ?_
  rintro e w2 ⟨rfl, b2⟩
  go_wp2
  go_ret
  exact ⟨rfl, B0.trans (b2.mono B0.size)⟩
set_option maxHeartbeats 4000000 in
set_option maxRecDepth 100000 in
theorem done_nil1 (w : World) (ak af av aq : Int) (ad at' : ByteArray) (hak : arn ak 6 = 1) : Calls Try.prog 21 #[.pointer none, .agg #[.int .i64 ak, .int .i64 af, .int .i64 av, .int .i64 aq, .string ad, .string at']] w fun e w' => e = .returned (.int .i64 1) ∧ Below w.heap.size w w' := by
  obtain ⟨W0, hW0, XA, B0, Z0⟩ : ∃ W0, (w.alloc (.cells #[.int .i64 ak, .int .i64 af, .int .i64 av, .int .i64 aq, .string ad, .string at'] 48)) = W0 ∧ Blk W0 w.heap.size #[.int .i64 ak, .int .i64 af, .int .i64 av, .int .i64 aq, .string ad, .string at'] 48 ∧ Below w.heap.size w W0 ∧ W0.heap.size = w.heap.size + 1 :=
    ⟨_, rfl, blk_new _ _ _ _ rfl, by go_grown, by simp⟩
  have HZ0 : Hid _ := Z0
  have hza : w.heap.size < W0.heap.size := by omega
  clear Z0
  have c0 : W0.cell? ⟨w.heap.size, 0, none⟩ = some (.int .i64 ak) := XA.cell rfl
  have c1 : W0.cell? ⟨w.heap.size, 1, none⟩ = some (.int .i64 af) := XA.cell rfl
  have c2 : W0.cell? ⟨w.heap.size, 2, none⟩ = some (.int .i64 av) := XA.cell rfl
  have c3 : W0.cell? ⟨w.heap.size, 3, none⟩ = some (.int .i64 aq) := XA.cell rfl
  have c4 : W0.cell? ⟨w.heap.size, 4, none⟩ = some (.string ad) := XA.cell rfl
  have c5 : W0.cell? ⟨w.heap.size, 5, none⟩ = some (.string at') := XA.cell rfl
  go_enter Try.func21, Try.ntmps21
  go_wp2_with fail
  refine (around_calls ak 6 _ (by decide) (by decide)).mono ?_
  rintro e wa ⟨rfl, hwa⟩
  obtain rfl := hwa.symm
  rw [hak]
  go_wp2_with fail
  refine (propose_nil _ av aq ad at').mono ?_
  rintro e w2 ⟨rfl, b2⟩
  go_wp2
  go_ret
  exact ⟨rfl, B0.trans (b2.mono B0.size)⟩
set_option maxHeartbeats 4000000 in
set_option maxRecDepth 100000 in
theorem done_nil5 (w : World) (ak af av aq : Int) (ad at' : ByteArray) (hak : arn ak 6 = 5) : Calls Try.prog 21 #[.pointer none, .agg #[.int .i64 ak, .int .i64 af, .int .i64 av, .int .i64 aq, .string ad, .string at']] w fun e w' => e = .returned (.int .i64 1) ∧ Below w.heap.size w w' := by
  obtain ⟨W0, hW0, XA, B0, Z0⟩ : ∃ W0, (w.alloc (.cells #[.int .i64 ak, .int .i64 af, .int .i64 av, .int .i64 aq, .string ad, .string at'] 48)) = W0 ∧ Blk W0 w.heap.size #[.int .i64 ak, .int .i64 af, .int .i64 av, .int .i64 aq, .string ad, .string at'] 48 ∧ Below w.heap.size w W0 ∧ W0.heap.size = w.heap.size + 1 :=
    ⟨_, rfl, blk_new _ _ _ _ rfl, by go_grown, by simp⟩
  have HZ0 : Hid _ := Z0
  have hza : w.heap.size < W0.heap.size := by omega
  clear Z0
  have c0 : W0.cell? ⟨w.heap.size, 0, none⟩ = some (.int .i64 ak) := XA.cell rfl
  have c1 : W0.cell? ⟨w.heap.size, 1, none⟩ = some (.int .i64 af) := XA.cell rfl
  have c2 : W0.cell? ⟨w.heap.size, 2, none⟩ = some (.int .i64 av) := XA.cell rfl
  have c3 : W0.cell? ⟨w.heap.size, 3, none⟩ = some (.int .i64 aq) := XA.cell rfl
  have c4 : W0.cell? ⟨w.heap.size, 4, none⟩ = some (.string ad) := XA.cell rfl
  have c5 : W0.cell? ⟨w.heap.size, 5, none⟩ = some (.string at') := XA.cell rfl
  go_enter Try.func21, Try.ntmps21
  go_wp2_with fail
  refine (around_calls ak 6 _ (by decide) (by decide)).mono ?_
  rintro e wa ⟨rfl, hwa⟩
  obtain rfl := hwa.symm
  rw [hak]
  go_wp2_with fail
  refine (cut_nil _ aq).mono ?_
  rintro e w2 ⟨rfl, b2⟩
  go_wp2
  go_ret
  exact ⟨rfl, B0.trans (b2.mono B0.size)⟩
set_option maxHeartbeats 4000000 in
set_option maxRecDepth 100000 in
theorem done_nil2 (w : World) (ak af av aq : Int) (ad at' : ByteArray) (hak : arn ak 6 = 2) : Calls Try.prog 21 #[.pointer none, .agg #[.int .i64 ak, .int .i64 af, .int .i64 av, .int .i64 aq, .string ad, .string at']] w fun e w' => e = .returned (.int .i64 1) ∧ Below w.heap.size w w' := by
  obtain ⟨W0, hW0, XA, B0, Z0⟩ : ∃ W0, (w.alloc (.cells #[.int .i64 ak, .int .i64 af, .int .i64 av, .int .i64 aq, .string ad, .string at'] 48)) = W0 ∧ Blk W0 w.heap.size #[.int .i64 ak, .int .i64 af, .int .i64 av, .int .i64 aq, .string ad, .string at'] 48 ∧ Below w.heap.size w W0 ∧ W0.heap.size = w.heap.size + 1 :=
    ⟨_, rfl, blk_new _ _ _ _ rfl, by go_grown, by simp⟩
  have HZ0 : Hid _ := Z0
  have hza : w.heap.size < W0.heap.size := by omega
  clear Z0
  have c0 : W0.cell? ⟨w.heap.size, 0, none⟩ = some (.int .i64 ak) := XA.cell rfl
  have c1 : W0.cell? ⟨w.heap.size, 1, none⟩ = some (.int .i64 af) := XA.cell rfl
  have c2 : W0.cell? ⟨w.heap.size, 2, none⟩ = some (.int .i64 av) := XA.cell rfl
  have c3 : W0.cell? ⟨w.heap.size, 3, none⟩ = some (.int .i64 aq) := XA.cell rfl
  have c4 : W0.cell? ⟨w.heap.size, 4, none⟩ = some (.string ad) := XA.cell rfl
  have c5 : W0.cell? ⟨w.heap.size, 5, none⟩ = some (.string at') := XA.cell rfl
  go_enter Try.func21, Try.ntmps21
  go_wp2_with fail
  refine (around_calls ak 6 _ (by decide) (by decide)).mono ?_
  rintro e wa ⟨rfl, hwa⟩
  obtain rfl := hwa.symm
  rw [hak]
  go_wp2_with fail
  refine wp_region_held_drew (S := (fun wx => wx.cell? ⟨w.heap.size, 0, none⟩ = some (.int .i64 ak) ∧ wx.cell? ⟨w.heap.size, 1, none⟩ = some (.int .i64 af) ∧ wx.cell? ⟨w.heap.size, 2, none⟩ = some (.int .i64 av) ∧ wx.cell? ⟨w.heap.size, 3, none⟩ = some (.int .i64 aq) ∧ wx.cell? ⟨w.heap.size, 4, none⟩ = some (.string ad) ∧ wx.cell? ⟨w.heap.size, 5, none⟩ = some (.string at'))) (by kernel_rfl) ⟨XA.drew.cell rfl, XA.drew.cell rfl, XA.drew.cell rfl, XA.drew.cell rfl, XA.drew.cell rfl, XA.drew.cell rfl⟩ (fun hS => ?_)
  refine wpAnyH_take (i := 0) (v := (.pointer none)) rfl (by kernel_rfl) (by kernel_rfl) (by kernel_rfl) (fun _ _ _ h => h) (Or.inl ⟨by kernel_rfl, fun w hS => by obtain ⟨s0, s1, s2, s3, s4, s5⟩ := hS; go_simp⟩) hS ?_
  refine wpAnyH_take (i := 1) (v := (.agg #[.int .i64 ak, .int .i64 af, .int .i64 av, .int .i64 aq, .string ad, .string at'])) rfl (by kernel_rfl) (by kernel_rfl) (by kernel_rfl) (fun _ _ _ h => h) (Or.inl ⟨by kernel_rfl, fun w hS => by obtain ⟨s0, s1, s2, s3, s4, s5⟩ := hS; go_simp⟩) hS ?_
  refine wpAnyH_take (i := 3) (v := (.agg #[.int .i64 ak, .int .i64 af, .int .i64 av, .int .i64 aq, .string ad, .string at'])) rfl (by kernel_rfl) (by kernel_rfl) (by kernel_rfl) (fun _ _ _ h => h) (Or.inl ⟨by kernel_rfl, fun w hS => by obtain ⟨s0, s1, s2, s3, s4, s5⟩ := hS; go_simp⟩) hS ?_
  refine wpAnyH_ready (rs := [2]) (by kernel_rfl) (by simp) ?_
  refine AllReadyH.cons rfl (fun K hK => ?_) AllReadyH.nil
  go_simp
  refine (message_calls ak af av aq ad at' _).mono ?_
  rintro e w2 ⟨rfl, hb2⟩
  have b2 : Below W0.heap.size W0 w2 := (Below.refl _ _).drew.trans hb2
  have X2 := XA.below b2
  refine hK.out _ _ ⟨X2.cell rfl, X2.cell rfl, X2.cell rfl, X2.cell rfl, X2.cell rfl, X2.cell rfl⟩ (fun hS => ?_)
  clear hK hb2
  refine wpAnyH_ready (rs := [4]) (by kernel_rfl) (by simp) ?_
  refine AllReadyH.cons rfl (fun K hK => ?_) AllReadyH.nil
  go_simp
  refine (body2_calls ak af av aq ad at' _ hak).mono ?_
  rintro e w3 ⟨rfl, hb3⟩
  have b3 : Below W0.heap.size W0 w3 := b2.trans (hb3.mono b2.size)
  have X3 := XA.below b3
  refine hK.out _ _ ⟨X3.cell rfl, X3.cell rfl, X3.cell rfl, X3.cell rfl, X3.cell rfl, X3.cell rfl⟩ (fun hS => ?_)
  clear hK hb3
  refine wpAnyH_ready (rs := [5]) (by kernel_rfl) (by simp) ?_
  refine AllReadyH.cons rfl (fun K hK => ?_) AllReadyH.nil
  go_simp
  refine (vote_nil _ af at' ⟨#[115]⟩ 3 av aq ad).mono ?_
  rintro e w4 ⟨rfl, hb4⟩
  have b4 : Below W0.heap.size W0 w4 := b3.trans (hb4.mono b3.size)
  have X4 := XA.below b4
  refine hK.out _ _ ⟨X4.cell rfl, X4.cell rfl, X4.cell rfl, X4.cell rfl, X4.cell rfl, X4.cell rfl⟩ (fun hS => ?_)
  clear hK hb4
  refine wpAnyH_take (i := 6) (v := (.int .i64 1)) rfl (by kernel_rfl) (by kernel_rfl) (by kernel_rfl) (fun _ _ _ h => h) (Or.inl ⟨by kernel_rfl, fun w hS => by obtain ⟨s0, s1, s2, s3, s4, s5⟩ := hS; go_simp⟩) hS ?_
  refine wpAnyH_done (by kernel_rfl) ?_ _
  clear hS X4
  go_simp
  go_wp2
  go_ret
  exact ⟨rfl, B0.trans (b4.mono B0.size)⟩
set_option maxHeartbeats 4000000 in
set_option maxRecDepth 100000 in
theorem done_nil3 (w : World) (ak af av aq : Int) (ad at' : ByteArray) (hak : arn ak 6 = 3) : Calls Try.prog 21 #[.pointer none, .agg #[.int .i64 ak, .int .i64 af, .int .i64 av, .int .i64 aq, .string ad, .string at']] w fun e w' => e = .returned (.int .i64 1) ∧ Below w.heap.size w w' := by
  obtain ⟨W0, hW0, XA, B0, Z0⟩ : ∃ W0, (w.alloc (.cells #[.int .i64 ak, .int .i64 af, .int .i64 av, .int .i64 aq, .string ad, .string at'] 48)) = W0 ∧ Blk W0 w.heap.size #[.int .i64 ak, .int .i64 af, .int .i64 av, .int .i64 aq, .string ad, .string at'] 48 ∧ Below w.heap.size w W0 ∧ W0.heap.size = w.heap.size + 1 :=
    ⟨_, rfl, blk_new _ _ _ _ rfl, by go_grown, by simp⟩
  have HZ0 : Hid _ := Z0
  have hza : w.heap.size < W0.heap.size := by omega
  clear Z0
  have c0 : W0.cell? ⟨w.heap.size, 0, none⟩ = some (.int .i64 ak) := XA.cell rfl
  have c1 : W0.cell? ⟨w.heap.size, 1, none⟩ = some (.int .i64 af) := XA.cell rfl
  have c2 : W0.cell? ⟨w.heap.size, 2, none⟩ = some (.int .i64 av) := XA.cell rfl
  have c3 : W0.cell? ⟨w.heap.size, 3, none⟩ = some (.int .i64 aq) := XA.cell rfl
  have c4 : W0.cell? ⟨w.heap.size, 4, none⟩ = some (.string ad) := XA.cell rfl
  have c5 : W0.cell? ⟨w.heap.size, 5, none⟩ = some (.string at') := XA.cell rfl
  go_enter Try.func21, Try.ntmps21
  go_wp2_with fail
  refine (around_calls ak 6 _ (by decide) (by decide)).mono ?_
  rintro e wa ⟨rfl, hwa⟩
  obtain rfl := hwa.symm
  rw [hak]
  go_wp2_with fail
  refine wp_region_held_drew (S := (fun wx => wx.cell? ⟨w.heap.size, 0, none⟩ = some (.int .i64 ak) ∧ wx.cell? ⟨w.heap.size, 1, none⟩ = some (.int .i64 af) ∧ wx.cell? ⟨w.heap.size, 2, none⟩ = some (.int .i64 av) ∧ wx.cell? ⟨w.heap.size, 3, none⟩ = some (.int .i64 aq) ∧ wx.cell? ⟨w.heap.size, 4, none⟩ = some (.string ad) ∧ wx.cell? ⟨w.heap.size, 5, none⟩ = some (.string at'))) (by kernel_rfl) ⟨XA.drew.cell rfl, XA.drew.cell rfl, XA.drew.cell rfl, XA.drew.cell rfl, XA.drew.cell rfl, XA.drew.cell rfl⟩ (fun hS => ?_)
  refine wpAnyH_take (i := 0) (v := (.pointer none)) rfl (by kernel_rfl) (by kernel_rfl) (by kernel_rfl) (fun _ _ _ h => h) (Or.inl ⟨by kernel_rfl, fun w hS => by obtain ⟨s0, s1, s2, s3, s4, s5⟩ := hS; go_simp⟩) hS ?_
  refine wpAnyH_take (i := 1) (v := (.agg #[.int .i64 ak, .int .i64 af, .int .i64 av, .int .i64 aq, .string ad, .string at'])) rfl (by kernel_rfl) (by kernel_rfl) (by kernel_rfl) (fun _ _ _ h => h) (Or.inl ⟨by kernel_rfl, fun w hS => by obtain ⟨s0, s1, s2, s3, s4, s5⟩ := hS; go_simp⟩) hS ?_
  refine wpAnyH_take (i := 3) (v := (.agg #[.int .i64 ak, .int .i64 af, .int .i64 av, .int .i64 aq, .string ad, .string at'])) rfl (by kernel_rfl) (by kernel_rfl) (by kernel_rfl) (fun _ _ _ h => h) (Or.inl ⟨by kernel_rfl, fun w hS => by obtain ⟨s0, s1, s2, s3, s4, s5⟩ := hS; go_simp⟩) hS ?_
  refine wpAnyH_ready (rs := [2]) (by kernel_rfl) (by simp) ?_
  refine AllReadyH.cons rfl (fun K hK => ?_) AllReadyH.nil
  go_simp
  refine (message_calls ak af av aq ad at' _).mono ?_
  rintro e w2 ⟨rfl, hb2⟩
  have b2 : Below W0.heap.size W0 w2 := (Below.refl _ _).drew.trans hb2
  have X2 := XA.below b2
  refine hK.out _ _ ⟨X2.cell rfl, X2.cell rfl, X2.cell rfl, X2.cell rfl, X2.cell rfl, X2.cell rfl⟩ (fun hS => ?_)
  clear hK hb2
  refine wpAnyH_ready (rs := [4]) (by kernel_rfl) (by simp) ?_
  refine AllReadyH.cons rfl (fun K hK => ?_) AllReadyH.nil
  go_simp
  refine (body3_calls ak af av aq ad at' _ hak).mono ?_
  rintro e w3 ⟨rfl, hb3⟩
  have b3 : Below W0.heap.size W0 w3 := b2.trans (hb3.mono b2.size)
  have X3 := XA.below b3
  refine hK.out _ _ ⟨X3.cell rfl, X3.cell rfl, X3.cell rfl, X3.cell rfl, X3.cell rfl, X3.cell rfl⟩ (fun hS => ?_)
  clear hK hb3
  refine wpAnyH_ready (rs := [5]) (by kernel_rfl) (by simp) ?_
  refine AllReadyH.cons rfl (fun K hK => ?_) AllReadyH.nil
  go_simp
  refine (vote_nil _ af at' ⟨#[115]⟩ 4 av aq ad).mono ?_
  rintro e w4 ⟨rfl, hb4⟩
  have b4 : Below W0.heap.size W0 w4 := b3.trans (hb4.mono b3.size)
  have X4 := XA.below b4
  refine hK.out _ _ ⟨X4.cell rfl, X4.cell rfl, X4.cell rfl, X4.cell rfl, X4.cell rfl, X4.cell rfl⟩ (fun hS => ?_)
  clear hK hb4
  refine wpAnyH_take (i := 6) (v := (.int .i64 1)) rfl (by kernel_rfl) (by kernel_rfl) (by kernel_rfl) (fun _ _ _ h => h) (Or.inl ⟨by kernel_rfl, fun w hS => by obtain ⟨s0, s1, s2, s3, s4, s5⟩ := hS; go_simp⟩) hS ?_
  refine wpAnyH_done (by kernel_rfl) ?_ _
  clear hS X4
  go_simp
  go_wp2
  go_ret
  exact ⟨rfl, B0.trans (b4.mono B0.size)⟩
set_option maxHeartbeats 4000000 in
set_option maxRecDepth 100000 in
theorem done_nil4 (w : World) (ak af av aq : Int) (ad at' : ByteArray) (hak : arn ak 6 = 4) : Calls Try.prog 21 #[.pointer none, .agg #[.int .i64 ak, .int .i64 af, .int .i64 av, .int .i64 aq, .string ad, .string at']] w fun e w' => e = .returned (.int .i64 1) ∧ Below w.heap.size w w' := by
  obtain ⟨W0, hW0, XA, B0, Z0⟩ : ∃ W0, (w.alloc (.cells #[.int .i64 ak, .int .i64 af, .int .i64 av, .int .i64 aq, .string ad, .string at'] 48)) = W0 ∧ Blk W0 w.heap.size #[.int .i64 ak, .int .i64 af, .int .i64 av, .int .i64 aq, .string ad, .string at'] 48 ∧ Below w.heap.size w W0 ∧ W0.heap.size = w.heap.size + 1 :=
    ⟨_, rfl, blk_new _ _ _ _ rfl, by go_grown, by simp⟩
  have HZ0 : Hid _ := Z0
  have hza : w.heap.size < W0.heap.size := by omega
  clear Z0
  have c0 : W0.cell? ⟨w.heap.size, 0, none⟩ = some (.int .i64 ak) := XA.cell rfl
  have c1 : W0.cell? ⟨w.heap.size, 1, none⟩ = some (.int .i64 af) := XA.cell rfl
  have c2 : W0.cell? ⟨w.heap.size, 2, none⟩ = some (.int .i64 av) := XA.cell rfl
  have c3 : W0.cell? ⟨w.heap.size, 3, none⟩ = some (.int .i64 aq) := XA.cell rfl
  have c4 : W0.cell? ⟨w.heap.size, 4, none⟩ = some (.string ad) := XA.cell rfl
  have c5 : W0.cell? ⟨w.heap.size, 5, none⟩ = some (.string at') := XA.cell rfl
  go_enter Try.func21, Try.ntmps21
  go_wp2_with fail
  refine (around_calls ak 6 _ (by decide) (by decide)).mono ?_
  rintro e wa ⟨rfl, hwa⟩
  obtain rfl := hwa.symm
  rw [hak]
  go_wp2_with fail
  refine wp_region_held_drew (S := (fun wx => wx.cell? ⟨w.heap.size, 0, none⟩ = some (.int .i64 ak) ∧ wx.cell? ⟨w.heap.size, 1, none⟩ = some (.int .i64 af) ∧ wx.cell? ⟨w.heap.size, 2, none⟩ = some (.int .i64 av) ∧ wx.cell? ⟨w.heap.size, 3, none⟩ = some (.int .i64 aq) ∧ wx.cell? ⟨w.heap.size, 4, none⟩ = some (.string ad) ∧ wx.cell? ⟨w.heap.size, 5, none⟩ = some (.string at'))) (by kernel_rfl) ⟨XA.drew.cell rfl, XA.drew.cell rfl, XA.drew.cell rfl, XA.drew.cell rfl, XA.drew.cell rfl, XA.drew.cell rfl⟩ (fun hS => ?_)
  refine wpAnyH_take (i := 0) (v := (.pointer none)) rfl (by kernel_rfl) (by kernel_rfl) (by kernel_rfl) (fun _ _ _ h => h) (Or.inl ⟨by kernel_rfl, fun w hS => by obtain ⟨s0, s1, s2, s3, s4, s5⟩ := hS; go_simp⟩) hS ?_
  refine wpAnyH_take (i := 1) (v := (.agg #[.int .i64 ak, .int .i64 af, .int .i64 av, .int .i64 aq, .string ad, .string at'])) rfl (by kernel_rfl) (by kernel_rfl) (by kernel_rfl) (fun _ _ _ h => h) (Or.inl ⟨by kernel_rfl, fun w hS => by obtain ⟨s0, s1, s2, s3, s4, s5⟩ := hS; go_simp⟩) hS ?_
  refine wpAnyH_take (i := 3) (v := (.agg #[.int .i64 ak, .int .i64 af, .int .i64 av, .int .i64 aq, .string ad, .string at'])) rfl (by kernel_rfl) (by kernel_rfl) (by kernel_rfl) (fun _ _ _ h => h) (Or.inl ⟨by kernel_rfl, fun w hS => by obtain ⟨s0, s1, s2, s3, s4, s5⟩ := hS; go_simp⟩) hS ?_
  refine wpAnyH_ready (rs := [2]) (by kernel_rfl) (by simp) ?_
  refine AllReadyH.cons rfl (fun K hK => ?_) AllReadyH.nil
  go_simp
  refine (message_calls ak af av aq ad at' _).mono ?_
  rintro e w2 ⟨rfl, hb2⟩
  have b2 : Below W0.heap.size W0 w2 := (Below.refl _ _).drew.trans hb2
  have X2 := XA.below b2
  refine hK.out _ _ ⟨X2.cell rfl, X2.cell rfl, X2.cell rfl, X2.cell rfl, X2.cell rfl, X2.cell rfl⟩ (fun hS => ?_)
  clear hK hb2
  refine wpAnyH_ready (rs := [4]) (by kernel_rfl) (by simp) ?_
  refine AllReadyH.cons rfl (fun K hK => ?_) AllReadyH.nil
  go_simp
  refine (body4_calls ak af av aq ad at' _ hak).mono ?_
  rintro e w3 ⟨rfl, hb3⟩
  have b3 : Below W0.heap.size W0 w3 := b2.trans (hb3.mono b2.size)
  have X3 := XA.below b3
  refine hK.out _ _ ⟨X3.cell rfl, X3.cell rfl, X3.cell rfl, X3.cell rfl, X3.cell rfl, X3.cell rfl⟩ (fun hS => ?_)
  clear hK hb3
  refine wpAnyH_ready (rs := [5]) (by kernel_rfl) (by simp) ?_
  refine AllReadyH.cons rfl (fun K hK => ?_) AllReadyH.nil
  go_simp
  refine (check_nil _ af at' ⟨#[115]⟩ 5 0 aq ad).mono ?_
  rintro e w4 ⟨rfl, hb4⟩
  have b4 : Below W0.heap.size W0 w4 := b3.trans (hb4.mono b3.size)
  have X4 := XA.below b4
  refine hK.out _ _ ⟨X4.cell rfl, X4.cell rfl, X4.cell rfl, X4.cell rfl, X4.cell rfl, X4.cell rfl⟩ (fun hS => ?_)
  clear hK hb4
  refine wpAnyH_take (i := 6) (v := (.int .i64 1)) rfl (by kernel_rfl) (by kernel_rfl) (by kernel_rfl) (fun _ _ _ h => h) (Or.inl ⟨by kernel_rfl, fun w hS => by obtain ⟨s0, s1, s2, s3, s4, s5⟩ := hS; go_simp⟩) hS ?_
  refine wpAnyH_done (by kernel_rfl) ?_ _
  clear hS X4
  go_simp
  go_wp2
  go_ret
  exact ⟨rfl, B0.trans (b4.mono B0.size)⟩
theorem done_nil (w : World) (ak af av aq : Int) (ad at' : ByteArray) : Calls Try.prog 21 #[.pointer none, .agg #[.int .i64 ak, .int .i64 af, .int .i64 av, .int .i64 aq, .string ad, .string at']] w fun e w' => e = .returned (.int .i64 1) ∧ Below w.heap.size w w' := by
  obtain ⟨h1, h2⟩ := arn_ok ak 6 (by decide)
  obtain h | h | h | h | h | h : arn ak 6 = 0 ∨ arn ak 6 = 1 ∨ arn ak 6 = 2 ∨ arn ak 6 = 3 ∨ arn ak 6 = 4 ∨ arn ak 6 = 5 := by omega
  · exact done_nil0 w ak af av aq ad at' h
  · exact done_nil1 w ak af av aq ad at' h
  · exact done_nil2 w ak af av aq ad at' h
  · exact done_nil3 w ak af av aq ad at' h
  · exact done_nil4 w ak af av aq ad at' h
  · exact done_nil5 w ak af av aq ad at' h
end Go.Proofs.Ytjpmnmgnbpecjaa
