/- Receive: what a client makes of bytes. -/
import Derived.Test.YtocphdikppeijaaGreatLy47
namespace Go.Proofs.YtocphdikppeijaaGreat
open Go.RowKit
open Go.ChangeMaps (setBlock)
set_option linter.unusedSimpArgs false
set_option linter.unusedVariables false

variable {p b x y : Nat} {T : List ByteArray} {S : List (Int × ByteArray)} {q tm tc : Nat} {av : Value} {C : Cs} {w0 : World}
theorem openR_no {m : Sg} {er : Int} (h : openR S m = .error er) : er ≠ 0 := by
  unfold openR at h
  split at h
  · exact ofR_err h
  · cases h; decide
theorem heard_opnd (C : Cs) (S : List (Int × ByteArray)) (s : ByteArray) : heard C S s = if (opnd S s).2.2 = 0 ∧ (opnd S s).1 < 3 * C.cf + 1 ∧ C.awaits (opnd S s).2.1 = true ∧ rgot C.told (opnd S s).1 = false then some ((opnd S s).1, (opnd S s).2.1.text) else none := by
  unfold heard opnd
  cases h1 : ofSgR s with
  | error er =>
    have := ofSgR_err h1
    simp only []
    rw [if_neg (fun h => this h.1)]
  | ok m =>
    simp only []
    cases h2 : openR S m with
    | error er =>
      have := openR_no h2
      simp only []
      rw [if_neg (fun h => this h.1)]
    | ok d =>
      simp only [Cs.awaits, decide_eq_true_eq, true_and]
theorem hear_yes (C : Cs) (z : Int × ByteArray) (h : C.cf < (alk (C.told ++ [z]) z.2 : Int)) : C.hear (some z) = { C with told := [], asked := ⟨#[]⟩, ans := C.ans ++ [(C.stamp, z.2)] } := by
  unfold Cs.hear
  simp only [if_pos h]
theorem hear_no (C : Cs) (z : Int × ByteArray) (h : ¬ C.cf < (alk (C.told ++ [z]) z.2 : Int)) : C.hear (some z) = { C with told := C.told ++ [z] } := by
  unfold Cs.hear
  simp only [if_neg h]
/-- The map behind one more reply. -/
theorem St.tell {w : World} (h : St w0 w p b x y T S q tm tc av C) (k : Int) (v : ByteArray) (hn : rgot C.told k = false) : ∃ W, setBlock w tm (.map (entR (C.told ++ [(k, v)]) tc).toArray (tc + (C.told ++ [(k, v)]).length)) = W ∧ St w0 W p b x y T S q tm tc av { C with told := C.told ++ [(k, v)] } ∧ (∀ v1 w1, Kpt v1 w1 w → Kpt v1 w1 W) ∧ ∀ (j : Nat) (cs : Array Value) (t : TypeId), Blk w j cs t → Blk W j cs t := by
  have hq := h.low
  have G : ∀ j, tm ≠ j → (setBlock w tm (.map (entR (C.told ++ [(k, v)]) tc).toArray (tc + (C.told ++ [(k, v)]).length))).heap[j]? = w.heap[j]? := fun j hj => setB_other _ hj
  have nb : ∀ (j : Nat) (cs : Array Value) (t : TypeId), Blk w j cs t → tm ≠ j := fun j cs t X => h.map.blk X
  refine ⟨_, rfl, ⟨⟨h.below.os, h.below.tape, h.below.output, by rw [setB_size]; exact h.below.size, fun j hj => (G j (by omega)).trans (h.below.block j hj)⟩, ⟨(G p (nb _ _ _ h.book.blk)).trans h.book.blk, (G b (nb _ _ _ h.book.nums.blk)).trans h.book.nums.blk, (G x h.nx).trans h.book.nums.mx, (G y h.ny).trans h.book.nums.my, h.book.nums.ne⟩, (G q (nb _ _ _ h.blk)).trans h.blk, setB_same _ h.map.lt, ?_, h.low, h.nx, h.ny⟩, fun v1 w1 hk => ⟨by rw [setB_size]; exact hk.size, fun j cs t h1 h2 X => (G j (nb _ _ _ (hk.blk j cs t h1 h2 X))).trans (hk.blk j cs t h1 h2 X)⟩, fun j cs t X => (G j (nb j cs t X)).trans X⟩
  refine ⟨h.row.1, ?_⟩
  rcases h.row.2 with hn | ⟨g, cap, cur, rfl, hb, hgg, rest⟩
  · exact Or.inl hn
  · refine Or.inr ⟨g, cap, cur, rfl, hb, ?_, rest⟩
    rw [G g (fun e => by have X := h.map; unfold RMap at X; rw [e, hgg] at X; cases X)]
    exact hgg

theorem receive_idle (s : ByteArray) (w : World) (h : St w0 w p b x y T S q tm tc av C) (hw : C.waits = false) : Calls Tryz.prog 23 #[.pointer (some ⟨q, 0, none⟩), .string s] w fun e w' => e = .returned (.bool false) ∧ w' = w := by
  have HWa : Hid _ := waits_calls w h
  rw [hw] at HWa
  go_enter Tryz.func23, Tryz.ntmps23
  go_wp2_with fail
  refine Calls.mono HWa.out ?_
  rintro e w2 ⟨rfl, rfl⟩
  go_wp2
  go_ret
  exact ⟨rfl, rfl⟩
set_option maxHeartbeats 4000000 in
set_option maxRecDepth 100000 in
theorem receive_waits (s : ByteArray) (w : World) (h : St w0 w p b x y T S q tm tc av C) (hS : S.length < 1000000) (hs : s.size ≤ maxLen) (hcf : 0 ≤ C.cf ∧ C.cf ≤ 1000) (hl : C.told.length ≤ 50) (ha : C.ans.length < 100000) (hw : C.waits = true) : Calls Tryz.prog 23 #[.pointer (some ⟨q, 0, none⟩), .string s] w fun e w' => e = .returned (.bool (heard C S s).isSome) ∧ ∃ tc' av', St w0 w' p b x y T S q tm tc' av' (C.hear (heard C S s)) ∧ Kpt av w w' ∧ Frs av av' w := by
  have HWa : Hid _ := waits_calls w h
  rw [hw] at HWa
  have c5 : w.cell? ⟨q, 5, none⟩ = some (.pointer (some ⟨p, 0, none⟩)) := h.blk.cell rfl
  have HOp : Hid _ := opened_calls s w h.book hS hs
  have HSz : Hid _ := fun wx => size_calls C.cf C.cc C.cg C.cp wx hcf.1 hcf.2
  have HH := heard_opnd C S s
  obtain ⟨f, D, E, hO⟩ : ∃ f D E, opnd S s = (f, D, E) := ⟨_, _, _, rfl⟩
  rw [hO] at HH HOp
  simp only [] at HH HOp
  have HN : Hid (¬ (E = 0 ∧ f < 3 * C.cf + 1 ∧ C.awaits D = true ∧ rgot C.told f = false) → heard C S s = none) := fun hn => by rw [HH, if_neg hn]
  have HYs : Hid ((E = 0 ∧ f < 3 * C.cf + 1 ∧ C.awaits D = true ∧ rgot C.told f = false) → heard C S s = some (f, D.text)) := fun hn => by rw [HH, if_pos hn]
  clear HH hO
  unfold Bd.val at HOp
  -- HEAD OF receive
  by_cases hE : E = 0
  rotate_left
  · have hd : (E != 0) = true := by simpa using hE
    go_enter Tryz.func23, Tryz.ntmps23
    go_wp2_with fail
    refine Calls.mono HWa.out ?_
    rintro e w ⟨rfl, rfl⟩
    go_wp2_with fail
    refine Calls.mono HOp.out ?_
    rintro e w2 ⟨a0, n0, k0, rfl, -, b2⟩
    obtain ⟨W3, hW3, X3, B3⟩ : ∃ W3, w2.alloc (.cells #[.int .i64 D.kind, .int .i64 D.view, .int .i64 D.seq, .int .i64 D.client, .int .i64 D.stamp, .string D.digest, .string D.text, .slice a0 n0 k0] 54) = W3 ∧ Blk W3 w2.heap.size (D.cells (.slice a0 n0 k0)) 54 ∧ Below w2.heap.size w2 W3 := ⟨_, rfl, blk_new _ _ _ _ rfl, by go_grown⟩
    have H2 := h.keep b2
    have H3 := H2.keep B3
    have BB := chainC b2 B3
    go_wp2
    go_ret
    exact ⟨by rw [HN.out (fun h => hE h.1)]; rfl, tc, av, by rw [HN.out (fun h => hE h.1)]; exact H3, Kpt.of_below BB, Or.inl rfl⟩
  subst hE
  by_cases hF : f < 3 * C.cf + 1
  rotate_left
  · have hd : decide (3 * C.cf + 1 ≤ f) = true := decide_eq_true (by omega)
    go_enter Tryz.func23, Tryz.ntmps23
    go_wp2_with fail
    refine Calls.mono HWa.out ?_
    rintro e w ⟨rfl, rfl⟩
    go_wp2_with fail
    refine Calls.mono HOp.out ?_
    rintro e w2 ⟨a0, n0, k0, rfl, -, b2⟩
    obtain ⟨W3, hW3, X3, B3⟩ : ∃ W3, w2.alloc (.cells #[.int .i64 D.kind, .int .i64 D.view, .int .i64 D.seq, .int .i64 D.client, .int .i64 D.stamp, .string D.digest, .string D.text, .slice a0 n0 k0] 54) = W3 ∧ Blk W3 w2.heap.size (D.cells (.slice a0 n0 k0)) 54 ∧ Below w2.heap.size w2 W3 := ⟨_, rfl, blk_new _ _ _ _ rfl, by go_grown⟩
    have H2 := h.keep b2
    have H3 := H2.keep B3
    have BB := chainC b2 B3
    have g0 : W3.cell? ⟨q, 0, none⟩ = some (.int .i64 C.cf) := H3.blk.cell rfl
    have g1 : W3.cell? ⟨q, 1, none⟩ = some (.int .i64 C.cc) := H3.blk.cell rfl
    have g2 : W3.cell? ⟨q, 2, none⟩ = some (.int .i64 C.cg) := H3.blk.cell rfl
    have g3 : W3.cell? ⟨q, 3, none⟩ = some (.int .i64 C.cp) := H3.blk.cell rfl
    go_wp2_with fail
    refine Calls.mono (HSz.out _) ?_
    rintro e w4 ⟨rfl, b4⟩
    have H4 := H3.keep b4
    have X4 := X3.below b4
    have BB4 := chainC BB b4
    go_wp2
    go_ret
    exact ⟨by rw [HN.out (fun h => by have := h.2.1; omega)]; rfl, tc, av, by rw [HN.out (fun h => by have := h.2.1; omega)]; exact H4, Kpt.of_below BB4, Or.inl rfl⟩
  have hFd : decide (3 * C.cf + 1 ≤ f) = false := decide_eq_false (by omega)
  have HFl : Hid _ := hF
  clear hF
  cases hA : C.awaits D
  · go_enter Tryz.func23, Tryz.ntmps23
    go_wp2_with fail
    refine Calls.mono HWa.out ?_
    rintro e w ⟨rfl, rfl⟩
    go_wp2_with fail
    refine Calls.mono HOp.out ?_
    rintro e w2 ⟨a0, n0, k0, rfl, -, b2⟩
    obtain ⟨W3, hW3, X3, B3⟩ : ∃ W3, w2.alloc (.cells #[.int .i64 D.kind, .int .i64 D.view, .int .i64 D.seq, .int .i64 D.client, .int .i64 D.stamp, .string D.digest, .string D.text, .slice a0 n0 k0] 54) = W3 ∧ Blk W3 w2.heap.size (D.cells (.slice a0 n0 k0)) 54 ∧ Below w2.heap.size w2 W3 := ⟨_, rfl, blk_new _ _ _ _ rfl, by go_grown⟩
    have H2 := h.keep b2
    have H3 := H2.keep B3
    have BB := chainC b2 B3
    have g0 : W3.cell? ⟨q, 0, none⟩ = some (.int .i64 C.cf) := H3.blk.cell rfl
    have g1 : W3.cell? ⟨q, 1, none⟩ = some (.int .i64 C.cc) := H3.blk.cell rfl
    have g2 : W3.cell? ⟨q, 2, none⟩ = some (.int .i64 C.cg) := H3.blk.cell rfl
    have g3 : W3.cell? ⟨q, 3, none⟩ = some (.int .i64 C.cp) := H3.blk.cell rfl
    go_wp2_with fail
    refine Calls.mono (HSz.out _) ?_
    rintro e w4 ⟨rfl, b4⟩
    have H4 := H3.keep b4
    have X4 := X3.below b4
    have BB4 := chainC BB b4
    have HAw : Hid _ := awaits_calls D (.slice a0 n0 k0) w4 H4 ⟨_, _, _, rfl⟩
    rw [hA] at HAw
    unfold Bd.val at HAw
    have y0 : w4.cell? ⟨w2.heap.size, 0, none⟩ = some (.int .i64 D.kind) := X4.cell rfl
    have y1 : w4.cell? ⟨w2.heap.size, 1, none⟩ = some (.int .i64 D.view) := X4.cell rfl
    have y2 : w4.cell? ⟨w2.heap.size, 2, none⟩ = some (.int .i64 D.seq) := X4.cell rfl
    have y3 : w4.cell? ⟨w2.heap.size, 3, none⟩ = some (.int .i64 D.client) := X4.cell rfl
    have y4 : w4.cell? ⟨w2.heap.size, 4, none⟩ = some (.int .i64 D.stamp) := X4.cell rfl
    have y5 : w4.cell? ⟨w2.heap.size, 5, none⟩ = some (.string D.digest) := X4.cell rfl
    have y6 : w4.cell? ⟨w2.heap.size, 6, none⟩ = some (.string D.text) := X4.cell rfl
    have y7 : w4.cell? ⟨w2.heap.size, 7, none⟩ = some (.slice a0 n0 k0) := X4.cell rfl
    go_wp2_with fail
    refine Calls.mono HAw.out ?_
    rintro e w5 ⟨rfl, b5⟩
    have H5 := H4.keep b5
    have X5 := X4.below b5
    have BB5 := chainC BB4 b5
    go_wp2
    go_ret
    exact ⟨by rw [HN.out (fun h => by rw [hA] at h; exact absurd h.2.2.1 (by decide))]; rfl, tc, av, by rw [HN.out (fun h => by rw [hA] at h; exact absurd h.2.2.1 (by decide))]; exact H5, Kpt.of_below BB5, Or.inl rfl⟩
  cases hG : rgot C.told f
  rotate_left
  · go_enter Tryz.func23, Tryz.ntmps23
    go_wp2_with fail
    refine Calls.mono HWa.out ?_
    rintro e w ⟨rfl, rfl⟩
    go_wp2_with fail
    refine Calls.mono HOp.out ?_
    rintro e w2 ⟨a0, n0, k0, rfl, -, b2⟩
    obtain ⟨W3, hW3, X3, B3⟩ : ∃ W3, w2.alloc (.cells #[.int .i64 D.kind, .int .i64 D.view, .int .i64 D.seq, .int .i64 D.client, .int .i64 D.stamp, .string D.digest, .string D.text, .slice a0 n0 k0] 54) = W3 ∧ Blk W3 w2.heap.size (D.cells (.slice a0 n0 k0)) 54 ∧ Below w2.heap.size w2 W3 := ⟨_, rfl, blk_new _ _ _ _ rfl, by go_grown⟩
    have H2 := h.keep b2
    have H3 := H2.keep B3
    have BB := chainC b2 B3
    have g0 : W3.cell? ⟨q, 0, none⟩ = some (.int .i64 C.cf) := H3.blk.cell rfl
    have g1 : W3.cell? ⟨q, 1, none⟩ = some (.int .i64 C.cc) := H3.blk.cell rfl
    have g2 : W3.cell? ⟨q, 2, none⟩ = some (.int .i64 C.cg) := H3.blk.cell rfl
    have g3 : W3.cell? ⟨q, 3, none⟩ = some (.int .i64 C.cp) := H3.blk.cell rfl
    go_wp2_with fail
    refine Calls.mono (HSz.out _) ?_
    rintro e w4 ⟨rfl, b4⟩
    have H4 := H3.keep b4
    have X4 := X3.below b4
    have BB4 := chainC BB b4
    have HAw : Hid _ := awaits_calls D (.slice a0 n0 k0) w4 H4 ⟨_, _, _, rfl⟩
    rw [hA] at HAw
    unfold Bd.val at HAw
    have y0 : w4.cell? ⟨w2.heap.size, 0, none⟩ = some (.int .i64 D.kind) := X4.cell rfl
    have y1 : w4.cell? ⟨w2.heap.size, 1, none⟩ = some (.int .i64 D.view) := X4.cell rfl
    have y2 : w4.cell? ⟨w2.heap.size, 2, none⟩ = some (.int .i64 D.seq) := X4.cell rfl
    have y3 : w4.cell? ⟨w2.heap.size, 3, none⟩ = some (.int .i64 D.client) := X4.cell rfl
    have y4 : w4.cell? ⟨w2.heap.size, 4, none⟩ = some (.int .i64 D.stamp) := X4.cell rfl
    have y5 : w4.cell? ⟨w2.heap.size, 5, none⟩ = some (.string D.digest) := X4.cell rfl
    have y6 : w4.cell? ⟨w2.heap.size, 6, none⟩ = some (.string D.text) := X4.cell rfl
    have y7 : w4.cell? ⟨w2.heap.size, 7, none⟩ = some (.slice a0 n0 k0) := X4.cell rfl
    go_wp2_with fail
    refine Calls.mono HAw.out ?_
    rintro e w5 ⟨rfl, b5⟩
    have H5 := H4.keep b5
    have X5 := X4.below b5
    have BB5 := chainC BB4 b5
    have m5 : w5.cell? ⟨q, 9, none⟩ = some (.map (some tm)) := H5.blk.cell rfl
    obtain ⟨lt, hlk⟩ := run_told (P := Tryz.prog) (E := 126) Tryz.underlying120 Tryz.underlying3 (fun w => by kernel_rfl) H5.map f
    rw [hG] at hlk
    obtain ⟨W6, hW6, B6⟩ : ∃ W6, w5.alloc (.cells #[.string lt] 126) = W6 ∧ Below w5.heap.size w5 W6 := ⟨_, rfl, by go_grown⟩
    have H6 := H5.keep B6
    have X6 := X5.below B6
    have BB6 := chainC BB5 B6
    go_wp2
    go_ret
    exact ⟨by rw [HN.out (fun h => by rw [hG] at h; exact absurd h.2.2.2 (by decide))]; rfl, tc, av, by rw [HN.out (fun h => by rw [hG] at h; exact absurd h.2.2.2 (by decide))]; exact H6, Kpt.of_below BB6, Or.inl rfl⟩
  have HY : Hid (heard C S s = some (f, D.text)) := HYs.out ⟨rfl, HFl.out, hA, hG⟩
  by_cases hgt : C.cf < (alk (C.told ++ [(f, D.text)]) D.text : Int)
  · have hgd : decide (C.cf < (alk (C.told ++ [(f, D.text)]) D.text : Int)) = true := decide_eq_true hgt
    go_enter Tryz.func23, Tryz.ntmps23
    go_wp2_with fail
    refine Calls.mono HWa.out ?_
    rintro e w ⟨rfl, rfl⟩
    go_wp2_with fail
    refine Calls.mono HOp.out ?_
    rintro e w2 ⟨a0, n0, k0, rfl, -, b2⟩
    obtain ⟨W3, hW3, X3, B3⟩ : ∃ W3, w2.alloc (.cells #[.int .i64 D.kind, .int .i64 D.view, .int .i64 D.seq, .int .i64 D.client, .int .i64 D.stamp, .string D.digest, .string D.text, .slice a0 n0 k0] 54) = W3 ∧ Blk W3 w2.heap.size (D.cells (.slice a0 n0 k0)) 54 ∧ Below w2.heap.size w2 W3 := ⟨_, rfl, blk_new _ _ _ _ rfl, by go_grown⟩
    have H2 := h.keep b2
    have H3 := H2.keep B3
    have BB := chainC b2 B3
    have g0 : W3.cell? ⟨q, 0, none⟩ = some (.int .i64 C.cf) := H3.blk.cell rfl
    have g1 : W3.cell? ⟨q, 1, none⟩ = some (.int .i64 C.cc) := H3.blk.cell rfl
    have g2 : W3.cell? ⟨q, 2, none⟩ = some (.int .i64 C.cg) := H3.blk.cell rfl
    have g3 : W3.cell? ⟨q, 3, none⟩ = some (.int .i64 C.cp) := H3.blk.cell rfl
    go_wp2_with fail
    refine Calls.mono (HSz.out _) ?_
    rintro e w4 ⟨rfl, b4⟩
    have H4 := H3.keep b4
    have X4 := X3.below b4
    have BB4 := chainC BB b4
    have HAw : Hid _ := awaits_calls D (.slice a0 n0 k0) w4 H4 ⟨_, _, _, rfl⟩
    rw [hA] at HAw
    unfold Bd.val at HAw
    have y0 : w4.cell? ⟨w2.heap.size, 0, none⟩ = some (.int .i64 D.kind) := X4.cell rfl
    have y1 : w4.cell? ⟨w2.heap.size, 1, none⟩ = some (.int .i64 D.view) := X4.cell rfl
    have y2 : w4.cell? ⟨w2.heap.size, 2, none⟩ = some (.int .i64 D.seq) := X4.cell rfl
    have y3 : w4.cell? ⟨w2.heap.size, 3, none⟩ = some (.int .i64 D.client) := X4.cell rfl
    have y4 : w4.cell? ⟨w2.heap.size, 4, none⟩ = some (.int .i64 D.stamp) := X4.cell rfl
    have y5 : w4.cell? ⟨w2.heap.size, 5, none⟩ = some (.string D.digest) := X4.cell rfl
    have y6 : w4.cell? ⟨w2.heap.size, 6, none⟩ = some (.string D.text) := X4.cell rfl
    have y7 : w4.cell? ⟨w2.heap.size, 7, none⟩ = some (.slice a0 n0 k0) := X4.cell rfl
    go_wp2_with fail
    refine Calls.mono HAw.out ?_
    rintro e w5 ⟨rfl, b5⟩
    have H5 := H4.keep b5
    have X5 := X4.below b5
    have BB5 := chainC BB4 b5
    have m5 : w5.cell? ⟨q, 9, none⟩ = some (.map (some tm)) := H5.blk.cell rfl
    obtain ⟨lt, hlk⟩ := run_told (P := Tryz.prog) (E := 126) Tryz.underlying120 Tryz.underlying3 (fun w => by kernel_rfl) H5.map f
    rw [hG] at hlk
    obtain ⟨W6, hW6, B6⟩ : ∃ W6, w5.alloc (.cells #[.string lt] 126) = W6 ∧ Below w5.heap.size w5 W6 := ⟨_, rfl, by go_grown⟩
    have H6 := H5.keep B6
    have X6 := X5.below B6
    have BB6 := chainC BB5 B6
    obtain ⟨W7, hW7, H7, k7, X7k⟩ := St.tell (w := W6.drew) (H6.keep (by go_grown)) f D.text hG
    have X7 : Blk W7 w2.heap.size (D.cells (.slice a0 n0 k0)) 54 := X7k _ _ _ X6.drew
    have htl : (Instr.mapUpdate 120 (.map (some tm)) (.int .i64 f) (.agg #[.string D.text])).run Tryz.prog W6.drew = .ok () W7 := by
      rw [← hW7]
      exact run_tell (P := Tryz.prog) (E := 126) Tryz.underlying120 Tryz.underlying3 (St.map (H6.keep (by go_grown))) f D.text hG
    have HK7 : Hid (Kpt av w W7) := k7 _ _ ((Kpt.of_below BB6).trans (Kpt.of_below (by go_grown)))
    clear X7k k7
    go_wp2_with fail
    refine wp_region_held_drew (S := (fun wx => wx.cell? ⟨q, 9, none⟩ = some (.map (some tm)) ∧ wx.cell? ⟨w2.heap.size, 6, none⟩ = some (.string D.text))) (by kernel_rfl) ⟨H6.blk.cell rfl, X6.cell rfl⟩ (fun hS => ?_)
    refine wpAnyH_take (i := 0) (v := (.pointer (some ⟨q, 0, none⟩))) rfl (by kernel_rfl) (by kernel_rfl) (by kernel_rfl) (fun _ _ _ h => h) (Or.inl ⟨by kernel_rfl, fun w hS => by obtain ⟨s0, s1⟩ := hS; go_simp⟩) hS ?_
    refine wpAnyH_take (i := 1) (v := (.pointer (some ⟨q, 0, none⟩))) rfl (by kernel_rfl) (by kernel_rfl) (by kernel_rfl) (fun _ _ _ h => h) (Or.inl ⟨by kernel_rfl, fun w hS => by obtain ⟨s0, s1⟩ := hS; go_simp⟩) hS ?_
    refine wpAnyH_take (i := 2) (v := (.pointer (some ⟨q, 9, none⟩))) rfl (by kernel_rfl) (by kernel_rfl) (by kernel_rfl) (fun _ _ _ h => h) (Or.inl ⟨by kernel_rfl, fun w hS => by obtain ⟨s0, s1⟩ := hS; go_simp⟩) hS ?_
    refine wpAnyH_take (i := 3) (v := (.map (some tm))) rfl (by kernel_rfl) (by kernel_rfl) (by kernel_rfl) (fun _ _ _ h => h) (Or.inl ⟨by kernel_rfl, fun w hS => by obtain ⟨s0, s1⟩ := hS; go_simp⟩) hS ?_
    refine wpAnyH_take (i := 4) (v := (.int .i64 f)) rfl (by kernel_rfl) (by kernel_rfl) (by kernel_rfl) (fun _ _ _ h => h) (Or.inl ⟨by kernel_rfl, fun w hS => by obtain ⟨s0, s1⟩ := hS; go_simp⟩) hS ?_
    refine wpAnyH_take (i := 5) (v := (.pointer (some ⟨w2.heap.size, 6, none⟩))) rfl (by kernel_rfl) (by kernel_rfl) (by kernel_rfl) (fun _ _ _ h => h) (Or.inl ⟨by kernel_rfl, fun w hS => by obtain ⟨s0, s1⟩ := hS; go_simp⟩) hS ?_
    refine wpAnyH_take (i := 6) (v := (.string D.text)) rfl (by kernel_rfl) (by kernel_rfl) (by kernel_rfl) (fun _ _ _ h => h) (Or.inl ⟨by kernel_rfl, fun w hS => by obtain ⟨s0, s1⟩ := hS; go_simp⟩) hS ?_
    refine wpAnyH_take (i := 7) (v := (.agg #[.string D.text])) rfl (by kernel_rfl) (by kernel_rfl) (by kernel_rfl) (fun _ _ _ h => h) (Or.inl ⟨by kernel_rfl, fun w hS => by obtain ⟨s0, s1⟩ := hS; go_simp⟩) hS ?_
    refine wpAnyH_ready (rs := [8]) (by kernel_rfl) (by simp) ?_
    refine AllReadyH.cons rfl (fun K hK => ?_) AllReadyH.nil
    go_simp
    refine hK.out _ _ ⟨H7.blk.cell rfl, X7.cell rfl⟩ (fun hS => ?_)
    clear hK
    refine wpAnyH_done (by kernel_rfl) ?_ _
    clear hS htl
    have HAl : Hid _ := fun wx (hx : St w0 wx p b x y T S q tm tc av { C with told := C.told ++ [(f, D.text)] }) => alike_calls D.text wx hx (by show (C.told ++ [(f, D.text)]).length ≤ 100; simp; omega)
    go_simp
    go_wp2_with fail
    refine wp_region_held_drew (S := (fun wx => wx.cell? ⟨w2.heap.size, 6, none⟩ = some (.string D.text) ∧ wx.cell? ⟨q, 0, none⟩ = some (.int .i64 C.cf))) (by kernel_rfl) ⟨X7.cell rfl, H7.blk.cell rfl⟩ (fun hS => ?_)
    refine wpAnyH_take (i := 0) (v := (.pointer (some ⟨q, 0, none⟩))) rfl (by kernel_rfl) (by kernel_rfl) (by kernel_rfl) (fun _ _ _ h => h) (Or.inl ⟨by kernel_rfl, fun w hS => by obtain ⟨s0, s1⟩ := hS; go_simp⟩) hS ?_
    refine wpAnyH_take (i := 1) (v := (.pointer (some ⟨w2.heap.size, 6, none⟩))) rfl (by kernel_rfl) (by kernel_rfl) (by kernel_rfl) (fun _ _ _ h => h) (Or.inl ⟨by kernel_rfl, fun w hS => by obtain ⟨s0, s1⟩ := hS; go_simp⟩) hS ?_
    refine wpAnyH_take (i := 2) (v := (.string D.text)) rfl (by kernel_rfl) (by kernel_rfl) (by kernel_rfl) (fun _ _ _ h => h) (Or.inl ⟨by kernel_rfl, fun w hS => by obtain ⟨s0, s1⟩ := hS; go_simp⟩) hS ?_
    refine wpAnyH_take (i := 4) (v := (.pointer (some ⟨q, 0, none⟩))) rfl (by kernel_rfl) (by kernel_rfl) (by kernel_rfl) (fun _ _ _ h => h) (Or.inl ⟨by kernel_rfl, fun w hS => by obtain ⟨s0, s1⟩ := hS; go_simp⟩) hS ?_
    refine wpAnyH_take (i := 5) (v := (.pointer (some ⟨q, 0, none⟩))) rfl (by kernel_rfl) (by kernel_rfl) (by kernel_rfl) (fun _ _ _ h => h) (Or.inl ⟨by kernel_rfl, fun w hS => by obtain ⟨s0, s1⟩ := hS; go_simp⟩) hS ?_
    refine wpAnyH_take (i := 6) (v := (.pointer (some ⟨q, 0, none⟩))) rfl (by kernel_rfl) (by kernel_rfl) (by kernel_rfl) (fun _ _ _ h => h) (Or.inl ⟨by kernel_rfl, fun w hS => by obtain ⟨s0, s1⟩ := hS; go_simp⟩) hS ?_
    refine wpAnyH_take (i := 7) (v := (.pointer (some ⟨q, 0, none⟩))) rfl (by kernel_rfl) (by kernel_rfl) (by kernel_rfl) (fun _ _ _ h => h) (Or.inl ⟨by kernel_rfl, fun w hS => by obtain ⟨s0, s1⟩ := hS; go_simp⟩) hS ?_
    refine wpAnyH_take (i := 8) (v := (.int .i64 C.cf)) rfl (by kernel_rfl) (by kernel_rfl) (by kernel_rfl) (fun _ _ _ h => h) (Or.inl ⟨by kernel_rfl, fun w hS => by obtain ⟨s0, s1⟩ := hS; go_simp⟩) hS ?_
    refine wpAnyH_ready (rs := [3]) (by kernel_rfl) (by simp) ?_
    refine AllReadyH.cons rfl (fun K hK => ?_) AllReadyH.nil
    go_simp
    refine Calls.mono (HAl.out _ (H7.keep (by go_grown))) ?_
    rintro e w8 ⟨rfl, b8⟩
    have b8' : Below W7.heap.size W7 w8 := chainC (by go_grown) b8
    have H8 := H7.keep b8'
    have X8 := X7.below b8'
    refine hK.out _ _ ⟨X8.cell rfl, H8.blk.cell rfl⟩ (fun hS => ?_)
    clear hK
    refine wpAnyH_take (i := 9) (v := (.bool true)) rfl (by kernel_rfl) (by kernel_rfl) (by kernel_rfl) (fun _ _ _ h => h) (Or.inl ⟨by kernel_rfl, fun w hS => by obtain ⟨s0, s1⟩ := hS; go_simp⟩) hS ?_
    refine wpAnyH_done (by kernel_rfl) ?_ _
    clear hS
    have HK8 : Hid (Kpt av w w8) := HK7.out.trans (Kpt.of_below b8')
    have HSe : Hid _ := settle_calls D.text w8 H8 (by show C.ans.length < 1000000; omega)
    have t8 : w8.cell? ⟨w2.heap.size, 6, none⟩ = some (.string D.text) := X8.cell rfl
    go_simp
    go_wp2_with fail
    refine Calls.mono HSe.out ?_
    rintro e w9 ⟨rfl, tc', av', H9, k9, f9⟩
    go_wp2
    go_ret
    refine ⟨by rw [HY.out]; rfl, tc', av', ?_, HK8.out.trans k9, f9.imp id (fun h k hk => Nat.le_trans HK8.out.size (h k hk))⟩
    rw [HY.out]
    show St w0 w9 p b x y T S q tm tc' av' (C.hear (some (f, D.text)))
    rw [hear_yes C (f, D.text) (by simpa using hgt)]
    exact H9
  · have hgd : decide (C.cf < (alk (C.told ++ [(f, D.text)]) D.text : Int)) = false := decide_eq_false hgt
    go_enter Tryz.func23, Tryz.ntmps23
    go_wp2_with fail
    refine Calls.mono HWa.out ?_
    rintro e w ⟨rfl, rfl⟩
    go_wp2_with fail
    refine Calls.mono HOp.out ?_
    rintro e w2 ⟨a0, n0, k0, rfl, -, b2⟩
    obtain ⟨W3, hW3, X3, B3⟩ : ∃ W3, w2.alloc (.cells #[.int .i64 D.kind, .int .i64 D.view, .int .i64 D.seq, .int .i64 D.client, .int .i64 D.stamp, .string D.digest, .string D.text, .slice a0 n0 k0] 54) = W3 ∧ Blk W3 w2.heap.size (D.cells (.slice a0 n0 k0)) 54 ∧ Below w2.heap.size w2 W3 := ⟨_, rfl, blk_new _ _ _ _ rfl, by go_grown⟩
    have H2 := h.keep b2
    have H3 := H2.keep B3
    have BB := chainC b2 B3
    have g0 : W3.cell? ⟨q, 0, none⟩ = some (.int .i64 C.cf) := H3.blk.cell rfl
    have g1 : W3.cell? ⟨q, 1, none⟩ = some (.int .i64 C.cc) := H3.blk.cell rfl
    have g2 : W3.cell? ⟨q, 2, none⟩ = some (.int .i64 C.cg) := H3.blk.cell rfl
    have g3 : W3.cell? ⟨q, 3, none⟩ = some (.int .i64 C.cp) := H3.blk.cell rfl
    go_wp2_with fail
    refine Calls.mono (HSz.out _) ?_
    rintro e w4 ⟨rfl, b4⟩
    have H4 := H3.keep b4
    have X4 := X3.below b4
    have BB4 := chainC BB b4
    have HAw : Hid _ := awaits_calls D (.slice a0 n0 k0) w4 H4 ⟨_, _, _, rfl⟩
    rw [hA] at HAw
    unfold Bd.val at HAw
    have y0 : w4.cell? ⟨w2.heap.size, 0, none⟩ = some (.int .i64 D.kind) := X4.cell rfl
    have y1 : w4.cell? ⟨w2.heap.size, 1, none⟩ = some (.int .i64 D.view) := X4.cell rfl
    have y2 : w4.cell? ⟨w2.heap.size, 2, none⟩ = some (.int .i64 D.seq) := X4.cell rfl
    have y3 : w4.cell? ⟨w2.heap.size, 3, none⟩ = some (.int .i64 D.client) := X4.cell rfl
    have y4 : w4.cell? ⟨w2.heap.size, 4, none⟩ = some (.int .i64 D.stamp) := X4.cell rfl
    have y5 : w4.cell? ⟨w2.heap.size, 5, none⟩ = some (.string D.digest) := X4.cell rfl
    have y6 : w4.cell? ⟨w2.heap.size, 6, none⟩ = some (.string D.text) := X4.cell rfl
    have y7 : w4.cell? ⟨w2.heap.size, 7, none⟩ = some (.slice a0 n0 k0) := X4.cell rfl
    go_wp2_with fail
    refine Calls.mono HAw.out ?_
    rintro e w5 ⟨rfl, b5⟩
    have H5 := H4.keep b5
    have X5 := X4.below b5
    have BB5 := chainC BB4 b5
    have m5 : w5.cell? ⟨q, 9, none⟩ = some (.map (some tm)) := H5.blk.cell rfl
    obtain ⟨lt, hlk⟩ := run_told (P := Tryz.prog) (E := 126) Tryz.underlying120 Tryz.underlying3 (fun w => by kernel_rfl) H5.map f
    rw [hG] at hlk
    obtain ⟨W6, hW6, B6⟩ : ∃ W6, w5.alloc (.cells #[.string lt] 126) = W6 ∧ Below w5.heap.size w5 W6 := ⟨_, rfl, by go_grown⟩
    have H6 := H5.keep B6
    have X6 := X5.below B6
    have BB6 := chainC BB5 B6
    obtain ⟨W7, hW7, H7, k7, X7k⟩ := St.tell (w := W6.drew) (H6.keep (by go_grown)) f D.text hG
    have X7 : Blk W7 w2.heap.size (D.cells (.slice a0 n0 k0)) 54 := X7k _ _ _ X6.drew
    have htl : (Instr.mapUpdate 120 (.map (some tm)) (.int .i64 f) (.agg #[.string D.text])).run Tryz.prog W6.drew = .ok () W7 := by
      rw [← hW7]
      exact run_tell (P := Tryz.prog) (E := 126) Tryz.underlying120 Tryz.underlying3 (St.map (H6.keep (by go_grown))) f D.text hG
    have HK7 : Hid (Kpt av w W7) := k7 _ _ ((Kpt.of_below BB6).trans (Kpt.of_below (by go_grown)))
    clear X7k k7
    go_wp2_with fail
    refine wp_region_held_drew (S := (fun wx => wx.cell? ⟨q, 9, none⟩ = some (.map (some tm)) ∧ wx.cell? ⟨w2.heap.size, 6, none⟩ = some (.string D.text))) (by kernel_rfl) ⟨H6.blk.cell rfl, X6.cell rfl⟩ (fun hS => ?_)
    refine wpAnyH_take (i := 0) (v := (.pointer (some ⟨q, 0, none⟩))) rfl (by kernel_rfl) (by kernel_rfl) (by kernel_rfl) (fun _ _ _ h => h) (Or.inl ⟨by kernel_rfl, fun w hS => by obtain ⟨s0, s1⟩ := hS; go_simp⟩) hS ?_
    refine wpAnyH_take (i := 1) (v := (.pointer (some ⟨q, 0, none⟩))) rfl (by kernel_rfl) (by kernel_rfl) (by kernel_rfl) (fun _ _ _ h => h) (Or.inl ⟨by kernel_rfl, fun w hS => by obtain ⟨s0, s1⟩ := hS; go_simp⟩) hS ?_
    refine wpAnyH_take (i := 2) (v := (.pointer (some ⟨q, 9, none⟩))) rfl (by kernel_rfl) (by kernel_rfl) (by kernel_rfl) (fun _ _ _ h => h) (Or.inl ⟨by kernel_rfl, fun w hS => by obtain ⟨s0, s1⟩ := hS; go_simp⟩) hS ?_
    refine wpAnyH_take (i := 3) (v := (.map (some tm))) rfl (by kernel_rfl) (by kernel_rfl) (by kernel_rfl) (fun _ _ _ h => h) (Or.inl ⟨by kernel_rfl, fun w hS => by obtain ⟨s0, s1⟩ := hS; go_simp⟩) hS ?_
    refine wpAnyH_take (i := 4) (v := (.int .i64 f)) rfl (by kernel_rfl) (by kernel_rfl) (by kernel_rfl) (fun _ _ _ h => h) (Or.inl ⟨by kernel_rfl, fun w hS => by obtain ⟨s0, s1⟩ := hS; go_simp⟩) hS ?_
    refine wpAnyH_take (i := 5) (v := (.pointer (some ⟨w2.heap.size, 6, none⟩))) rfl (by kernel_rfl) (by kernel_rfl) (by kernel_rfl) (fun _ _ _ h => h) (Or.inl ⟨by kernel_rfl, fun w hS => by obtain ⟨s0, s1⟩ := hS; go_simp⟩) hS ?_
    refine wpAnyH_take (i := 6) (v := (.string D.text)) rfl (by kernel_rfl) (by kernel_rfl) (by kernel_rfl) (fun _ _ _ h => h) (Or.inl ⟨by kernel_rfl, fun w hS => by obtain ⟨s0, s1⟩ := hS; go_simp⟩) hS ?_
    refine wpAnyH_take (i := 7) (v := (.agg #[.string D.text])) rfl (by kernel_rfl) (by kernel_rfl) (by kernel_rfl) (fun _ _ _ h => h) (Or.inl ⟨by kernel_rfl, fun w hS => by obtain ⟨s0, s1⟩ := hS; go_simp⟩) hS ?_
    refine wpAnyH_ready (rs := [8]) (by kernel_rfl) (by simp) ?_
    refine AllReadyH.cons rfl (fun K hK => ?_) AllReadyH.nil
    go_simp
    refine hK.out _ _ ⟨H7.blk.cell rfl, X7.cell rfl⟩ (fun hS => ?_)
    clear hK
    refine wpAnyH_done (by kernel_rfl) ?_ _
    clear hS htl
    have HAl : Hid _ := fun wx (hx : St w0 wx p b x y T S q tm tc av { C with told := C.told ++ [(f, D.text)] }) => alike_calls D.text wx hx (by show (C.told ++ [(f, D.text)]).length ≤ 100; simp; omega)
    go_simp
    go_wp2_with fail
    refine wp_region_held_drew (S := (fun wx => wx.cell? ⟨w2.heap.size, 6, none⟩ = some (.string D.text) ∧ wx.cell? ⟨q, 0, none⟩ = some (.int .i64 C.cf))) (by kernel_rfl) ⟨X7.cell rfl, H7.blk.cell rfl⟩ (fun hS => ?_)
    refine wpAnyH_take (i := 0) (v := (.pointer (some ⟨q, 0, none⟩))) rfl (by kernel_rfl) (by kernel_rfl) (by kernel_rfl) (fun _ _ _ h => h) (Or.inl ⟨by kernel_rfl, fun w hS => by obtain ⟨s0, s1⟩ := hS; go_simp⟩) hS ?_
    refine wpAnyH_take (i := 1) (v := (.pointer (some ⟨w2.heap.size, 6, none⟩))) rfl (by kernel_rfl) (by kernel_rfl) (by kernel_rfl) (fun _ _ _ h => h) (Or.inl ⟨by kernel_rfl, fun w hS => by obtain ⟨s0, s1⟩ := hS; go_simp⟩) hS ?_
    refine wpAnyH_take (i := 2) (v := (.string D.text)) rfl (by kernel_rfl) (by kernel_rfl) (by kernel_rfl) (fun _ _ _ h => h) (Or.inl ⟨by kernel_rfl, fun w hS => by obtain ⟨s0, s1⟩ := hS; go_simp⟩) hS ?_
    refine wpAnyH_take (i := 4) (v := (.pointer (some ⟨q, 0, none⟩))) rfl (by kernel_rfl) (by kernel_rfl) (by kernel_rfl) (fun _ _ _ h => h) (Or.inl ⟨by kernel_rfl, fun w hS => by obtain ⟨s0, s1⟩ := hS; go_simp⟩) hS ?_
    refine wpAnyH_take (i := 5) (v := (.pointer (some ⟨q, 0, none⟩))) rfl (by kernel_rfl) (by kernel_rfl) (by kernel_rfl) (fun _ _ _ h => h) (Or.inl ⟨by kernel_rfl, fun w hS => by obtain ⟨s0, s1⟩ := hS; go_simp⟩) hS ?_
    refine wpAnyH_take (i := 6) (v := (.pointer (some ⟨q, 0, none⟩))) rfl (by kernel_rfl) (by kernel_rfl) (by kernel_rfl) (fun _ _ _ h => h) (Or.inl ⟨by kernel_rfl, fun w hS => by obtain ⟨s0, s1⟩ := hS; go_simp⟩) hS ?_
    refine wpAnyH_take (i := 7) (v := (.pointer (some ⟨q, 0, none⟩))) rfl (by kernel_rfl) (by kernel_rfl) (by kernel_rfl) (fun _ _ _ h => h) (Or.inl ⟨by kernel_rfl, fun w hS => by obtain ⟨s0, s1⟩ := hS; go_simp⟩) hS ?_
    refine wpAnyH_take (i := 8) (v := (.int .i64 C.cf)) rfl (by kernel_rfl) (by kernel_rfl) (by kernel_rfl) (fun _ _ _ h => h) (Or.inl ⟨by kernel_rfl, fun w hS => by obtain ⟨s0, s1⟩ := hS; go_simp⟩) hS ?_
    refine wpAnyH_ready (rs := [3]) (by kernel_rfl) (by simp) ?_
    refine AllReadyH.cons rfl (fun K hK => ?_) AllReadyH.nil
    go_simp
    refine Calls.mono (HAl.out _ (H7.keep (by go_grown))) ?_
    rintro e w8 ⟨rfl, b8⟩
    have b8' : Below W7.heap.size W7 w8 := chainC (by go_grown) b8
    have H8 := H7.keep b8'
    have X8 := X7.below b8'
    refine hK.out _ _ ⟨X8.cell rfl, H8.blk.cell rfl⟩ (fun hS => ?_)
    clear hK
    refine wpAnyH_take (i := 9) (v := (.bool false)) rfl (by kernel_rfl) (by kernel_rfl) (by kernel_rfl) (fun _ _ _ h => h) (Or.inl ⟨by kernel_rfl, fun w hS => by obtain ⟨s0, s1⟩ := hS; go_simp⟩) hS ?_
    refine wpAnyH_done (by kernel_rfl) ?_ _
    clear hS
    have HK8 : Hid (Kpt av w w8) := HK7.out.trans (Kpt.of_below b8')
    go_simp
    go_wp2
    go_ret
    refine ⟨by rw [HY.out]; rfl, tc, av, ?_, HK8.out, Or.inl rfl⟩
    rw [HY.out]
    show St w0 w8 p b x y T S q tm tc av (C.hear (some (f, D.text)))
    rw [hear_no C (f, D.text) (by simpa using hgt)]
    exact H8
  -- END OF receive
end Go.Proofs.YtocphdikppeijaaGreat
