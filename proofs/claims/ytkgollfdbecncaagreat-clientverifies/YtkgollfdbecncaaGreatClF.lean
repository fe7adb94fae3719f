/- An answer that is kept. -/
import Derived.Test.YtkgollfdbecncaaGreatClE
namespace Go.Proofs.YtkgollfdbecncaaGreat
open Go.RowKit
open Go.ChangeMaps (setBlock)
set_option linter.unusedSimpArgs false
set_option linter.unusedVariables false

variable {p b x y : Nat} {T : List ByteArray} {S : List (Int × ByteArray)} {q tm tc : Nat} {av : Value} {C : Cs} {w0 : World}
theorem infoAn : (Tryz.prog.info? 80).map (fun i => (i.zero, i.size, i.bytes)) = some (some (.agg #[.int .i64 0, .string ⟨#[]⟩]), 2, 24) := by kernel_rfl
/-- The step at an append whose run is known. -/
theorem wp_append_run {P : Program} {w : World} {o : Oper} {a : Act} {K : Act → World → Prop} {Q : Exit → Act → World → Prop} (s x : Operand) (t : TypeId)
    (ho : o.op = .call { callee := .builtin .append, args := #[s, x], argTypes := #[t, t] }) (v u : Value) (hs : a.eval s = v) (hx : a.eval x = u) {v' : Value} {w' : World}
    (hr : (Builtin.append_ #[t, t] o.type #[v, u]).run P w = .ok v' w') (h : K (a.put o.dst v') w') : o.wp P a w K Q := by
  unfold Oper.wp execOp
  simp only [ho, resolve, invoke, builtin, Sem.run_bind, Sem.run_pure, Result.andThen_ok, List.map_toArray, List.map_cons, List.map_nil, hs, hx, hr]
  exact h
/-- The step at a clearing whose run is known. -/
theorem wpl_wipe {P : Program} {ops : Array Oper} {rest : List Oper} {type : TypeId} {pos : String} {after : Array Edge} {a : Act} {w w' : World} {Q : Exit → Act → World → Prop} {s : Operand} {t : TypeId} {v : Value}
    (hs : a.eval s = v) (hr : (Builtin.clear_ #[t] type #[v]).run P w = .ok (.tuple #[]) w') (h : wpList P ops Q rest a w') :
    wpList P ops Q ({ dst := none, op := .call { callee := .builtin .clear, args := #[s], argTypes := #[t] }, type := type, pos := pos, after := after, guard := none } :: rest) a w :=
  wpList_plain rfl fun K hK => by
    unfold Oper.wp execOp
    simp only [resolve, invoke, builtin, Sem.run_bind, Sem.run_pure, Result.andThen_ok, List.map_toArray, List.map_cons, List.map_nil, hs, hr]
    exact hK _ _ h
theorem St.apart {w : World} (h : St w0 w p b x y T S q tm tc av C) {k : Nat} {o : Obj} (ho : w.heap[k]? = some o) (hne : ∀ cur, o ≠ .cells cur 80 (0, 0)) : av.ownBlock ≠ some k := fun e => by
  obtain ⟨cur, hc⟩ := own_heap h.row e
  rw [hc] at ho
  exact hne cur (Option.some.inj ho).symm
/-- One more answer in the row. -/
theorem St.answer {w : World} (h : St w0 w p b x y T S q tm tc av C) (hl : C.ans.length < 1000000) (t : ByteArray) :
    ∃ W4, w.drew.alloc (.cells #[.int .i64 C.stamp, .string t] 80) = W4 ∧ ∃ av' W5, (∃ g n c, av' = .slice g n c) ∧ (Builtin.append_ #[77, 77] 77 #[av, .slice (some ⟨w.heap.size, 0, none⟩) 1 1]).run Tryz.prog W4 = .ok av' W5 ∧ Blk W4 q (clC C p tm av) 114 ∧ Blk W5 q (clC C p tm av) 114 ∧ ∃ W6, W5.setCell ⟨q, 10, none⟩ av' = W6 ∧ St w0 W6 p b x y T S q tm tc av' { C with ans := C.ans ++ [(C.stamp, t)] } ∧ Kpt w W6 := by
  obtain ⟨i0, hi, hz0, hz1, hz2⟩ := info_parts infoAn
  obtain ⟨W4, hW4, X4, B4, Z4⟩ : ∃ W4, w.drew.alloc (.cells #[.int .i64 C.stamp, .string t] 80) = W4 ∧ Blk W4 w.heap.size #[.int .i64 C.stamp, .string t] 80 ∧ Below w.heap.size w W4 ∧ W4.heap.size = w.heap.size + 1 :=
    ⟨_, rfl, blk_new _ _ _ _ rfl, by go_grown, by simp⟩
  have H4 := h.keep B4
  have hlw := h.low
  have hz0w := h.below.size
  obtain ⟨g, cap', W5, hrun, own5, grow5, at5, lt5⟩ := run_append_lies (P := Tryz.prog) W4 77 77 w0.heap.size 80 i0 (.agg #[.int .i64 0, .string ⟨#[]⟩]) 2 24 Tryz.underlying77 hi hz0 hz1 hz2 rfl (by decide) av C.ans.length (anC C.ans) H4.row ⟨w.heap.size, 0, none⟩ 1 1 [.int .i64 C.stamp, .string t] rfl
    (by intro j u hj; rw [Addr.add_lit, Nat.zero_add]; exact X4.cell (by simpa using hj)) (by simp [Value.oneCell']) (by decide) (by unfold maxLen; omega) (by omega) (by omega) (w.heap.size + 1) Z4
  refine ⟨W4, hW4, .slice (some ⟨g, 0, none⟩) (C.ans.length + 1) cap', W5, ⟨_, _, _, rfl⟩, hrun, H4.blk, ?_⟩
  have hq4 : q < W4.heap.size := H4.blk.lt
  have naq : av.ownBlock ≠ some q := H4.apart H4.blk (fun cur e => by cases e)
  have P5 : Blk W5 q (clC C p tm av) 114 := (grow5.block q hq4 (fun e => naq e.symm)).trans H4.blk
  refine ⟨P5, _, rfl, ?_⟩
  have G : ∀ (k : Nat) (o : Obj), W4.heap[k]? = some o → (∀ cur, o ≠ .cells cur 80 (0, 0)) → k ≠ q → (W5.setCell ⟨q, 10, none⟩ (.slice (some ⟨g, 0, none⟩) (C.ans.length + 1) cap')).heap[k]? = some o := fun k o ho hne hk => by
    rw [heap_setCell_other W5 ⟨q, 10, none⟩ k _ hk]
    exact (grow5.block k (lt_of_heap ho) (fun e => H4.apart ho hne e.symm)).trans ho
  have hgq : g ≠ q := by
    rcases at5 with e | e
    · intro f; rw [f] at e; exact naq e
    · omega
  have z5 := grow5.size
  refine ⟨⟨⟨?_, ?_, ?_, ?_, ?_⟩, ⟨G _ _ H4.book.blk (fun cur e => by cases e) (Ne.symm h.qp), G _ _ H4.book.nums.blk (fun cur e => by cases e) (Ne.symm h.qb), G _ _ H4.book.nums.mx (fun cur e => by cases e) (Ne.symm h.qx), G _ _ H4.book.nums.my (fun cur e => by cases e) (Ne.symm h.qy), h.book.nums.ne⟩, P5.set 10 _, G _ _ H4.map (fun cur e => by cases e) (h.map.blk h.blk), ?_, h.low, h.nx, h.ny⟩, ⟨?_, fun k cs u h1 h2 X => ?_⟩⟩
  · exact grow5.os.trans H4.below.os
  · exact grow5.tape.trans H4.below.tape
  · exact grow5.output.trans H4.below.output
  · rw [World.size_setCell]; exact Nat.le_trans H4.below.size z5
  · intro k hk
    rw [heap_setCell_other W5 ⟨q, 10, none⟩ k _ (by show k ≠ q; omega)]
    exact (grow5.block k (by omega) (fun e => by have := (H4.row.lt k e.symm).1; omega)).trans (H4.below.block k hk)
  · have e1 : (C.ans ++ [(C.stamp, t)]).length = C.ans.length + 1 := by simp
    show World.ownsRow _ _ _ _ _ (C.ans ++ [(C.stamp, t)]).length (anC (C.ans ++ [(C.stamp, t)]))
    rw [e1, anC_snoc]
    exact own5.kept (row := some q) ⟨rfl, rfl, rfl, by rw [World.size_setCell]; exact Nat.le_refl _, fun k hk hkp => Below.heap_setCell _ _ _ _ (by intro e; exact hkp (by rw [e]))⟩ (Or.inr (by simpa [Value.ownBlock] using hgq))
  · rw [World.size_setCell]; omega
  · refine G k _ (X.below B4) (fun cur e => h2 (by simpa using (Obj.cells.inj e).2.1)) (fun e => ?_)
    have Y := h.blk
    unfold Blk at X Y
    rw [e, Y] at X
    exact h1 (by simpa using (Obj.cells.inj (Option.some.inj X)).2.1.symm)
def Cs.settle (C : Cs) (t : ByteArray) : Cs := { C with told := [], asked := ⟨#[]⟩, ans := C.ans ++ [(C.stamp, t)] }
/-- The map behind its clearing. -/
theorem St.wipe {w : World} {C' : Cs} (h : St w0 w p b x y T S q tm tc av C) (hC : C' = { C with told := [] }) : ∃ W, setBlock w tm (.map #[] (tc + C.told.length)) = W ∧ St w0 W p b x y T S q tm (tc + C.told.length) av C' ∧ ∀ w1, Kpt w1 w → Kpt w1 W := by
  subst hC
  have hq := h.low
  have G : ∀ k, tm ≠ k → (setBlock w tm (.map #[] (tc + C.told.length))).heap[k]? = w.heap[k]? := fun k hk => setB_other _ hk
  have nb : ∀ (k : Nat) (cs : Array Value) (t : TypeId), Blk w k cs t → tm ≠ k := fun k cs t X => h.map.blk X
  refine ⟨_, rfl, ⟨⟨h.below.os, h.below.tape, h.below.output, by rw [setB_size]; exact h.below.size, fun j hj => (G j (by omega)).trans (h.below.block j hj)⟩, ⟨(G p (nb _ _ _ h.book.blk)).trans h.book.blk, (G b (nb _ _ _ h.book.nums.blk)).trans h.book.nums.blk, (G x h.nx).trans h.book.nums.mx, (G y h.ny).trans h.book.nums.my, h.book.nums.ne⟩, (G q (nb _ _ _ h.blk)).trans h.blk, setB_same _ h.map.lt, ?_, h.low, h.nx, h.ny⟩, fun w1 hk => ⟨by rw [setB_size]; exact hk.size, fun k cs t h1 h2 X => (G k (nb _ _ _ (hk.blk k cs t h1 h2 X))).trans (hk.blk k cs t h1 h2 X)⟩⟩
  refine ⟨h.row.1, ?_⟩
  rcases h.row.2 with hn | ⟨g, cap, cur, rfl, hb, hgg, rest⟩
  · exact Or.inl hn
  · refine Or.inr ⟨g, cap, cur, rfl, hb, ?_, rest⟩
    rw [G g (fun e => by have X := h.map; unfold RMap at X; rw [e, hgg] at X; cases X)]
    exact hgg
set_option maxHeartbeats 2000000 in
set_option maxRecDepth 100000 in
theorem settle_calls (t : ByteArray) (w : World) (h : St w0 w p b x y T S q tm tc av C) (hl : C.ans.length < 1000000) : Calls Tryz.prog 60 #[.pointer (some ⟨q, 0, none⟩), .string t] w fun e w' => e = .returned (.tuple #[]) ∧ ∃ tc' av', St w0 w' p b x y T S q tm tc' av' (C.settle t) ∧ Kpt w w' := by
  have c6 : w.drew.cell? ⟨q, 6, none⟩ = some (.int .i64 C.stamp) := h.blk.cell rfl
  have c10 : w.drew.cell? ⟨q, 10, none⟩ = some av := h.blk.cell rfl
  obtain ⟨W4, hW4, av', W5, ⟨ga, na, ca, rfl⟩, hrun, X4, X5, W6, hW6, H6, k6⟩ := h.answer hl t
  have k64 : W4.cell? ⟨q, 6, none⟩ = some (.int .i64 C.stamp) := X4.cell rfl
  have k104 : W4.cell? ⟨q, 10, none⟩ = some av := X4.cell rfl
  have k65 : W5.cell? ⟨q, 6, none⟩ = some (.int .i64 C.stamp) := X5.cell rfl
  have k105 : W5.cell? ⟨q, 10, none⟩ = some av := X5.cell rfl
  have f105 : W5.frozen? ⟨q, 10, none⟩ = false := X5.frozen
  have k66 : W6.cell? ⟨q, 6, none⟩ = some (.int .i64 C.stamp) := H6.blk.cell rfl
  have k76 : W6.cell? ⟨q, 7, none⟩ = some (.string C.asked) := H6.blk.cell rfl
  have f76 : W6.frozen? ⟨q, 7, none⟩ = false := H6.blk.frozen
  obtain ⟨W7, hW7, H7, k7⟩ := put_named (C' := { C with ans := C.ans ++ [(C.stamp, t)], asked := ⟨#[]⟩ }) H6 7 (.string ⟨#[]⟩) rfl rfl rfl
  have k97 : W7.cell? ⟨q, 9, none⟩ = some (.map (some tm)) := H7.blk.cell rfl
  obtain ⟨W8, hW8, H8, k8⟩ := H7.wipe (C' := C.settle t) rfl
  have hwp : (Builtin.clear_ #[112] 0 #[.map (some tm)]).run Tryz.prog W7 = .ok (.tuple #[]) W8 := by
    have := run_wipe (P := Tryz.prog) (ty := 0) (w := W7) (b := tm) (c := tc) (l := C.told) Tryz.underlying112 H7.map
    rw [this]
    exact congrArg _ hW8
  obtain ⟨ab, an, ac, hav⟩ : ∃ ab an ac, av = .slice ab an ac := by
    rcases h.row.2 with ⟨rfl, _⟩ | ⟨g, cap, cur, rfl, _⟩
    · exact ⟨_, _, _, rfl⟩
    · exact ⟨_, _, _, rfl⟩
  have HF : Hid (∃ tc' av', St w0 W8 p b x y T S q tm tc' av' (C.settle t) ∧ Kpt w W8) := ⟨_, _, H8, k8 _ (k7 _ k6)⟩
  clear H6 H7 H8 k6 k7 k8 hW8 X4 X5 h
  subst hav
  go_enter Tryz.func60, Tryz.ntmps60
  go_wp2_with fail
  -- HEAD OF settle
  refine wp_region_held_drew (S := (fun wx => wx.cell? ⟨q, 6, none⟩ = some (.int .i64 C.stamp))) (by kernel_rfl) c6 (fun hS => ?_)
  refine wpAnyH_take (i := 0) (v := (.pointer (some ⟨q, 0, none⟩))) rfl (by kernel_rfl) (by kernel_rfl) (by kernel_rfl) (fun _ _ _ h => h) (Or.inl ⟨by kernel_rfl, fun w hS => by have s0 := hS; go_simp⟩) hS ?_
  refine wpAnyH_take (i := 1) (v := (.pointer (some ⟨q, 0, none⟩))) rfl (by kernel_rfl) (by kernel_rfl) (by kernel_rfl) (fun _ _ _ h => h) (Or.inl ⟨by kernel_rfl, fun w hS => by have s0 := hS; go_simp⟩) hS ?_
  refine wpAnyH_take (i := 2) (v := (.pointer (some ⟨q, 0, none⟩))) rfl (by kernel_rfl) (by kernel_rfl) (by kernel_rfl) (fun _ _ _ h => h) (Or.inl ⟨by kernel_rfl, fun w hS => by have s0 := hS; go_simp⟩) hS ?_
  refine wpAnyH_take (i := 3) (v := (.pointer (some ⟨q, 10, none⟩))) rfl (by kernel_rfl) (by kernel_rfl) (by kernel_rfl) (fun _ _ _ h => h) (Or.inl ⟨by kernel_rfl, fun w hS => by have s0 := hS; go_simp⟩) hS ?_
  refine wpAnyH_take (i := 5) (v := (.pointer (some ⟨q, 0, none⟩))) rfl (by kernel_rfl) (by kernel_rfl) (by kernel_rfl) (fun _ _ _ h => h) (Or.inl ⟨by kernel_rfl, fun w hS => by have s0 := hS; go_simp⟩) hS ?_
  refine wpAnyH_take (i := 6) (v := (.pointer (some ⟨q, 0, none⟩))) rfl (by kernel_rfl) (by kernel_rfl) (by kernel_rfl) (fun _ _ _ h => h) (Or.inl ⟨by kernel_rfl, fun w hS => by have s0 := hS; go_simp⟩) hS ?_
  refine wpAnyH_take (i := 7) (v := (.pointer (some ⟨q, 6, none⟩))) rfl (by kernel_rfl) (by kernel_rfl) (by kernel_rfl) (fun _ _ _ h => h) (Or.inl ⟨by kernel_rfl, fun w hS => by have s0 := hS; go_simp⟩) hS ?_
  refine wpAnyH_take (i := 8) (v := (.int .i64 C.stamp)) rfl (by kernel_rfl) (by kernel_rfl) (by kernel_rfl) (fun _ _ _ h => h) (Or.inl ⟨by kernel_rfl, fun w hS => by have s0 := hS; go_simp⟩) hS ?_
  refine wpAnyH_take (i := 9) (v := (.string t)) rfl (by kernel_rfl) (by kernel_rfl) (by kernel_rfl) (fun _ _ _ h => h) (Or.inl ⟨by kernel_rfl, fun w hS => by have s0 := hS; go_simp⟩) hS ?_
  refine wpAnyH_take (i := 10) (v := (.agg #[.int .i64 C.stamp, .string t])) rfl (by kernel_rfl) (by kernel_rfl) (by kernel_rfl) (fun _ _ _ h => h) (Or.inl ⟨by kernel_rfl, fun w hS => by have s0 := hS; go_simp⟩) hS ?_
  refine wpAnyH_ready (rs := [4, 11]) (by kernel_rfl) (by simp) ?_
  refine AllReadyH.cons rfl (fun K hK => ?_) (AllReadyH.cons rfl (fun K hK => ?_) AllReadyH.nil)
  · go_simp
    refine hK.out _ _ c6 (fun hS => ?_)
    clear hK
    refine wpAnyH_ready (rs := [11]) (by kernel_rfl) (by simp) ?_
    refine AllReadyH.cons rfl (fun K hK => ?_) AllReadyH.nil
    go_simp
    refine hK.out _ _ k64 (fun hS => ?_)
    clear hK
    refine wpAnyH_ready (rs := [12]) (by kernel_rfl) (by simp) ?_
    refine AllReadyH.cons rfl (fun K hK => ?_) AllReadyH.nil
    refine step_ifC rfl (wp_append_run (.tmp 8) (.tmp 15) 77 rfl _ _ (by kernel_rfl) (by kernel_rfl) hrun ?_)
    refine hK.out _ _ k65 (fun hS => ?_)
    clear hK
    refine wpAnyH_take (i := 13) (v := (.pointer (some ⟨q, 0, none⟩))) rfl (by kernel_rfl) (by kernel_rfl) (by kernel_rfl) (fun _ _ _ h => h) (Or.inl ⟨by kernel_rfl, fun w hS => by have s0 := hS; go_simp⟩) hS ?_
    refine wpAnyH_take (i := 14) (v := (.pointer (some ⟨q, 10, none⟩))) rfl (by kernel_rfl) (by kernel_rfl) (by kernel_rfl) (fun _ _ _ h => h) (Or.inl ⟨by kernel_rfl, fun w hS => by have s0 := hS; go_simp⟩) hS ?_
    refine wpAnyH_ready (rs := [15]) (by kernel_rfl) (by simp) ?_
    refine AllReadyH.cons rfl (fun K hK => ?_) AllReadyH.nil
    go_simp
    refine hK.out _ _ k66 (fun hS => ?_)
    clear hK
    refine wpAnyH_done (by kernel_rfl) ?_ _
    clear hS
    go_simp
    go_wp2_with ((with_reducible refine wpl_wipe ?_ hwp ?_); rfl)
    (try simp only [Exit.inBlock, Exit.then])
    first | (refine bodyPost_ret (results_none rfl _ _ _) rfl ?_) | go_end0
    exact ⟨rfl, HF.out⟩
  · go_simp
    refine hK.out _ _ k64 (fun hS => ?_)
    clear hK
    refine wpAnyH_ready (rs := [4]) (by kernel_rfl) (by simp) ?_
    refine AllReadyH.cons rfl (fun K hK => ?_) AllReadyH.nil
    go_simp
    refine hK.out _ _ k64 (fun hS => ?_)
    clear hK
    refine wpAnyH_ready (rs := [12]) (by kernel_rfl) (by simp) ?_
    refine AllReadyH.cons rfl (fun K hK => ?_) AllReadyH.nil
    refine step_ifC rfl (wp_append_run (.tmp 8) (.tmp 15) 77 rfl _ _ (by kernel_rfl) (by kernel_rfl) hrun ?_)
    refine hK.out _ _ k65 (fun hS => ?_)
    clear hK
    refine wpAnyH_take (i := 13) (v := (.pointer (some ⟨q, 0, none⟩))) rfl (by kernel_rfl) (by kernel_rfl) (by kernel_rfl) (fun _ _ _ h => h) (Or.inl ⟨by kernel_rfl, fun w hS => by have s0 := hS; go_simp⟩) hS ?_
    refine wpAnyH_take (i := 14) (v := (.pointer (some ⟨q, 10, none⟩))) rfl (by kernel_rfl) (by kernel_rfl) (by kernel_rfl) (fun _ _ _ h => h) (Or.inl ⟨by kernel_rfl, fun w hS => by have s0 := hS; go_simp⟩) hS ?_
    refine wpAnyH_ready (rs := [15]) (by kernel_rfl) (by simp) ?_
    refine AllReadyH.cons rfl (fun K hK => ?_) AllReadyH.nil
    go_simp
    refine hK.out _ _ k66 (fun hS => ?_)
    clear hK
    refine wpAnyH_done (by kernel_rfl) ?_ _
    clear hS
    go_simp
    go_wp2_with ((with_reducible refine wpl_wipe ?_ hwp ?_); rfl)
    (try simp only [Exit.inBlock, Exit.then])
    first | (refine bodyPost_ret (results_none rfl _ _ _) rfl ?_) | go_end0
    exact ⟨rfl, HF.out⟩
-- END OF settle
end Go.Proofs.YtkgollfdbecncaaGreat
