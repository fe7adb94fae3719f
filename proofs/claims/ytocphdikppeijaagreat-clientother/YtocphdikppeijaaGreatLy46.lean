/- What a reply is held against, how many are alike, and an answer that is kept. -/
import Derived.Test.YtocphdikppeijaaGreatLy45
import Derived.Deep.QuietTactic
import Derived.BigQuiet
import Derived.Deep.AppendLies
namespace Go.Proofs.YtocphdikppeijaaGreat
open Go.RowKit
open Go.ChangeMaps (setBlock)
set_option linter.unusedSimpArgs false
set_option linter.unusedVariables false

variable {p b x y : Nat} {T : List ByteArray} {S : List (Int × ByteArray)} {q tm tc : Nat} {av : Value} {C : Cs} {w0 : World}

def Cs.awaits (C : Cs) (d : Bd) : Bool := decide (d.kind = 10 ∧ d.client = C.id ∧ d.stamp = C.stamp)
set_option maxHeartbeats 2000000 in
set_option maxRecDepth 100000 in
theorem awaits_calls (d : Bd) (lv : Value) (w : World) (h : St w0 w p b x y T S q tm tc av C) (hlv : ∃ a n c, lv = .slice a n c) : Calls Tryz.prog 53 #[.pointer (some ⟨q, 0, none⟩), d.val lv] w fun e w' => e = .returned (.bool (C.awaits d)) ∧ Below w.heap.size w w' := by
  obtain ⟨a0, n0, k0, rfl⟩ := hlv
  obtain ⟨W1, hW1, X1, B1⟩ : ∃ W1, w.alloc (.cells #[.int .i64 d.kind, .int .i64 d.view, .int .i64 d.seq, .int .i64 d.client, .int .i64 d.stamp, .string d.digest, .string d.text, .slice a0 n0 k0] 54) = W1 ∧ Blk W1 w.heap.size (d.cells (.slice a0 n0 k0)) 54 ∧ Below w.heap.size w W1 :=
    ⟨_, rfl, blk_new _ _ _ _ rfl, by go_grown⟩
  have H1 := h.keep B1
  have c0 : W1.cell? ⟨w.heap.size, 0, none⟩ = some (.int .i64 d.kind) := X1.cell rfl
  have c3 : W1.cell? ⟨w.heap.size, 3, none⟩ = some (.int .i64 d.client) := X1.cell rfl
  have c4 : W1.cell? ⟨w.heap.size, 4, none⟩ = some (.int .i64 d.stamp) := X1.cell rfl
  have q4 : W1.cell? ⟨q, 4, none⟩ = some (.int .i64 C.id) := H1.blk.cell rfl
  have q6 : W1.cell? ⟨q, 6, none⟩ = some (.int .i64 C.stamp) := H1.blk.cell rfl
  have HB : Hid _ := B1
  clear X1 H1 h B1
  unfold Bd.val
  by_cases k1 : d.kind = 10
  · have d1 : decide (d.kind = 10) = true := decide_eq_true k1
    have e1 : (d.kind == 10) = true := d1
    by_cases k2 : d.client = C.id
    · have d2 : decide (d.client = C.id) = true := decide_eq_true k2
      have e2 : (d.client == C.id) = true := d2
      by_cases k3 : d.stamp = C.stamp
      · have d3 : decide (d.stamp = C.stamp) = true := decide_eq_true k3
        have e3 : (d.stamp == C.stamp) = true := d3
        have HR : Hid (C.awaits d = true) := decide_eq_true ⟨k1, k2, k3⟩
        clear k1 k2 k3
        go_enter Tryz.func53, Tryz.ntmps53
        go_wp2_with fail
        go_quiet (fail)
        go_wp2
        go_ret
        exact ⟨by rw [HR.out]; rfl, below_drewN HB.out _⟩
      · have d3 : decide (d.stamp = C.stamp) = false := decide_eq_false k3
        have e3 : (d.stamp == C.stamp) = false := d3
        have HR : Hid (C.awaits d = false) := decide_eq_false fun h => k3 h.2.2
        clear k1 k2 k3
        go_enter Tryz.func53, Tryz.ntmps53
        go_wp2_with fail
        go_quiet (fail)
        go_wp2
        go_ret
        exact ⟨by rw [HR.out]; rfl, below_drewN HB.out _⟩
    · have d2 : decide (d.client = C.id) = false := decide_eq_false k2
      have e2 : (d.client == C.id) = false := d2
      have HR : Hid (C.awaits d = false) := decide_eq_false fun h => k2 h.2.1
      clear k1 k2
      go_enter Tryz.func53, Tryz.ntmps53
      go_wp2_with fail
      go_quiet (fail)
      go_wp2
      go_ret
      exact ⟨by rw [HR.out]; rfl, below_drewN HB.out _⟩
  · have d1 : decide (d.kind = 10) = false := decide_eq_false k1
    have e1 : (d.kind == 10) = false := d1
    have HR : Hid (C.awaits d = false) := decide_eq_false fun h => k1 h.1
    clear k1
    go_enter Tryz.func53, Tryz.ntmps53
    go_wp2_with fail
    go_quiet (fail)
    go_wp2
    go_ret
    exact ⟨by rw [HR.out]; rfl, below_drewN HB.out _⟩

set_option maxHeartbeats 2000000 in
set_option maxRecDepth 100000 in
theorem alike_calls (t : ByteArray) (w : World) (h : St w0 w p b x y T S q tm tc av C) (hl : C.told.length ≤ 100) : Calls Tryz.prog 54 #[.pointer (some ⟨q, 0, none⟩), .string t] w fun e w' => e = .returned (.int .i64 (alk C.told t : Int)) ∧ Below w.heap.size w w' := by
  have q9 : w.cell? ⟨q, 9, none⟩ = some (.map (some tm)) := h.blk.cell rfl
  have hm := h.map
  obtain ⟨l, hL⟩ : ∃ l, C.told = l := ⟨_, rfl⟩
  rw [hL] at hm hl ⊢
  have hbl : tm < w.heap.size := hm.lt
  have hrg : (Instr.range 120 (.map (some tm))).run Tryz.prog w = .ok (.pointer (some ⟨w.heap.size, 0, none⟩)) (w.alloc (.mapIter (some tm) (tc + l.length) #[] (tc + l.length))) :=
    run_range_map w 120 3 126 tm (entR l tc).toArray (tc + l.length) Tryz.underlying120 hm
  obtain ⟨W1, hW1, XI, B1, Z1⟩ : ∃ W1, (w.alloc (.mapIter (some tm) (tc + l.length) #[] (tc + l.length))) = W1 ∧ W1.heap[w.heap.size]? = some (.mapIter (some tm) (tc + l.length) #[] (tc + l.length)) ∧ Below w.heap.size w W1 ∧ W1.heap.size = w.heap.size + 1 :=
    ⟨_, rfl, heap_alloc_new _ _, by go_grown, by simp⟩
  rw [hW1] at hrg
  have HZ1 : Hid _ := Z1
  have Hm : Hid (RMap w tm l tc) := hm
  have Hl : Hid _ := hl
  clear Z1 h hm hL hl
  go_enter Tryz.func54, Tryz.ntmps54
  go_wp2_with fail
  go_loopw [5] (fun nv wr => ∃ (V : List Nat) (cc m : Nat), V.Nodup ∧ (∀ i ∈ V, i < l.length) ∧ tc + l.length ≤ cc ∧ Hid (m = seen l t V) ∧ nv = .int .i64 (m : Int) ∧ wr.heap[w.heap.size]? = some (.mapIter (some tm) (tc + l.length) (V.map (tc + ·)).toArray cc) ∧ Below w.heap.size w wr ∧ W1.heap.size ≤ wr.heap.size) (fun _ wr => l.length - (wr.iterSeen w.heap.size).size)
  case atStart => exact ⟨[], tc + l.length, 0, by simp, by simp, Nat.le_refl _, rfl, rfl, XI, B1, Nat.le_refl _⟩
  case round =>
    obtain ⟨V, cc, m, hV1, hV2, hcc, HM, rfl, hit, hb, hsz⟩ := hrel
    have hmr : RMap wr tm l tc := RMap.below Hm.out hb
    have hrr : w.heap.size < wr.heap.size := by have := HZ1.out; omega
    rcases next_rps (P := Tryz.prog) wr 0 w.heap.size tm tc cc V l hit hcc hmr with ⟨hall, hnx⟩ | ⟨i, x, hx, hiV, w1, hw1, hnx⟩
    · have HE : Hid (m = alk l t) := by show _ = _; rw [HM.out]; exact seen_all hV1 hV2 hall
      clear hall hcc hit hV1 hV2
      go_wp2
      go_ret
      exact ⟨by rw [← HE.out]; rfl, hb⟩
    · obtain ⟨xk, xt⟩ := x
      have hi2 : ∀ j ∈ V ++ [i], j < l.length := by
        intro z hz
        rcases List.mem_append.1 hz with h | h
        · exact hV2 z h
        · simp at h; subst h; exact (List.getElem?_eq_some_iff.1 hx).1
      have hnd2 : (V ++ [i]).Nodup := by rw [List.nodup_append]; exact ⟨hV1, by simp, by intro a ha b hb' e; simp at hb'; subst hb'; subst e; exact hiV ha⟩
      have hVl := nodup_short hnd2 hi2
      obtain ⟨W2, hW2, XI2, hO2, hZ2, hK2⟩ : ∃ W2, setBlock w1 w.heap.size (.mapIter (some tm) (tc + l.length) ((V ++ [i]).map (tc + ·)).toArray (tc + l.length)) = W2 ∧ W2.heap[w.heap.size]? = some (.mapIter (some tm) (tc + l.length) ((V ++ [i]).map (tc + ·)).toArray (tc + l.length)) ∧ Off w.heap.size wr W2 ∧ W2.heap.size = wr.heap.size ∧ ∀ k, k ≠ w.heap.size → W2.heap[k]? = wr.heap[k]? := by
        refine ⟨_, rfl, ?_, ?_, ?_, ?_⟩
        · rcases hw1 with rfl | rfl <;> exact setB_same _ hrr
        · rcases hw1 with rfl | rfl <;> exact ⟨rfl, rfl, rfl, by rw [setB_size]; exact Nat.le_refl _, fun k _ hk => setB_other _ (by omega)⟩
        · rcases hw1 with rfl | rfl <;> rw [setB_size] <;> rfl
        · rcases hw1 with rfl | rfl <;> exact fun k hk => setB_other _ (by omega)
      rw [hW2] at hnx
      have hnx' : (Instr.next (.pointer (some ⟨w.heap.size, 0, none⟩)) false 0).run Tryz.prog wr = .ok (.tuple #[.bool true, .int .i64 xk, .agg #[.string xt]]) W2 := hnx
      have hm2 : RMap W2 tm l tc := hmr.keep (hK2 tm (by omega))
      have hen : (Instr.entry (.pointer (some ⟨w.heap.size, 0, none⟩))).run Tryz.prog W2 = .ok (.tuple #[.int .i64 xk, .agg #[.string xt]]) W2 := entry_rps W2 w.heap.size tm tc i V l _ XI2 hm2 hx
      obtain ⟨W3, hW3, XV, B3, Z3⟩ : ∃ W3, (W2.alloc (.cells #[.string xt] 126)) = W3 ∧ Blk W3 W2.heap.size #[.string xt] 126 ∧ Below W2.heap.size W2 W3 ∧ W3.heap.size = W2.heap.size + 1 :=
        ⟨_, rfl, blk_new _ _ _ _ rfl, by go_grown, by simp⟩
      have v0 : W3.cell? ⟨W2.heap.size, 0, none⟩ = some (.string xt) := XV.cell rfl
      have b3 : Below w.heap.size w W3 := by
        have h1 : Below w.heap.size w W2 := hO2.below (Nat.le_refl _) hb (by omega)
        exact h1.trans (B3.mono (by omega))
      have XI3 : W3.heap[w.heap.size]? = some (.mapIter (some tm) (tc + l.length) ((V ++ [i]).map (tc + ·)).toArray (tc + l.length)) := (B3.block w.heap.size (by omega)).trans XI2
      have hsn := iterSeenR hit
      have HVl : Hid _ := hVl
      have HZ3 : Hid _ := Z3
      have HZ2 : Hid _ := hZ2
      have HXI3 : Hid _ := XI3
      have HI2 : Hid _ := hi2
      have HN2 : Hid _ := hnd2
      have HSN : Hid _ := hsn
      have hsl := seen_snoc l t V i (xk, xt) hx
      have HSL : Hid _ := hsl
      have hm100 : m ≤ 100 := by
        have h1 := HM.out
        have h2 := seen_le l t V
        have h3 := nodup_short hV1 hV2
        have := Hl.out
        omega
      have HSZ : Hid (W1.heap.size ≤ W3.heap.size) := by show _ ≤ _; omega
      have hdec : l.length - (W3.iterSeen w.heap.size).size < l.length - (wr.iterSeen w.heap.size).size := by
        rw [hsn, iterSeenR XI3]
        simp only [List.size_toArray, List.length_map, List.length_append, List.length_cons, List.length_nil] at hVl ⊢
        omega
      have HDE : Hid _ := hdec
      clear hVl Z3 hZ2 hnx hx hit XI3 hi2 hnd2 hsn hV1 hV2 hiV hw1 hW2 hK2 hcc hsl hdec hsz hrr XI2 hm2 hmr hO2
      have hq := strEq xt t
      by_cases he : xt = t
      · rw [decide_eq_true he] at hq
        have HX : Hid _ := he
        clear he
        go_wp2
        refine ⟨⟨V ++ [i], tc + l.length, m + 1, HN2.out, HI2.out, Nat.le_refl _, ?_, by norm_cast, HXI3.out, b3, HSZ.out⟩, HDE.out⟩
        show _ = _
        rw [HSL.out, if_pos HX.out, HM.out]
      · rw [decide_eq_false he] at hq
        have HX : Hid _ := he
        clear he
        go_wp2
        refine ⟨⟨V ++ [i], tc + l.length, m, HN2.out, HI2.out, Nat.le_refl _, ?_, rfl, HXI3.out, b3, HSZ.out⟩, HDE.out⟩
        show _ = _
        rw [HSL.out, if_neg HX.out, HM.out]
        rfl
end Go.Proofs.YtocphdikppeijaaGreat

namespace Go.Proofs.YtocphdikppeijaaGreat
open Go.RowKit
open Go.ChangeMaps (setBlock)
set_option linter.unusedSimpArgs false
set_option linter.unusedVariables false

variable {p b x y : Nat} {T : List ByteArray} {S : List (Int × ByteArray)} {q tm tc : Nat} {av : Value} {C : Cs} {w0 : World}
theorem infoAn : (Tryz.prog.info? 82).map (fun i => (i.zero, i.size, i.bytes)) = some (some (.agg #[.int .i64 0, .string ⟨#[]⟩]), 2, 24) := by kernel_rfl
/-- The step at an append whose run is known. -/
theorem wp_append_run {P : Program} {w : World} {o : Oper} {a : Act} {K : Act → World → Prop} {Q : Exit → Act → World → Prop} (s x : Operand) (t : TypeId)
    (ho : o.op = .call { callee := .builtin .append, args := #[s, x], argTypes := #[t, t] }) (v u : Value) (hs : a.eval s = v) (hx : a.eval x = u) {v' : Value} {w' : World}
    (hr : (Builtin.append_ #[t, t] o.type #[v, u]).run P w = .ok v' w') (h : K (a.put o.dst v') w') : o.wp P a w K Q := by
  unfold Oper.wp execOp
  simp only [ho, resolve, invoke, builtin, Sem.run_bind, Sem.run_pure, Result.andThen_ok, List.map_toArray, List.map_cons, List.map_nil, hs, hx, hr]
  exact h
/-- The step at a clearing whose run is known. -/
theorem wpl_wipe {P : Program} {ops : Array Oper} {rest : List Oper} {type : TypeId} {pos : String} {after : Array Edge} {a : Act} {w w' : World} {Q : Exit → Act → World → Prop} {s : Operand} {t : TypeId} {v : Value}
    (hs : a.eval s = v) (hr : (Builtin.clear_ #[t] type #[v]).run P w = .ok (.tuple #[]) w') (h : wpList P ops Q rest a w') :
    wpList P ops Q ({ dst := none, op := .call { callee := .builtin .clear, args := #[s], argTypes := #[t] }, type := type, pos := pos, after := after, guard := none } :: rest) a w :=
  wpList_plain rfl fun K hK => by
    unfold Oper.wp execOp
    simp only [resolve, invoke, builtin, Sem.run_bind, Sem.run_pure, Result.andThen_ok, List.map_toArray, List.map_cons, List.map_nil, hs, hr]
    exact hK _ _ h
/-- One more answer in the row. -/
theorem St.answer {w : World} (h : St w0 w p b x y T S q tm tc av C) (hl : C.ans.length < 1000000) (t : ByteArray) :
    ∃ W4, w.drew.alloc (.cells #[.int .i64 C.stamp, .string t] 82) = W4 ∧ ∃ av' W5, (∃ g n c, av' = .slice g n c) ∧ (Builtin.append_ #[79, 79] 79 #[av, .slice (some ⟨w.heap.size, 0, none⟩) 1 1]).run Tryz.prog W4 = .ok av' W5 ∧ Blk W4 q (clC C p tm av) 122 ∧ Blk W5 q (clC C p tm av) 122 ∧ ∃ W6, W5.setCell ⟨q, 10, none⟩ av' = W6 ∧ St w0 W6 p b x y T S q tm tc av' { C with ans := C.ans ++ [(C.stamp, t)] } ∧ Kpt av w W6 ∧ Frs av av' w := by
  obtain ⟨i0, hi, hz0, hz1, hz2⟩ := info_parts infoAn
  obtain ⟨W4, hW4, X4, B4, Z4⟩ : ∃ W4, w.drew.alloc (.cells #[.int .i64 C.stamp, .string t] 82) = W4 ∧ Blk W4 w.heap.size #[.int .i64 C.stamp, .string t] 82 ∧ Below w.heap.size w W4 ∧ W4.heap.size = w.heap.size + 1 :=
    ⟨_, rfl, blk_new _ _ _ _ rfl, by go_grown, by simp⟩
  have H4 := h.keep B4
  have hlw := h.low
  have hz0w := h.below.size
  obtain ⟨g, cap', W5, hrun, own5, grow5, at5, lt5⟩ := run_append_lies (P := Tryz.prog) W4 79 79 w0.heap.size 82 i0 (.agg #[.int .i64 0, .string ⟨#[]⟩]) 2 24 Tryz.underlying79 hi hz0 hz1 hz2 rfl (by decide) av C.ans.length (anC C.ans) H4.row ⟨w.heap.size, 0, none⟩ 1 1 [.int .i64 C.stamp, .string t] rfl
    (by intro j u hj; rw [Addr.add_lit, Nat.zero_add]; exact X4.cell (by simpa using hj)) (by simp [Value.oneCell']) (by decide) (by unfold maxLen; omega) (by omega) (by omega) (w.heap.size + 1) Z4
  refine ⟨W4, hW4, .slice (some ⟨g, 0, none⟩) (C.ans.length + 1) cap', W5, ⟨_, _, _, rfl⟩, hrun, H4.blk, ?_⟩
  have hq4 : q < W4.heap.size := H4.blk.lt
  have naq : av.ownBlock ≠ some q := H4.apart H4.blk (fun cur e => by cases e)
  have P5 : Blk W5 q (clC C p tm av) 122 := (grow5.block q hq4 (fun e => naq e.symm)).trans H4.blk
  refine ⟨P5, _, rfl, ?_⟩
  have G : ∀ (k : Nat) (o : Obj), W4.heap[k]? = some o → av.ownBlock ≠ some k → k ≠ q → (W5.setCell ⟨q, 10, none⟩ (.slice (some ⟨g, 0, none⟩) (C.ans.length + 1) cap')).heap[k]? = some o := fun k o ho hne hk => by
    rw [heap_setCell_other W5 ⟨q, 10, none⟩ k _ hk]
    exact (grow5.block k (lt_of_heap ho) (fun e => hne e.symm)).trans ho
  have hgq : g ≠ q := by
    rcases at5 with e | e
    · intro f; rw [f] at e; exact naq e
    · omega
  have z5 := grow5.size
  refine ⟨⟨⟨?_, ?_, ?_, ?_, ?_⟩, ⟨G _ _ H4.book.blk (H4.apart H4.book.blk (fun cur e => by cases e)) (Ne.symm h.qp), G _ _ H4.book.nums.blk (H4.apart H4.book.nums.blk (fun cur e => by cases e)) (Ne.symm h.qb), G _ _ H4.book.nums.mx (H4.apart H4.book.nums.mx (fun cur e => by cases e)) (Ne.symm h.qx), G _ _ H4.book.nums.my (H4.apart H4.book.nums.my (fun cur e => by cases e)) (Ne.symm h.qy), h.book.nums.ne⟩, P5.set 10 _, G _ _ H4.map (H4.apart H4.map (fun cur e => by cases e)) (h.map.blk h.blk), ?_, h.low, h.nx, h.ny⟩, ⟨?_, fun k cs u h1 h2 X => ?_⟩, ?_⟩
  · exact grow5.os.trans H4.below.os
  · exact grow5.tape.trans H4.below.tape
  · exact grow5.output.trans H4.below.output
  · rw [World.size_setCell]; exact Nat.le_trans H4.below.size z5
  · intro k hk
    rw [heap_setCell_other W5 ⟨q, 10, none⟩ k _ (by show k ≠ q; omega)]
    exact (grow5.block k (by omega) (fun e => by have := (H4.row.lt k e.symm).1; omega)).trans (H4.below.block k hk)
  · have e1 : (C.ans ++ [(C.stamp, t)]).length = C.ans.length + 1 := by simp
    show World.ownsRow _ _ _ _ _ (C.ans ++ [(C.stamp, t)]).length (anC (C.ans ++ [(C.stamp, t)]))
    rw [e1, anC_snoc]
    exact own5.kept (row := some q) ⟨rfl, rfl, rfl, by rw [World.size_setCell]; exact Nat.le_refl _, fun k hk hkp => Below.heap_setCell _ _ _ _ (by intro e; exact hkp (by rw [e]))⟩ (Or.inr (by simpa [Value.ownBlock] using hgq))
  · rw [World.size_setCell]; omega
  · refine G k _ (X.below B4) h2 (fun e => ?_)
    have Y := h.blk
    unfold Blk at X Y
    rw [e, Y] at X
    exact h1 (by simpa using (Obj.cells.inj (Option.some.inj X)).2.1.symm)
  · rcases at5 with e | e
    · left; rw [e]; rfl
    · right
      intro k hk
      simp only [Value.ownBlock, Option.some.injEq] at hk
      omega
def Cs.settle (C : Cs) (t : ByteArray) : Cs := { C with told := [], asked := ⟨#[]⟩, ans := C.ans ++ [(C.stamp, t)] }
/-- The map behind its clearing. -/
theorem St.wipe {w : World} {C' : Cs} (h : St w0 w p b x y T S q tm tc av C) (hC : C' = { C with told := [] }) : ∃ W, setBlock w tm (.map #[] (tc + C.told.length)) = W ∧ St w0 W p b x y T S q tm (tc + C.told.length) av C' ∧ ∀ v1 w1, Kpt v1 w1 w → Kpt v1 w1 W := by
  subst hC
  have hq := h.low
  have G : ∀ k, tm ≠ k → (setBlock w tm (.map #[] (tc + C.told.length))).heap[k]? = w.heap[k]? := fun k hk => setB_other _ hk
  have nb : ∀ (k : Nat) (cs : Array Value) (t : TypeId), Blk w k cs t → tm ≠ k := fun k cs t X => h.map.blk X
  refine ⟨_, rfl, ⟨⟨h.below.os, h.below.tape, h.below.output, by rw [setB_size]; exact h.below.size, fun j hj => (G j (by omega)).trans (h.below.block j hj)⟩, ⟨(G p (nb _ _ _ h.book.blk)).trans h.book.blk, (G b (nb _ _ _ h.book.nums.blk)).trans h.book.nums.blk, (G x h.nx).trans h.book.nums.mx, (G y h.ny).trans h.book.nums.my, h.book.nums.ne⟩, (G q (nb _ _ _ h.blk)).trans h.blk, setB_same _ h.map.lt, ?_, h.low, h.nx, h.ny⟩, fun v1 w1 hk => ⟨by rw [setB_size]; exact hk.size, fun k cs t h1 h2 X => (G k (nb _ _ _ (hk.blk k cs t h1 h2 X))).trans (hk.blk k cs t h1 h2 X)⟩⟩
  refine ⟨h.row.1, ?_⟩
  rcases h.row.2 with hn | ⟨g, cap, cur, rfl, hb, hgg, rest⟩
  · exact Or.inl hn
  · refine Or.inr ⟨g, cap, cur, rfl, hb, ?_, rest⟩
    rw [G g (fun e => by have X := h.map; unfold RMap at X; rw [e, hgg] at X; cases X)]
    exact hgg
set_option maxHeartbeats 2000000 in
set_option maxRecDepth 100000 in
theorem settle_calls (t : ByteArray) (w : World) (h : St w0 w p b x y T S q tm tc av C) (hl : C.ans.length < 1000000) : Calls Tryz.prog 55 #[.pointer (some ⟨q, 0, none⟩), .string t] w fun e w' => e = .returned (.tuple #[]) ∧ ∃ tc' av', St w0 w' p b x y T S q tm tc' av' (C.settle t) ∧ Kpt av w w' ∧ Frs av av' w := by
  have c6 : w.drew.cell? ⟨q, 6, none⟩ = some (.int .i64 C.stamp) := h.blk.cell rfl
  have c10 : w.drew.cell? ⟨q, 10, none⟩ = some av := h.blk.cell rfl
  obtain ⟨W4, hW4, av', W5, ⟨ga, na, ca, rfl⟩, hrun, X4, X5, W6, hW6, H6, k6, fr6⟩ := h.answer hl t
  have k64 : W4.cell? ⟨q, 6, none⟩ = some (.int .i64 C.stamp) := X4.cell rfl
  have k104 : W4.cell? ⟨q, 10, none⟩ = some av := X4.cell rfl
  have k65 : W5.cell? ⟨q, 6, none⟩ = some (.int .i64 C.stamp) := X5.cell rfl
  have k105 : W5.cell? ⟨q, 10, none⟩ = some av := X5.cell rfl
  have f105 : W5.frozen? ⟨q, 10, none⟩ = false := X5.frozen
  have k66 : W6.cell? ⟨q, 6, none⟩ = some (.int .i64 C.stamp) := H6.blk.cell rfl
  have k76 : W6.cell? ⟨q, 7, none⟩ = some (.string C.asked) := H6.blk.cell rfl
  have f76 : W6.frozen? ⟨q, 7, none⟩ = false := H6.blk.frozen
  obtain ⟨W7, hW7, H7, k7⟩ := put_named (C' := { C with ans := C.ans ++ [(C.stamp, t)], asked := ⟨#[]⟩ }) H6 7 (.string ⟨#[]⟩) rfl rfl rfl
  have k97 : W7.cell? ⟨q, 9, none⟩ = some (.map (some tm)) := H7.blk.cell rfl
  obtain ⟨W8, hW8, H8, k8⟩ := H7.wipe (C' := C.settle t) rfl
  have hwp : (Builtin.clear_ #[120] 0 #[.map (some tm)]).run Tryz.prog W7 = .ok (.tuple #[]) W8 := by
    have := run_wipe (P := Tryz.prog) (ty := 0) (w := W7) (b := tm) (c := tc) (l := C.told) Tryz.underlying120 H7.map
    rw [this]
    exact congrArg _ hW8
  obtain ⟨ab, an, ac, hav⟩ : ∃ ab an ac, av = .slice ab an ac := by
    rcases h.row.2 with ⟨rfl, _⟩ | ⟨g, cap, cur, rfl, _⟩
    · exact ⟨_, _, _, rfl⟩
    · exact ⟨_, _, _, rfl⟩
  have HF : Hid (∃ tc' av', St w0 W8 p b x y T S q tm tc' av' (C.settle t) ∧ Kpt av w W8 ∧ Frs av av' w) := ⟨_, _, H8, k8 _ _ (k7 _ _ k6), fr6⟩
  clear H6 H7 H8 k6 k7 k8 fr6 hW8 X4 X5 h
  subst hav
  go_enter Tryz.func55, Tryz.ntmps55
  go_wp2_with fail
  -- HEAD OF settle
  refine wp_region_held_drew (S := (fun wx => wx.cell? ⟨q, 6, none⟩ = some (.int .i64 C.stamp))) (by kernel_rfl) c6 (fun hS => ?_)
  refine wpAnyH_take (i := 0) (v := (.pointer (some ⟨q, 0, none⟩))) rfl (by kernel_rfl) (by kernel_rfl) (by kernel_rfl) (fun _ _ _ h => h) (Or.inl ⟨by kernel_rfl, fun w hS => by have s0 := hS; go_simp⟩) hS ?_
  refine wpAnyH_take (i := 1) (v := (.pointer (some ⟨q, 0, none⟩))) rfl (by kernel_rfl) (by kernel_rfl) (by kernel_rfl) (fun _ _ _ h => h) (Or.inl ⟨by kernel_rfl, fun w hS => by have s0 := hS; go_simp⟩) hS ?_
  refine wpAnyH_take (i := 2) (v := (.pointer (some ⟨q, 0, none⟩))) rfl (by kernel_rfl) (by kernel_rfl) (by kernel_rfl) (fun _ _ _ h => h) (Or.inl ⟨by kernel_rfl, fun w hS => by have s0 := hS; go_simp⟩) hS ?_
  refine wpAnyH_take (i := 3) (v := (.pointer (some ⟨q, 10, none⟩))) rfl (by kernel_rfl) (by kernel_rfl) (by kernel_rfl) (fun _ _ _ h => h) (Or.inl ⟨by kernel_rfl, fun w hS => by have s0 := hS; go_simp⟩) hS ?_
  refine wpAnyH_take (i := 5) (v := (.pointer (some ⟨q, 0, none⟩))) rfl (by kernel_rfl) (by kernel_rfl) (by kernel_rfl) (fun _ _ _ h => h) (Or.inl ⟨by kernel_rfl, fun w hS => by have s0 := hS; go_simp⟩) hS ?_
  refine wpAnyH_take (i := 6) (v := (.pointer (some ⟨q, 0, none⟩))) rfl (by kernel_rfl) (by kernel_rfl) (by kernel_rfl) (fun _ _ _ h => h) (Or.inl ⟨by kernel_rfl, fun w hS => by have s0 := hS; go_simp⟩) hS ?_
  refine wpAnyH_take (i := 7) (v := (.pointer (some ⟨q, 6, none⟩))) rfl (by kernel_rfl) (by kernel_rfl) (by kernel_rfl) (fun _ _ _ h => h) (Or.inl ⟨by kernel_rfl, fun w hS => by have s0 := hS; go_simp⟩) hS ?_
  refine wpAnyH_take (i := 8) (v := (.int .i64 C.stamp)) rfl (by kernel_rfl) (by kernel_rfl) (by kernel_rfl) (fun _ _ _ h => h) (Or.inl ⟨by kernel_rfl, fun w hS => by have s0 := hS; go_simp⟩) hS ?_
  refine wpAnyH_take (i := 9) (v := (.string t)) rfl (by kernel_rfl) (by kernel_rfl) (by kernel_rfl) (fun _ _ _ h => h) (Or.inl ⟨by kernel_rfl, fun w hS => by have s0 := hS; go_simp⟩) hS ?_
  refine wpAnyH_take (i := 10) (v := (.agg #[.int .i64 C.stamp, .string t])) rfl (by kernel_rfl) (by kernel_rfl) (by kernel_rfl) (fun _ _ _ h => h) (Or.inl ⟨by kernel_rfl, fun w hS => by have s0 := hS; go_simp⟩) hS ?_
  refine wpAnyH_ready (rs := [4, 11]) (by kernel_rfl) (by simp) ?_
  refine AllReadyH.cons rfl (fun K hK => ?_) (AllReadyH.cons rfl (fun K hK => ?_) AllReadyH.nil)
  · go_simp
    refine hK.out _ _ c6 (fun hS => ?_)
    clear hK
    refine wpAnyH_ready (rs := [11]) (by kernel_rfl) (by simp) ?_
    refine AllReadyH.cons rfl (fun K hK => ?_) AllReadyH.nil
    go_simp
    refine hK.out _ _ k64 (fun hS => ?_)
    clear hK
    refine wpAnyH_ready (rs := [12]) (by kernel_rfl) (by simp) ?_
    refine AllReadyH.cons rfl (fun K hK => ?_) AllReadyH.nil
    refine step_ifC rfl (wp_append_run (.tmp 8) (.tmp 15) 79 rfl _ _ (by kernel_rfl) (by kernel_rfl) hrun ?_)
    refine hK.out _ _ k65 (fun hS => ?_)
    clear hK
    refine wpAnyH_take (i := 13) (v := (.pointer (some ⟨q, 0, none⟩))) rfl (by kernel_rfl) (by kernel_rfl) (by kernel_rfl) (fun _ _ _ h => h) (Or.inl ⟨by kernel_rfl, fun w hS => by have s0 := hS; go_simp⟩) hS ?_
    refine wpAnyH_take (i := 14) (v := (.pointer (some ⟨q, 10, none⟩))) rfl (by kernel_rfl) (by kernel_rfl) (by kernel_rfl) (fun _ _ _ h => h) (Or.inl ⟨by kernel_rfl, fun w hS => by have s0 := hS; go_simp⟩) hS ?_
    refine wpAnyH_ready (rs := [15]) (by kernel_rfl) (by simp) ?_
    refine AllReadyH.cons rfl (fun K hK => ?_) AllReadyH.nil
    go_simp
    refine hK.out _ _ k66 (fun hS => ?_)
    clear hK
    refine wpAnyH_done (by kernel_rfl) ?_ _
    clear hS
    go_simp
    go_wp2_with ((with_reducible refine wpl_wipe ?_ hwp ?_); rfl)
    (try simp only [Exit.inBlock, Exit.then])
    first | (refine bodyPost_ret (results_none rfl _ _ _) rfl ?_) | go_end0
    exact ⟨rfl, HF.out⟩
  · go_simp
    refine hK.out _ _ k64 (fun hS => ?_)
    clear hK
    refine wpAnyH_ready (rs := [4]) (by kernel_rfl) (by simp) ?_
    refine AllReadyH.cons rfl (fun K hK => ?_) AllReadyH.nil
    go_simp
    refine hK.out _ _ k64 (fun hS => ?_)
    clear hK
    refine wpAnyH_ready (rs := [12]) (by kernel_rfl) (by simp) ?_
    refine AllReadyH.cons rfl (fun K hK => ?_) AllReadyH.nil
    refine step_ifC rfl (wp_append_run (.tmp 8) (.tmp 15) 79 rfl _ _ (by kernel_rfl) (by kernel_rfl) hrun ?_)
    refine hK.out _ _ k65 (fun hS => ?_)
    clear hK
    refine wpAnyH_take (i := 13) (v := (.pointer (some ⟨q, 0, none⟩))) rfl (by kernel_rfl) (by kernel_rfl) (by kernel_rfl) (fun _ _ _ h => h) (Or.inl ⟨by kernel_rfl, fun w hS => by have s0 := hS; go_simp⟩) hS ?_
    refine wpAnyH_take (i := 14) (v := (.pointer (some ⟨q, 10, none⟩))) rfl (by kernel_rfl) (by kernel_rfl) (by kernel_rfl) (fun _ _ _ h => h) (Or.inl ⟨by kernel_rfl, fun w hS => by have s0 := hS; go_simp⟩) hS ?_
    refine wpAnyH_ready (rs := [15]) (by kernel_rfl) (by simp) ?_
    refine AllReadyH.cons rfl (fun K hK => ?_) AllReadyH.nil
    go_simp
    refine hK.out _ _ k66 (fun hS => ?_)
    clear hK
    refine wpAnyH_done (by kernel_rfl) ?_ _
    clear hS
    go_simp
    go_wp2_with ((with_reducible refine wpl_wipe ?_ hwp ?_); rfl)
    (try simp only [Exit.inBlock, Exit.then])
    first | (refine bodyPost_ret (results_none rfl _ _ _) rfl ?_) | go_end0
    exact ⟨rfl, HF.out⟩
-- END OF settle
end Go.Proofs.YtocphdikppeijaaGreat
