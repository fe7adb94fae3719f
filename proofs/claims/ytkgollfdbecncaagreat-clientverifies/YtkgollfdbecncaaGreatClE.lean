/- What a reply is held against, how many are alike, and an answer that is kept. -/
import Derived.Test.YtkgollfdbecncaaGreatClC
import Derived.Deep.QuietTactic
import Derived.BigQuiet
import Derived.Deep.AppendLies
namespace Go.Proofs.YtkgollfdbecncaaGreat
open Go.RowKit
open Go.ChangeMaps (setBlock)
set_option linter.unusedSimpArgs false
set_option linter.unusedVariables false

variable {p b x y : Nat} {T : List ByteArray} {S : List (Int × ByteArray)} {q tm tc : Nat} {av : Value} {C : Cs} {w0 : World}

def Cs.awaits (C : Cs) (d : Bd) : Bool := decide (d.kind = 10 ∧ d.client = C.id ∧ d.stamp = C.stamp)
set_option maxHeartbeats 2000000 in
set_option maxRecDepth 100000 in
theorem awaits_calls (d : Bd) (lv : Value) (w : World) (h : St w0 w p b x y T S q tm tc av C) (hlv : ∃ a n c, lv = .slice a n c) : Calls Tryz.prog 58 #[.pointer (some ⟨q, 0, none⟩), d.val lv] w fun e w' => e = .returned (.bool (C.awaits d)) ∧ Below w.heap.size w w' := by
  obtain ⟨a0, n0, k0, rfl⟩ := hlv
  obtain ⟨W1, hW1, X1, B1⟩ : ∃ W1, w.alloc (.cells #[.int .i64 d.kind, .int .i64 d.view, .int .i64 d.seq, .int .i64 d.client, .int .i64 d.stamp, .string d.digest, .string d.text, .slice a0 n0 k0] 24) = W1 ∧ Blk W1 w.heap.size (d.cells (.slice a0 n0 k0)) 24 ∧ Below w.heap.size w W1 :=
    ⟨_, rfl, blk_new _ _ _ _ rfl, by go_grown⟩
  have H1 := h.keep B1
  have c0 : W1.cell? ⟨w.heap.size, 0, none⟩ = some (.int .i64 d.kind) := X1.cell rfl
  have c3 : W1.cell? ⟨w.heap.size, 3, none⟩ = some (.int .i64 d.client) := X1.cell rfl
  have c4 : W1.cell? ⟨w.heap.size, 4, none⟩ = some (.int .i64 d.stamp) := X1.cell rfl
  have q4 : W1.cell? ⟨q, 4, none⟩ = some (.int .i64 C.id) := H1.blk.cell rfl
  have q6 : W1.cell? ⟨q, 6, none⟩ = some (.int .i64 C.stamp) := H1.blk.cell rfl
  have HB : Hid _ := B1
  clear X1 H1 h B1
  unfold Bd.val
  by_cases k1 : d.kind = 10
  · have d1 : decide (d.kind = 10) = true := decide_eq_true k1
    have e1 : (d.kind == 10) = true := d1
    by_cases k2 : d.client = C.id
    · have d2 : decide (d.client = C.id) = true := decide_eq_true k2
      have e2 : (d.client == C.id) = true := d2
      by_cases k3 : d.stamp = C.stamp
      · have d3 : decide (d.stamp = C.stamp) = true := decide_eq_true k3
        have e3 : (d.stamp == C.stamp) = true := d3
        have HR : Hid (C.awaits d = true) := decide_eq_true ⟨k1, k2, k3⟩
        clear k1 k2 k3
        go_enter Tryz.func58, Tryz.ntmps58
        go_wp2_with fail
        go_quiet (fail)
        go_wp2
        go_ret
        exact ⟨by rw [HR.out]; rfl, below_drewN HB.out _⟩
      · have d3 : decide (d.stamp = C.stamp) = false := decide_eq_false k3
        have e3 : (d.stamp == C.stamp) = false := d3
        have HR : Hid (C.awaits d = false) := decide_eq_false fun h => k3 h.2.2
        clear k1 k2 k3
        go_enter Tryz.func58, Tryz.ntmps58
        go_wp2_with fail
        go_quiet (fail)
        go_wp2
        go_ret
        exact ⟨by rw [HR.out]; rfl, below_drewN HB.out _⟩
    · have d2 : decide (d.client = C.id) = false := decide_eq_false k2
      have e2 : (d.client == C.id) = false := d2
      have HR : Hid (C.awaits d = false) := decide_eq_false fun h => k2 h.2.1
      clear k1 k2
      go_enter Tryz.func58, Tryz.ntmps58
      go_wp2_with fail
      go_quiet (fail)
      go_wp2
      go_ret
      exact ⟨by rw [HR.out]; rfl, below_drewN HB.out _⟩
  · have d1 : decide (d.kind = 10) = false := decide_eq_false k1
    have e1 : (d.kind == 10) = false := d1
    have HR : Hid (C.awaits d = false) := decide_eq_false fun h => k1 h.1
    clear k1
    go_enter Tryz.func58, Tryz.ntmps58
    go_wp2_with fail
    go_quiet (fail)
    go_wp2
    go_ret
    exact ⟨by rw [HR.out]; rfl, below_drewN HB.out _⟩

set_option maxHeartbeats 2000000 in
set_option maxRecDepth 100000 in
theorem alike_calls (t : ByteArray) (w : World) (h : St w0 w p b x y T S q tm tc av C) (hl : C.told.length ≤ 100) : Calls Tryz.prog 59 #[.pointer (some ⟨q, 0, none⟩), .string t] w fun e w' => e = .returned (.int .i64 (alk C.told t : Int)) ∧ Below w.heap.size w w' := by
  have q9 : w.cell? ⟨q, 9, none⟩ = some (.map (some tm)) := h.blk.cell rfl
  have hm := h.map
  obtain ⟨l, hL⟩ : ∃ l, C.told = l := ⟨_, rfl⟩
  rw [hL] at hm hl ⊢
  have hbl : tm < w.heap.size := hm.lt
  have hrg : (Instr.range 112 (.map (some tm))).run Tryz.prog w = .ok (.pointer (some ⟨w.heap.size, 0, none⟩)) (w.alloc (.mapIter (some tm) (tc + l.length) #[] (tc + l.length))) :=
    run_range_map w 112 3 118 tm (entR l tc).toArray (tc + l.length) Tryz.underlying112 hm
  obtain ⟨W1, hW1, XI, B1, Z1⟩ : ∃ W1, (w.alloc (.mapIter (some tm) (tc + l.length) #[] (tc + l.length))) = W1 ∧ W1.heap[w.heap.size]? = some (.mapIter (some tm) (tc + l.length) #[] (tc + l.length)) ∧ Below w.heap.size w W1 ∧ W1.heap.size = w.heap.size + 1 :=
    ⟨_, rfl, heap_alloc_new _ _, by go_grown, by simp⟩
  rw [hW1] at hrg
  have HZ1 : Hid _ := Z1
  have Hm : Hid (RMap w tm l tc) := hm
  have Hl : Hid _ := hl
  clear Z1 h hm hL hl
  go_enter Tryz.func59, Tryz.ntmps59
  go_wp2_with fail
  go_loopw [5] (fun nv wr => ∃ (V : List Nat) (cc m : Nat), V.Nodup ∧ (∀ i ∈ V, i < l.length) ∧ tc + l.length ≤ cc ∧ Hid (m = seen l t V) ∧ nv = .int .i64 (m : Int) ∧ wr.heap[w.heap.size]? = some (.mapIter (some tm) (tc + l.length) (V.map (tc + ·)).toArray cc) ∧ Below w.heap.size w wr ∧ W1.heap.size ≤ wr.heap.size) (fun _ wr => l.length - (wr.iterSeen w.heap.size).size)
  case atStart => exact ⟨[], tc + l.length, 0, by simp, by simp, Nat.le_refl _, rfl, rfl, XI, B1, Nat.le_refl _⟩
  case round =>
    obtain ⟨V, cc, m, hV1, hV2, hcc, HM, rfl, hit, hb, hsz⟩ := hrel
    have hmr : RMap wr tm l tc := RMap.below Hm.out hb
    have hrr : w.heap.size < wr.heap.size := by have := HZ1.out; omega
    rcases next_rps (P := Tryz.prog) wr 0 w.heap.size tm tc cc V l hit hcc hmr with ⟨hall, hnx⟩ | ⟨i, x, hx, hiV, w1, hw1, hnx⟩
    · have HE : Hid (m = alk l t) := by show _ = _; rw [HM.out]; exact seen_all hV1 hV2 hall
      clear hall hcc hit hV1 hV2
      go_wp2
      go_ret
      exact ⟨by rw [← HE.out]; rfl, hb⟩
    · obtain ⟨xk, xt⟩ := x
      have hi2 : ∀ j ∈ V ++ [i], j < l.length := by
        intro z hz
        rcases List.mem_append.1 hz with h | h
        · exact hV2 z h
        · simp at h; subst h; exact (List.getElem?_eq_some_iff.1 hx).1
      have hnd2 : (V ++ [i]).Nodup := by rw [List.nodup_append]; exact ⟨hV1, by simp, by intro a ha b hb' e; simp at hb'; subst hb'; subst e; exact hiV ha⟩
      have hVl := nodup_short hnd2 hi2
      obtain ⟨W2, hW2, XI2, hO2, hZ2, hK2⟩ : ∃ W2, setBlock w1 w.heap.size (.mapIter (some tm) (tc + l.length) ((V ++ [i]).map (tc + ·)).toArray (tc + l.length)) = W2 ∧ W2.heap[w.heap.size]? = some (.mapIter (some tm) (tc + l.length) ((V ++ [i]).map (tc + ·)).toArray (tc + l.length)) ∧ Off w.heap.size wr W2 ∧ W2.heap.size = wr.heap.size ∧ ∀ k, k ≠ w.heap.size → W2.heap[k]? = wr.heap[k]? := by
        refine ⟨_, rfl, ?_, ?_, ?_, ?_⟩
        · rcases hw1 with rfl | rfl <;> exact setB_same _ hrr
        · rcases hw1 with rfl | rfl <;> exact ⟨rfl, rfl, rfl, by rw [setB_size]; exact Nat.le_refl _, fun k _ hk => setB_other _ (by omega)⟩
        · rcases hw1 with rfl | rfl <;> rw [setB_size] <;> rfl
        · rcases hw1 with rfl | rfl <;> exact fun k hk => setB_other _ (by omega)
      rw [hW2] at hnx
      have hnx' : (Instr.next (.pointer (some ⟨w.heap.size, 0, none⟩)) false 0).run Tryz.prog wr = .ok (.tuple #[.bool true, .int .i64 xk, .agg #[.string xt]]) W2 := hnx
      have hm2 : RMap W2 tm l tc := hmr.keep (hK2 tm (by omega))
      have hen : (Instr.entry (.pointer (some ⟨w.heap.size, 0, none⟩))).run Tryz.prog W2 = .ok (.tuple #[.int .i64 xk, .agg #[.string xt]]) W2 := entry_rps W2 w.heap.size tm tc i V l _ XI2 hm2 hx
      obtain ⟨W3, hW3, XV, B3, Z3⟩ : ∃ W3, (W2.alloc (.cells #[.string xt] 118)) = W3 ∧ Blk W3 W2.heap.size #[.string xt] 118 ∧ Below W2.heap.size W2 W3 ∧ W3.heap.size = W2.heap.size + 1 :=
        ⟨_, rfl, blk_new _ _ _ _ rfl, by go_grown, by simp⟩
      have v0 : W3.cell? ⟨W2.heap.size, 0, none⟩ = some (.string xt) := XV.cell rfl
      have b3 : Below w.heap.size w W3 := by
        have h1 : Below w.heap.size w W2 := hO2.below (Nat.le_refl _) hb (by omega)
        exact h1.trans (B3.mono (by omega))
      have XI3 : W3.heap[w.heap.size]? = some (.mapIter (some tm) (tc + l.length) ((V ++ [i]).map (tc + ·)).toArray (tc + l.length)) := (B3.block w.heap.size (by omega)).trans XI2
      have hsn := iterSeenR hit
      have HVl : Hid _ := hVl
      have HZ3 : Hid _ := Z3
      have HZ2 : Hid _ := hZ2
      have HXI3 : Hid _ := XI3
      have HI2 : Hid _ := hi2
      have HN2 : Hid _ := hnd2
      have HSN : Hid _ := hsn
      have hsl := seen_snoc l t V i (xk, xt) hx
      have HSL : Hid _ := hsl
      have hm100 : m ≤ 100 := by
        have h1 := HM.out
        have h2 := seen_le l t V
        have h3 := nodup_short hV1 hV2
        have := Hl.out
        omega
      have HSZ : Hid (W1.heap.size ≤ W3.heap.size) := by show _ ≤ _; omega
      have hdec : l.length - (W3.iterSeen w.heap.size).size < l.length - (wr.iterSeen w.heap.size).size := by
        rw [hsn, iterSeenR XI3]
        simp only [List.size_toArray, List.length_map, List.length_append, List.length_cons, List.length_nil] at hVl ⊢
        omega
      have HDE : Hid _ := hdec
      clear hVl Z3 hZ2 hnx hx hit XI3 hi2 hnd2 hsn hV1 hV2 hiV hw1 hW2 hK2 hcc hsl hdec hsz hrr XI2 hm2 hmr hO2
      have hq := strEq xt t
      by_cases he : xt = t
      · rw [decide_eq_true he] at hq
        have HX : Hid _ := he
        clear he
        go_wp2
        refine ⟨⟨V ++ [i], tc + l.length, m + 1, HN2.out, HI2.out, Nat.le_refl _, ?_, by norm_cast, HXI3.out, b3, HSZ.out⟩, HDE.out⟩
        show _ = _
        rw [HSL.out, if_pos HX.out, HM.out]
      · rw [decide_eq_false he] at hq
        have HX : Hid _ := he
        clear he
        go_wp2
        refine ⟨⟨V ++ [i], tc + l.length, m, HN2.out, HI2.out, Nat.le_refl _, ?_, rfl, HXI3.out, b3, HSZ.out⟩, HDE.out⟩
        show _ = _
        rw [HSL.out, if_neg HX.out, HM.out]
        rfl
end Go.Proofs.YtkgollfdbecncaaGreat
