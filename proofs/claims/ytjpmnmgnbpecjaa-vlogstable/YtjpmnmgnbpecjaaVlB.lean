/- alike; quorum. -/
import Derived.Test.YtjpmnmgnbpecjaaVlA
namespace Go.Proofs.Ytjpmnmgnbpecjaa
open Go.Shelf Go.RowKit Go.Lib Go.Sort
open Go.ChangeMaps (setBlock)
set_option linter.unusedSimpArgs false
set_option linter.unusedVariables false

theorem below_grown {B : Nat} {z w w' : World} {row : Option Nat} (h : Below B z w) (hg : w.grownBy w' row) (hr : ∀ k, row = some k → B ≤ k) (hbs : B ≤ w.heap.size) : Below B z w' :=
  h.trans ⟨hg.os, hg.tape, hg.output, hg.size, fun k hk => hg.block k (by omega) fun e => by have := hr k e.symm; omega⟩
theorem infoS : (Try.prog.info? 38).map (fun i => (i.zero, i.size, i.bytes)) = some (some (.agg #[.int .i64 0, .string ⟨#[]⟩, .string ⟨#[]⟩]), 3, 40) := by kernel_rfl

set_option maxHeartbeats 4000000 in
set_option maxRecDepth 100000 in
theorem alike_some (n b : Nat) (l : Vts) (c0 : Int) (c1 : ByteArray) (w : World) (hm : MapAt w (some b) l) (hv : VOk n l) (hn : n ≤ 13) :
    Calls Try.prog 46 #[.map (some b), .agg #[.int .i64 c0, .string c1]] w fun e w' => ∃ v, e = .returned v ∧ w'.ownsRow w.heap.size 38 3 v (alk n l (c0, c1)).length (sL (alk n l (c0, c1))) ∧ Below w.heap.size w w' := by
  obtain ⟨iS, hS, hS0, hS1, hS2⟩ := info_parts infoS
  have hln := hv.len
  obtain ⟨W0, hW0, XC, B0, Z0⟩ : ∃ W0, (w.alloc (.cells #[.int .i64 c0, .string c1] 59)) = W0 ∧ Blk W0 w.heap.size #[.int .i64 c0, .string c1] 59 ∧ Below w.heap.size w W0 ∧ W0.heap.size = w.heap.size + 1 :=
    ⟨_, rfl, blk_new _ _ _ _ rfl, by go_grown, by simp⟩
  have hm0 := hm.below B0
  have hrg : (Instr.range 61 (.map (some b))).run Try.prog W0 = .ok (.pointer (some ⟨W0.heap.size, 0, none⟩)) (W0.alloc (.mapIter (some b) l.length #[] l.length)) :=
    run_range_map W0 61 3 82 b (ents l) l.length Try.underlying61 hm0
  obtain ⟨W1, hW1, XI, B1, Z1⟩ : ∃ W1, (W0.alloc (.mapIter (some b) l.length #[] l.length)) = W1 ∧ W1.heap[W0.heap.size]? = some (.mapIter (some b) l.length #[] l.length) ∧ Below W0.heap.size W0 W1 ∧ W1.heap.size = W0.heap.size + 1 :=
    ⟨_, rfl, heap_alloc_new _ _, by go_grown, by simp⟩
  rw [hW1] at hrg
  have HZ0 : Hid _ := Z0
  have HZ1 : Hid _ := Z1
  have hwl : w.heap.size < W0.heap.size := by omega
  have hbl : b < w.heap.size := hm.lt
  have Hm0 : Hid _ := hm0
  have Hv : Hid _ := hv
  clear Z0 Z1 hm hm0 hv hln
  have Hln : Hid (l.length ≤ 13) := by have := VOk.len (n := n) (l := l) Hv.out; show _ ≤ _; omega
  go_enter Try.func46, Try.ntmps46
  go_wp2_with fail
  go_loopw [5] (fun ov wr => ∃ (V : List Nat) (cc : Nat), V.Nodup ∧ (∀ i ∈ V, i < l.length) ∧ l.length ≤ cc ∧ wr.heap[W0.heap.size]? = some (.mapIter (some b) l.length V.toArray cc) ∧ Hid (wr.ownsRow W1.heap.size 38 3 ov (outs l (c0, c1) V).length (sL (outs l (c0, c1) V))) ∧ Below W0.heap.size W0 wr ∧ W1.heap.size ≤ wr.heap.size) (fun _ wr => l.length - (wr.iterSeen W0.heap.size).size)
  case atStart => exact ⟨[], l.length, by simp, by simp, Nat.le_refl _, XI, World.ownsRow_nil _ _ _ _, B1, Nat.le_refl _⟩
  case round =>
    obtain ⟨V, cc, hV1, hV2, hcc, hit, HO, hb, hsz⟩ := hrel
    have hmr := MapAt.below (show MapAt W0 (some b) l from Hm0.out) hb
    have hrr : W0.heap.size < wr.heap.size := by have := HZ1.out; omega
    rcases next_vts (P := Try.prog) wr 0 W0.heap.size b cc V l hit hcc hmr with ⟨hall, hnx⟩ | ⟨i, x, hx, hiV, w1, hw1, hnx⟩
    · have HA : Hid _ := hall
      have hon := outs_nodup (c := (c0, c1)) Hv.out V hV1
      have HS : Hid _ := sort_calls W1.heap.size u5 (outs l (c0, c1) V) wr HO.out hon (by have h1 := outs_len l (c0, c1) V; have h2 := nodup_len hV1 hV2; have := Hln.out; omega)
      have HU : Hid (∀ r, u5.ownBlock = some r → W1.heap.size ≤ r) := fun r hr => (HO.out.lt r hr).1
      clear hall hcc hit hV1 hV2 hon
      go_wp2_with fail
      refine Calls.mono HS.out ?_
      rintro e w2 ⟨rfl, l', hr', hmem, hlen, hown, hno, hof⟩
      have e1 : l' = alk n l (c0, c1) := rising_eq _ _ hr' (alk_rises Hv.out) fun m => by rw [hmem, outs_mem HA.out, mem_alk Hv.out]
      have b2 : Below w.heap.size w w2 := by
        have hb0 : Below w.heap.size w wr := B0.trans (hb.mono (by omega))
        cases hu : u5.ownBlock with
        | none => rw [hno hu]; exact hb0
        | some r => exact (hof r hu).below (by have := HU.out r hu; have := HZ1.out; omega) hb0 (by omega)
      have HOW : Hid (w2.ownsRow w.heap.size 38 3 u5 (alk n l (c0, c1)).length (sL (alk n l (c0, c1)))) := by
        rw [← e1, hlen]; exact own_base hown (by have := HZ1.out; omega)
      clear hown hno hof hmem hr' hlen
      go_wp2
      go_ret
      exact ⟨_, rfl, HOW.out, b2⟩
    · obtain ⟨xk, xs, xd, xm0, xm1, xm2⟩ := x
      have hi2 : ∀ j ∈ V ++ [i], j < l.length := by
        intro z hz
        rcases List.mem_append.1 hz with h | h
        · exact hV2 z h
        · simp at h; subst h; exact (List.getElem?_eq_some_iff.1 hx).1
      have hnd2 : (V ++ [i]).Nodup := by rw [List.nodup_append]; exact ⟨hV1, by simp, by intro a ha b hb' e; simp at hb'; subst hb'; subst e; exact hiV ha⟩
      have hVl := nodup_len hnd2 hi2
      obtain ⟨W2, hW2, XI2, hO2, hZ2, hK2⟩ : ∃ W2, setBlock w1 W0.heap.size (.mapIter (some b) l.length (V ++ [i]).toArray l.length) = W2 ∧ W2.heap[W0.heap.size]? = some (.mapIter (some b) l.length (V ++ [i]).toArray l.length) ∧ Off W0.heap.size wr W2 ∧ W2.heap.size = wr.heap.size ∧ ∀ k, k ≠ W0.heap.size → W2.heap[k]? = wr.heap[k]? := by
        refine ⟨_, rfl, ?_, ?_, ?_, ?_⟩
        · rcases hw1 with rfl | rfl <;> exact setBlock_same _ hrr
        · rcases hw1 with rfl | rfl <;> exact ⟨rfl, rfl, rfl, by rw [setBlock_size]; exact Nat.le_refl _, fun k _ hk => setBlock_other _ (by omega)⟩
        · rcases hw1 with rfl | rfl <;> rw [setBlock_size] <;> rfl
        · rcases hw1 with rfl | rfl <;> exact fun k hk => setBlock_other _ (by omega)
      rw [hW2] at hnx
      have hnx' : (Instr.next (.pointer (some ⟨W0.heap.size, 0, none⟩)) false 0).run Try.prog wr = .ok (.tuple #[.bool true, .int .i64 xk, .agg #[.int .i64 xs, .string xd, .int .i64 xm0, .string xm1, .string xm2]]) W2 := hnx
      have hm2 : MapAt W2 (some b) l := hmr.keep fun k hk => by cases hk; exact hK2 b (by omega)
      have hen : (Instr.entry (.pointer (some ⟨W0.heap.size, 0, none⟩))).run Try.prog W2 = .ok (.tuple #[.int .i64 xk, .agg #[.int .i64 xs, .string xd, .int .i64 xm0, .string xm1, .string xm2]]) W2 := entry_vts W2 W0.heap.size b i V l _ XI2 hm2 hx
      obtain ⟨W3, hW3, XV, B3, Z3⟩ : ∃ W3, (W2.alloc (.cells #[.int .i64 xs, .string xd, .int .i64 xm0, .string xm1, .string xm2] 82)) = W3 ∧ Blk W3 W2.heap.size #[.int .i64 xs, .string xd, .int .i64 xm0, .string xm1, .string xm2] 82 ∧ Below W2.heap.size W2 W3 ∧ W3.heap.size = W2.heap.size + 1 :=
        ⟨_, rfl, blk_new _ _ _ _ rfl, by go_grown, by simp⟩
      have v0 : W3.cell? ⟨W2.heap.size, 0, none⟩ = some (.int .i64 xs) := XV.cell rfl
      have v1 : W3.cell? ⟨W2.heap.size, 1, none⟩ = some (.string xd) := XV.cell rfl
      have v2 : W3.cell? ⟨W2.heap.size, 2, none⟩ = some (.int .i64 xm0) := XV.cell rfl
      have v3 : W3.cell? ⟨W2.heap.size, 3, none⟩ = some (.string xm1) := XV.cell rfl
      have v4 : W3.cell? ⟨W2.heap.size, 4, none⟩ = some (.string xm2) := XV.cell rfl
      have XC3 : Blk W3 w.heap.size #[.int .i64 c0, .string c1] 59 := ((XC.below hb).off hO2 (by omega)).below B3
      have q0 : W3.cell? ⟨w.heap.size, 0, none⟩ = some (.int .i64 c0) := XC3.cell rfl
      have q1 : W3.cell? ⟨w.heap.size, 1, none⟩ = some (.string c1) := XC3.cell rfl
      have HO2 : Hid (W3.ownsRow W1.heap.size 38 3 u5 (outs l (c0, c1) V).length (sL (outs l (c0, c1) V))) :=
        ownB (own_keep HO.out fun g hg => hK2 g (by have := (HO.out.lt g hg).1; have := HZ1.out; omega)) B3
      have b3 : Below W0.heap.size W0 W3 := by
        have h1 : Below W0.heap.size W0 W2 := hO2.below (Nat.le_refl _) hb (by omega)
        exact h1.trans (B3.mono (by omega))
      have XI3 : W3.heap[W0.heap.size]? = some (.mapIter (some b) l.length (V ++ [i]).toArray l.length) := (B3.block W0.heap.size (by omega)).trans XI2
      have heq : (binOp .eql 59 (.agg #[.int .i64 xs, .string xd]) (.agg #[.int .i64 c0, .string c1])).run Try.prog W3 = .ok (.bool (says (c0, c1) (xs, xd, xm0, xm1, xm2))) W3 := eq_claim W3 xs c0 xd c1
      have hsn := iterSeen_at hit
      have hol := outs_len l (c0, c1) V
      have HVl : Hid _ := hVl
      have HZ3 : Hid _ := Z3
      have HZ2 : Hid _ := hZ2
      have Hx : Hid _ := hx
      have Hit : Hid _ := hit
      have HXI3 : Hid _ := XI3
      have HI2 : Hid _ := hi2
      have HN2 : Hid _ := hnd2
      have HSN : Hid _ := hsn
      have hlen : (outs l (c0, c1) V).length ≤ 13 := by have := Hln.out; simp at hVl; omega
      clear hVl Z3 hZ2 hnx hx hit XI3 hi2 hnd2 hsn hV1 hV2 hiV hw1 hW2 hK2 hcc hol
      clear heq
      by_cases hn1 : xs = c0
      · subst hn1
        by_cases hn2 : xd = c1
        · subst hn2
          have Hs : Hid (says (xs, xd) (xs, xd, xm0, xm1, xm2) = true) := by show _ = _; simp [says]
          generalize hOL : outs l (xs, xd) V = OL at *
          have HOL : Hid _ := hOL
          clear hOL
          have hzw : W1.heap.size ≤ W3.heap.size := by have := HZ3.out; have := HZ2.out; omega
          have hzz : W0.heap.size < W3.heap.size := by have := HZ3.out; have := HZ2.out; omega
          go_wp2_with (at_builtin; refine wpList_append_own _ rfl _ _ 32 rfl W1.heap.size 38 iS (.agg #[.int .i64 0, .string ⟨#[]⟩, .string ⟨#[]⟩]) 3 40 Try.underlying32 hS hS0 hS1 hS2 rfl (by decide) _ _ _ rfl (World.ownsRow.alloc HO2.out _) ⟨W3.heap.size, 0, none⟩ 1 1 [.int .i64 xm0, .string xm1, .string xm2] rfl rfl ?c1 ?c2 ?c3 ?c4 ?c5 ?_)
          case c1 =>
            intro j u hj
            rw [Addr.add_mid, Nat.zero_add]
            exact (blk_new W3 W3.heap.size #[.int .i64 xm0, .string xm1, .string xm2] 38 rfl).cell (by simpa using hj)
          case c2 => intro u hu; simp at hu; rcases hu with rfl | rfl | rfl <;> rfl
          case c3 => unfold maxLen; omega
          case c4 => omega
          case c5 => simp; omega
          intro ov' w5 hown5 hgrow5 _
          have b5 : Below W0.heap.size W0 w5 := below_grown (b3.alloc (by omega) _) hgrow5 (fun k hk => by have := (World.ownsRow.lt HO2.out k hk).1; have := HZ1.out; omega) (by simp; omega)
          have i5 : w5.heap[W0.heap.size]? = some (.mapIter (some b) l.length (V ++ [i]).toArray l.length) := by
            rw [hgrow5.block W0.heap.size (by simp; omega) (fun e => by have := (World.ownsRow.lt HO2.out _ e.symm).1; have := HZ1.out; omega), heap_alloc_old _ _ (by omega)]
            exact HXI3.out
          have z5 : W3.heap.size ≤ w5.heap.size := by have := hgrow5.size; simp at this; omega
          have HO5 : Hid _ := hown5
          have HB5 : Hid _ := b5
          have HI5 : Hid _ := i5
          clear hown5 hgrow5 b5 i5
          go_wp2
          refine ⟨⟨V ++ [i], l.length, HN2.out, HI2.out, Nat.le_refl _, HI5.out, ?_, HB5.out, by omega⟩, ?_⟩
          · show World.ownsRow _ _ _ _ _ _ _
            rw [outs_snoc_yes Hx.out Hs.out, HOL.out, sL_app, List.length_append]; exact HO5.out
          · rw [iterSeen_at HI5.out, HSN.out]; have := HVl.out; simp at this ⊢; omega
        · have Hs : Hid (says (xs, c1) (xs, xd, xm0, xm1, xm2) = false) := by show _ = _; simp [says, hn2]
          have hn3 : (xd.toList == c1.toList) = false := by rw [strEq]; simp [hn2]
          have hn4 : (xd == c1) = false := by rw [beq_toListBytes]; exact hn3
          go_wp2
          refine ⟨⟨V ++ [i], l.length, HN2.out, HI2.out, Nat.le_refl _, HXI3.out, ?_, b3, by have := HZ3.out; have := HZ2.out; omega⟩, ?_⟩
          · show World.ownsRow _ _ _ _ _ _ _
            rw [outs_snoc_no Hx.out Hs.out]; exact HO2.out
          · rw [iterSeen_at HXI3.out, HSN.out]; have := HVl.out; simp at this ⊢; omega
      · have Hs : Hid (says (c0, c1) (xs, xd, xm0, xm1, xm2) = false) := by show _ = _; simp [says, hn1]
        have hn3 : (xs == c0) = false := by simp [hn1]
        have hn4 : decide (xs = c0) = false := by simp [hn1]
        go_wp2
        refine ⟨⟨V ++ [i], l.length, HN2.out, HI2.out, Nat.le_refl _, HXI3.out, ?_, b3, by have := HZ3.out; have := HZ2.out; omega⟩, ?_⟩
        · show World.ownsRow _ _ _ _ _ _ _
          rw [outs_snoc_no Hx.out Hs.out]; exact HO2.out
        · rw [iterSeen_at HXI3.out, HSN.out]; have := HVl.out; simp at this ⊢; omega
end Go.Proofs.Ytjpmnmgnbpecjaa
