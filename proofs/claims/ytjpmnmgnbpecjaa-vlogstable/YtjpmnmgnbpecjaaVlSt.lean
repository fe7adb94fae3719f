/- Stable: a walk through the checkpoints, whichever comes first. -/
import Derived.Test.YtjpmnmgnbpecjaaVlSb
namespace Go.Proofs.Ytjpmnmgnbpecjaa
open Go.Shelf Go.RowKit Go.Lib Go.Sort
open Go.ChangeMaps (setBlock)
set_option linter.unusedSimpArgs false
set_option linter.unusedVariables false
variable {w : World} {p : Nat} {mp : Nat → Option Nat} {L : Lv}
/-- A checkpoint on which as many agree as must. -/
def Lv.good (L : Lv) (x : Int × Vt) : Prop := x ∈ L.ck ∧ L.lo < x.2.1 ∧ (qrm L.n L.ck (x.2.1, x.2.2.1)).isSome = true
/-- What Stable tells. -/
def StbV (w : World) (L : Lv) (s : Int) (r : ByteArray) (v : Value) : Prop :=
  (s = 0 ∧ r = ⟨#[]⟩ ∧ v = .slice none 0 0 ∧ ∀ x, ¬ L.good x) ∨ ∃ x, L.good x ∧ s = x.2.1 ∧ r = x.2.2.1 ∧ Sgr w 0 v ((alk L.n L.ck (x.2.1, x.2.2.1)).take (quo L.n))
/-- What the walk through the checkpoints has by then. -/
def StI (w : World) (L : Lv) (V : List Nat) (bs : Int) (bd : ByteArray) (cv : Value) : Prop :=
  (cv = .slice none 0 0 ∧ bs = L.lo ∧ bd = ⟨#[]⟩ ∧ ∀ i ∈ V, ∀ x, L.ck[i]? = some x → ¬ L.good x) ∨ ∃ x, L.good x ∧ bs = x.2.1 ∧ bd = x.2.2.1 ∧ ∃ ll, qrm L.n L.ck (x.2.1, x.2.2.1) = some ll ∧ QrV w 0 cv (some ll)
theorem QrV.mono {w : World} {b b' : Nat} {v : Value} {o : Option (List Sgn)} (h : QrV w b v o) (hb : b' ≤ b) : QrV w b' v o := by
  cases o with
  | none => exact h
  | some l => exact ⟨h.1, h.2.mono hb⟩
theorem QrV.keep {w w' : World} {b : Nat} {v : Value} {o : Option (List Sgn)} (h : QrV w b v o) (hk : ∀ g cs, Blk w g cs 38 → w'.heap[g]? = w.heap[g]?) : QrV w' b v o := by
  cases o with
  | none => exact h
  | some l => exact ⟨h.1, h.2.keep hk⟩
theorem StI.keep {w w' : World} {L : Lv} {V : List Nat} {bs : Int} {bd : ByteArray} {cv : Value} (h : StI w L V bs bd cv) (hk : ∀ g cs, Blk w g cs 38 → w'.heap[g]? = w.heap[g]?) : StI w' L V bs bd cv := by
  rcases h with h | ⟨x, h1, h2, h3, ll, h4, h5⟩
  · exact Or.inl h
  · exact Or.inr ⟨x, h1, h2, h3, ll, h4, h5.keep hk⟩
theorem StI.more {w : World} {L : Lv} {V : List Nat} {i : Nat} {bs : Int} {bd : ByteArray} {cv : Value} (h : StI w L V bs bd cv) (hn : ∀ y, L.ck[i]? = some y → ¬ L.good y) : StI w L (V ++ [i]) bs bd cv := by
  rcases h with ⟨h1, h2, h3, h4⟩ | h
  · refine Or.inl ⟨h1, h2, h3, fun j hj x hx => ?_⟩
    rcases List.mem_append.1 hj with hj | hj
    · exact h4 j hj x hx
    · simp at hj; subst hj; exact hn x hx
  · exact Or.inr h
theorem StI.less {w : World} {L : Lv} {V : List Nat} {i : Nat} {bs : Int} {bd : ByteArray} {cv : Value} (h : StI w L V bs bd cv) (hn : bs = L.lo → ∀ y, L.ck[i]? = some y → ¬ L.good y) : StI w L (V ++ [i]) bs bd cv := by
  rcases h with h | h
  · exact StI.more (Or.inl h) (hn h.2.1)
  · exact Or.inr h
theorem StI.lo {w : World} {L : Lv} {V : List Nat} {bs : Int} {bd : ByteArray} {cv : Value} (h : StI w L V bs bd cv) : L.lo ≤ bs := by
  rcases h with h | ⟨x, h1, h2, _⟩
  · rw [h.2.1]; exact Int.le_refl _
  · rw [h2]; exact Int.le_of_lt h1.2.1
theorem qrm_take {n : Nat} {l : Vts} {c : Int × ByteArray} {ll : List Sgn} (h : qrm n l c = some ll) : ll = (alk n l c).take (quo n) := by
  unfold qrm at h
  split at h
  · cases h
  · cases h; rfl
theorem eql_nil0 (w : World) : (binOp .eql 32 (.slice none 0 0) (.slice none 0 0)).run Try.prog w = .ok (.bool true) w := by kernel_rfl
theorem eql_nil1 (w : World) (g n c : Nat) : (binOp .eql 32 (.slice (some ⟨g, 0, none⟩) n c) (.slice none 0 0)).run Try.prog w = .ok (.bool false) w := by kernel_rfl
theorem neq_nil0 (w : World) : (binOp .neq 32 (.slice none 0 0) (.slice none 0 0)).run Try.prog w = .ok (.bool false) w := by kernel_rfl
theorem neq_nil1 (w : World) (g n c : Nat) : (binOp .neq 32 (.slice (some ⟨g, 0, none⟩) n c) (.slice none 0 0)).run Try.prog w = .ok (.bool true) w := by kernel_rfl
set_option maxHeartbeats 16000000 in
set_option maxRecDepth 100000 in
theorem stable_some (h : Lg w p mp L) (hi : LInv L) (b : Nat) (hb : mp 16 = some b) : Calls Try.prog 23 #[.pointer (some ⟨p, 0, none⟩)] w fun e w' => ∃ s r v, e = .returned (.tuple #[.int .i64 s, .string r, v]) ∧ StbV w' L s r v ∧ Below w.heap.size w w' := by
  have hm := made_calls h hi
  have c2 := h.c2
  obtain ⟨W0, hW0, XC, B0, Z0⟩ : ∃ W0, (w.alloc (.cells #[.int .i64 L.lo, .string ⟨#[]⟩] 59)) = W0 ∧ Blk W0 w.heap.size #[.int .i64 L.lo, .string ⟨#[]⟩] 59 ∧ Below w.heap.size w W0 ∧ W0.heap.size = w.heap.size + 1 :=
    ⟨_, rfl, blk_new _ _ _ _ rfl, by go_grown, by simp⟩
  have cl : W0.cell? ⟨p, 107, none⟩ = some (.map (some b)) := by have := (h.below B0).cl; rw [hb] at this; exact this
  have hmb : MapAt w (some b) L.ck := by have := h.mck; rw [hb] at this; exact this
  have hm0 := hmb.below B0
  have hrg : (Instr.range 61 (.map (some b))).run Try.prog W0 = .ok (.pointer (some ⟨W0.heap.size, 0, none⟩)) (W0.alloc (.mapIter (some b) L.ck.length #[] L.ck.length)) :=
    run_range_map W0 61 3 82 b (ents L.ck) L.ck.length Try.underlying61 hm0
  obtain ⟨W1, hW1, XI, B1, Z1⟩ : ∃ W1, (W0.alloc (.mapIter (some b) L.ck.length #[] L.ck.length)) = W1 ∧ W1.heap[W0.heap.size]? = some (.mapIter (some b) L.ck.length #[] L.ck.length) ∧ Below W0.heap.size W0 W1 ∧ W1.heap.size = W0.heap.size + 1 :=
    ⟨_, rfl, heap_alloc_new _ _, by go_grown, by simp⟩
  rw [hW1] at hrg
  rw [← hW0] at hrg cl
  rw [show (w.alloc (.cells #[.int .i64 L.lo, .string ⟨#[]⟩] 59)).heap.size = w.heap.size + 1 by simp] at hrg
  have hz0 : W0.heap.size = w.heap.size + 1 := Z0
  rw [hz0] at XI Z1
  have hbl : b < w.heap.size := hmb.lt
  have hpl : p < w.heap.size := h.lt
  have Hm : Hid _ := hmb
  have HMp : Hid _ := hb
  have HL : Hid _ := h
  have HI : Hid _ := hi
  have Hln : Hid (L.ck.length ≤ 13) := by have := hi.ck.len; have := hi.n.le; show _ ≤ _; omega
  have HS1 : Hid (Blk W1 w.heap.size #[.int .i64 L.lo, .string ⟨#[]⟩] 59 ∧ Below w.heap.size w W1 ∧ StI W1 L [] L.lo ⟨#[]⟩ (.slice none 0 0)) := ⟨XC.below B1, B0.trans (B1.mono (by omega)), Or.inl ⟨rfl, rfl, rfl, fun i hi => by cases hi⟩⟩
  clear h hi hb hmb hm0 Z0 B0 B1 XC hW1 hW0 hz0
  have HZ1 : Hid _ := Z1
  clear Z1
  go_enter Try.func23, Try.ntmps23
  go_wp2_with fail
  refine hm.mono ?_
  rintro e w1 ⟨rfl, hw1⟩
  obtain rfl := hw1.symm
  go_wp2_with fail
  go_loopw [4] (fun cv wr => ∃ (V : List Nat) (cc : Nat) (bs : Int) (bd : ByteArray), V.Nodup ∧ (∀ i ∈ V, i < L.ck.length) ∧ L.ck.length ≤ cc ∧ wr.heap[(w.heap.size + 1)]? = some (.mapIter (some b) L.ck.length V.toArray cc) ∧ Hid (Blk wr w.heap.size #[.int .i64 bs, .string bd] 59 ∧ Below w.heap.size w wr ∧ StI wr L V bs bd cv) ∧ W1.heap.size ≤ wr.heap.size) (fun _ wr => L.ck.length - (wr.iterSeen (w.heap.size + 1)).size)
  case atStart => exact ⟨[], L.ck.length, L.lo, ⟨#[]⟩, by simp, by simp, Nat.le_refl _, XI, HS1, Nat.le_refl _⟩
  case round =>
    clear HS1
    obtain ⟨V, cc, bs, bd, hV1, hV2, hcc, hit, HR, hsz⟩ := hrel
    have hmr : MapAt wr (some b) L.ck := MapAt.below Hm.out HR.out.2.1
    rcases next_vts (P := Try.prog) wr 0 (w.heap.size + 1) b cc V L.ck hit hcc hmr with ⟨hall, hnx⟩ | ⟨i, x, hx, hiV, w1, hw1, hnx⟩
    · have HA : Hid (∀ x, ¬ L.good x) ∨ True := Or.inr trivial
      rcases HR.out.2.2 with ⟨e1, e2, e3, e4⟩ | ⟨x, g1, g2, g3, ll, g4, g5⟩
      · have HN : Hid (∀ x, ¬ L.good x) := fun x hx => by
          obtain ⟨i, hi⟩ := List.getElem?_of_mem hx.1
          exact e4 i (hall i (List.getElem?_eq_some_iff.1 hi).1) x hi hx
        subst e1 e2 e3
        have HB : Hid (Below w.heap.size w wr) := HR.out.2.1
        clear e4 HR hit hall HA
        have heq := eql_nil0 wr
        go_wp2
        (try simp only [Exit.inBlock, Exit.then])
        refine bodyPost_ret (v := .tuple #[.int .i64 0, .string ⟨#[]⟩, .slice none 0 0]) (by simp [results, Try.results23, go_sem]) rfl ?_
        exact ⟨_, _, _, rfl, Or.inl ⟨rfl, rfl, rfl, HN.out⟩, HB.out⟩
      · obtain ⟨n1, n2⟩ := g5
        have HS : Hid (StbV wr.drew L bs bd u4) := Or.inr ⟨x, g1, g2, g3, by rw [← qrm_take g4]; exact n2.keep (fun _ _ _ => rfl)⟩
        have HB : Hid (Below w.heap.size w wr) := HR.out.2.1
        have k0 : wr.cell? ⟨w.heap.size, 0, none⟩ = some (.int .i64 bs) := Blk.cell HR.out.1 rfl
        have k1 : wr.cell? ⟨w.heap.size, 1, none⟩ = some (.string bd) := Blk.cell HR.out.1 rfl
        rcases n2 with ⟨_, q⟩ | ⟨g, cap, cs, hv, _⟩
        · exact absurd q n1
        subst hv
        clear g1 g2 g3 g4 n1 HR hit hall HA
        generalize ll.length = lll at *
        have heq := eql_nil1 wr g lll cap
        go_wp2
        go_region
        go_wp2
        (try simp only [Exit.inBlock, Exit.then])
        refine bodyPost_ret (v := .tuple #[.int .i64 bs, .string bd, .slice (some ⟨g, 0, none⟩) lll cap]) (by simp [results, Try.results23, go_sem]) rfl ?_
        exact ⟨_, _, _, rfl, HS.out, HB.out.drew⟩
    · obtain ⟨xk, xs, xd, xm0, xm1, xm2⟩ := x
      have hrr : w.heap.size + 1 < wr.heap.size := by have := HZ1.out; omega
      have hi2 : ∀ j ∈ V ++ [i], j < L.ck.length := by
        intro z hz
        rcases List.mem_append.1 hz with h | h
        · exact hV2 z h
        · simp at h; subst h; exact (List.getElem?_eq_some_iff.1 hx).1
      have hnd2 : (V ++ [i]).Nodup := by rw [List.nodup_append]; exact ⟨hV1, by simp, by intro a ha b hb' e; simp at hb'; subst hb'; subst e; exact hiV ha⟩
      have hVl := nodup_len hnd2 hi2
      obtain ⟨W2, hW2, XI2, hO2, hZ2, hK2⟩ : ∃ W2, setBlock w1 (w.heap.size + 1) (.mapIter (some b) L.ck.length (V ++ [i]).toArray L.ck.length) = W2 ∧ W2.heap[w.heap.size + 1]? = some (.mapIter (some b) L.ck.length (V ++ [i]).toArray L.ck.length) ∧ Off (w.heap.size + 1) wr W2 ∧ W2.heap.size = wr.heap.size ∧ ∀ k, k ≠ w.heap.size + 1 → W2.heap[k]? = wr.heap[k]? := by
        refine ⟨_, rfl, ?_, ?_, ?_, ?_⟩
        · rcases hw1 with rfl | rfl <;> exact setBlock_same _ hrr
        · rcases hw1 with rfl | rfl <;> exact ⟨rfl, rfl, rfl, by rw [setBlock_size]; exact Nat.le_refl _, fun k _ hk => setBlock_other _ (by omega)⟩
        · rcases hw1 with rfl | rfl <;> rw [setBlock_size] <;> rfl
        · rcases hw1 with rfl | rfl <;> exact fun k hk => setBlock_other _ (by omega)
      rw [hW2] at hnx
      have hnx' : (Instr.next (.pointer (some ⟨w.heap.size + 1, 0, none⟩)) false 0).run Try.prog wr = .ok (.tuple #[.bool true, .int .i64 xk, .agg #[.int .i64 xs, .string xd, .int .i64 xm0, .string xm1, .string xm2]]) W2 := hnx
      have hm2 : MapAt W2 (some b) L.ck := hmr.keep fun k hk => by cases hk; exact hK2 b (by omega)
      have hen : (Instr.entry (.pointer (some ⟨w.heap.size + 1, 0, none⟩))).run Try.prog W2 = .ok (.tuple #[.int .i64 xk, .agg #[.int .i64 xs, .string xd, .int .i64 xm0, .string xm1, .string xm2]]) W2 := entry_vts W2 (w.heap.size + 1) b i V L.ck _ XI2 hm2 hx
      obtain ⟨W3, hW3, XV, B3, Z3⟩ : ∃ W3, (W2.alloc (.cells #[.int .i64 xs, .string xd, .int .i64 xm0, .string xm1, .string xm2] 82)) = W3 ∧ Blk W3 W2.heap.size #[.int .i64 xs, .string xd, .int .i64 xm0, .string xm1, .string xm2] 82 ∧ Below W2.heap.size W2 W3 ∧ W3.heap.size = W2.heap.size + 1 :=
        ⟨_, rfl, blk_new _ _ _ _ rfl, by go_grown, by simp⟩
      have XC3 : Blk W3 w.heap.size #[.int .i64 bs, .string bd] 59 := ((show Blk wr w.heap.size #[.int .i64 bs, .string bd] 59 from HR.out.1).off hO2 (by omega)).below B3
      have bW : Below w.heap.size w W3 := by
        have h1 : Below w.heap.size w W2 := hO2.below (by omega) HR.out.2.1 (by omega)
        exact h1.trans (B3.mono (by omega))
      have hS3 : StI W3 L V bs bd u4 := HR.out.2.2.keep fun g cs X => by
        have hg : g ≠ w.heap.size + 1 := by
          intro e
          have h1 : wr.heap[g]? = some (.cells cs 38) := X
          rw [e, hit] at h1
          cases h1
        have hgl : g < wr.heap.size := X.lt
        exact (B3.block g (by omega)).trans (hK2 g hg)
      have XI3 : W3.heap[w.heap.size + 1]? = some (.mapIter (some b) L.ck.length (V ++ [i]).toArray L.ck.length) := (B3.block (w.heap.size + 1) (by omega)).trans XI2
      have hLg := HL.out.below bW
      have cl3 : W3.cell? ⟨p, 107, none⟩ = some (.map (some b)) := by have := hLg.cl; rw [HMp.out] at this; exact this
      have HQ : Hid (∀ wx, Below W3.heap.size W3 wx → _) := fun wx (hb : Below W3.heap.size W3 wx) => quorum_calls L.n p (some b) L.ck xs xd wx HI.out.n (by have := (hLg.below hb).mck; rw [HMp.out] at this; exact this) HI.out.ck (hLg.below hb).c0
      have hsn := iterSeen_at hit
      have v0 : W3.cell? ⟨W2.heap.size, 0, none⟩ = some (.int .i64 xs) := XV.cell rfl
      have v1 : W3.cell? ⟨W2.heap.size, 1, none⟩ = some (.string xd) := XV.cell rfl
      have v2 : W3.cell? ⟨W2.heap.size, 2, none⟩ = some (.int .i64 xm0) := XV.cell rfl
      have v3 : W3.cell? ⟨W2.heap.size, 3, none⟩ = some (.string xm1) := XV.cell rfl
      have v4 : W3.cell? ⟨W2.heap.size, 4, none⟩ = some (.string xm2) := XV.cell rfl
      have HGd : Hid (L.lo < xs → ∀ ll, qrm L.n L.ck (xs, xd) = some ll → L.good (xk, xs, xd, xm0, xm1, xm2)) := fun h1 ll h2 => ⟨List.mem_of_getElem? hx, h1, by show (qrm L.n L.ck (xs, xd)).isSome = true; rw [h2]; rfl⟩
      have HNg : Hid (qrm L.n L.ck (xs, xd) = none ∨ ¬ L.lo < xs → ∀ y, L.ck[i]? = some y → ¬ L.good y) := fun hh y hy hg => by
        rw [hx] at hy
        cases hy
        rcases hh with hh | hh
        · have := hg.2.2; rw [show qrm L.n L.ck (xs, xd) = none from hh] at this; cases this
        · exact hh hg.2.1
      have HXC3 : Hid _ := XC3
      have HBW : Hid _ := bW
      have HS3 : Hid _ := hS3
      have HXI3 : Hid _ := XI3
      have HI2 : Hid _ := hi2
      have HN2 : Hid _ := hnd2
      have HSN : Hid _ := hsn
      have HVl : Hid _ := hVl
      have HXV : Hid _ := XV
      have HZ3 : Hid (w.heap.size + 1 < W2.heap.size ∧ W2.heap.size < W3.heap.size ∧ W1.heap.size ≤ W3.heap.size) := ⟨by omega, by omega, by omega⟩
      clear hnx hW2 XC3 bW hS3 XI3 hi2 hnd2 hsn hVl hLg XV hK2 hO2 XI2 hm2 hmr HR hit hx hiV hw1 hV1 hV2 hcc Z3 hZ2 B3
      go_wp2_with fail
      refine wp_region_held_drew (S := (fun wx => wx.cell? ⟨p, 107, none⟩ = some (.map (some b)) ∧ wx.cell? ⟨W2.heap.size, 0, none⟩ = some (.int .i64 xs) ∧ wx.cell? ⟨W2.heap.size, 1, none⟩ = some (.string xd))) (by kernel_rfl) ⟨cl3, v0, v1⟩ (fun hS => ?_)
      refine wpAnyH_take (i := 0) (v := (.pointer (some ⟨p, 0, none⟩))) rfl (by kernel_rfl) (by kernel_rfl) (by kernel_rfl) (fun _ _ _ h => h) (Or.inl ⟨by kernel_rfl, fun w hS => by obtain ⟨s0, s1, s2⟩ := hS; go_simp⟩) hS ?_
      refine wpAnyH_take (i := 1) (v := (.pointer (some ⟨p, 0, none⟩))) rfl (by kernel_rfl) (by kernel_rfl) (by kernel_rfl) (fun _ _ _ h => h) (Or.inl ⟨by kernel_rfl, fun w hS => by obtain ⟨s0, s1, s2⟩ := hS; go_simp⟩) hS ?_
      refine wpAnyH_take (i := 2) (v := (.pointer (some ⟨p, 0, none⟩))) rfl (by kernel_rfl) (by kernel_rfl) (by kernel_rfl) (fun _ _ _ h => h) (Or.inl ⟨by kernel_rfl, fun w hS => by obtain ⟨s0, s1, s2⟩ := hS; go_simp⟩) hS ?_
      refine wpAnyH_take (i := 3) (v := (.pointer (some ⟨p, 107, none⟩))) rfl (by kernel_rfl) (by kernel_rfl) (by kernel_rfl) (fun _ _ _ h => h) (Or.inl ⟨by kernel_rfl, fun w hS => by obtain ⟨s0, s1, s2⟩ := hS; go_simp⟩) hS ?_
      refine wpAnyH_take (i := 4) (v := (.map (some b))) rfl (by kernel_rfl) (by kernel_rfl) (by kernel_rfl) (fun _ _ _ h => h) (Or.inl ⟨by kernel_rfl, fun w hS => by obtain ⟨s0, s1, s2⟩ := hS; go_simp⟩) hS ?_
      refine wpAnyH_take (i := 5) (v := (.pointer (some ⟨W2.heap.size, 0, none⟩))) rfl (by kernel_rfl) (by kernel_rfl) (by kernel_rfl) (fun _ _ _ h => h) (Or.inl ⟨by kernel_rfl, fun w hS => by obtain ⟨s0, s1, s2⟩ := hS; go_simp⟩) hS ?_
      refine wpAnyH_take (i := 6) (v := (.agg #[.int .i64 xs, .string xd])) rfl (by kernel_rfl) (by kernel_rfl) (by kernel_rfl) (fun _ _ _ h => h) (Or.inl ⟨by kernel_rfl, fun w hS => by obtain ⟨s0, s1, s2⟩ := hS; go_simp⟩) hS ?_
      refine wpAnyH_ready (rs := [7]) (by kernel_rfl) (by simp) ?_
      refine AllReadyH.cons rfl (fun K hK => ?_) AllReadyH.nil
      go_simp
      refine Calls.mono (HQ.out _ (Below.refl _ _).drew) ?_
      rintro e w4 ⟨v, rfl, hqv, b4⟩
      have B4 : Below W3.heap.size W3 w4 := (Below.refl _ _).drew.trans b4
      refine hK.out _ _ ⟨(B4.cell (p := ⟨p, 107, none⟩) (by have := HZ3.out; show p < _; omega)).trans cl3, (B4.cell (p := ⟨W2.heap.size, 0, none⟩) HZ3.out.2.1).trans v0, (B4.cell (p := ⟨W2.heap.size, 1, none⟩) HZ3.out.2.1).trans v1⟩ (fun hS => ?_)
      clear hK
      refine wpAnyH_take (i := 8) (v := (v)) rfl (by kernel_rfl) (by kernel_rfl) (by kernel_rfl) (fun _ _ _ h => h) (Or.inl ⟨by kernel_rfl, fun w hS => by obtain ⟨s0, s1, s2⟩ := hS; go_simp⟩) hS ?_
      refine wpAnyH_done (by kernel_rfl) ?_ _
      clear hS
      have HX4 : Hid (Blk w4 w.heap.size #[.int .i64 bs, .string bd] 59) := Blk.below HXC3.out B4
      have HW4 : Hid (Below w.heap.size w w4) := HBW.out.trans (B4.mono (by have := HZ3.out; omega))
      have HS4 : Hid (StI w4 L V bs bd u4) := StI.keep HS3.out fun g cs X => B4.block g X.lt
      have HI4 : Hid (w4.heap[w.heap.size + 1]? = some (.mapIter (some b) L.ck.length (V ++ [i]).toArray L.ck.length)) := (B4.block (w.heap.size + 1) (by have := HZ3.out; omega)).trans HXI3.out
      have HZ4 : Hid (W1.heap.size ≤ w4.heap.size) := Nat.le_trans HZ3.out.2.2 B4.size
      have HV4 : Hid _ := Blk.below HXV.out B4
      have p0 : w4.cell? ⟨W2.heap.size, 0, none⟩ = some (.int .i64 xs) := Blk.cell HV4.out rfl
      have p1 : w4.cell? ⟨W2.heap.size, 1, none⟩ = some (.string xd) := Blk.cell HV4.out rfl
      have k0 : w4.cell? ⟨w.heap.size, 0, none⟩ = some (.int .i64 bs) := Blk.cell HX4.out rfl
      have k1 : w4.cell? ⟨w.heap.size, 1, none⟩ = some (.string bd) := Blk.cell HX4.out rfl
      have HQv : Hid _ := hqv
      clear hqv b4 B4 v0 v1 v2 v3 v4 cl3 HQ
      have HMe : Hid (∀ wx : World, wx.heap[w.heap.size + 1]? = some (.mapIter (some b) L.ck.length (V ++ [i]).toArray L.ck.length) → L.ck.length - (wx.iterSeen (w.heap.size + 1)).size < L.ck.length - (wr.iterSeen (w.heap.size + 1)).size) := fun wx h => by
        rw [iterSeen_at h, HSN.out]; have := HVl.out; simp at this ⊢; omega
      obtain ⟨Q, HQ⟩ : ∃ Q, Hid (qrm L.n L.ck (xs, xd) = Q) := ⟨_, rfl⟩
      rw [HQ.out] at HQv
      cases Q with
      | none =>
        have hv : v = .slice none 0 0 := HQv.out
        subst hv
        have hne := neq_nil0 w4
        have HS5 : Hid (StI w4 L (V ++ [i]) bs bd u4) := StI.more HS4.out (fun y hy => HNg.out (Or.inl HQ.out) y hy)
        go_simp
        go_wp2
        exact ⟨⟨V ++ [i], L.ck.length, bs, bd, HN2.out, HI2.out, Nat.le_refl _, HI4.out, ⟨HX4.out, HW4.out, HS5.out⟩, HZ4.out⟩, HMe.out _ HI4.out⟩
      | some ll =>
        obtain ⟨n1, n2⟩ := HQv.out
        rcases n2 with ⟨_, q⟩ | ⟨g, cap, cs, hv, n3⟩
        · exact absurd q n1
        subst hv
        have hne := neq_nil1 w4 g ll.length cap
        by_cases hlt : bs < xs
        · have hd : decide (bs < xs) = true := decide_eq_true hlt
          have HG : Hid _ := HGd.out (by have := StI.lo HS4.out; omega) ll HQ.out
          have HNv : Hid (QrV w4 0 (.slice (some ⟨g, 0, none⟩) ll.length cap) (some ll)) := QrV.mono HQv.out (Nat.zero_le _)
          obtain ⟨W5, hW5, X5, W5b, W5s, W5o, W5t, W5u⟩ := setRow_named HX4.out #[.int .i64 xs, .string xd]
          have HB5 : Hid (Below w.heap.size w W5) := below_row HW4.out hW5 (Nat.le_refl _)
          have HI5 : Hid (W5.heap[w.heap.size + 1]? = some (.mapIter (some b) L.ck.length (V ++ [i]).toArray L.ck.length)) := (W5b _ (by omega)).trans HI4.out
          have HX5 : Hid _ := X5
          have HZ5 : Hid (W1.heap.size ≤ W5.heap.size) := by show _ ≤ _; rw [W5s]; exact HZ4.out
          have HS5 : Hid (StI W5 L (V ++ [i]) xs xd (.slice (some ⟨g, 0, none⟩) ll.length cap)) := Or.inr ⟨_, HG.out, rfl, rfl, ll, HQ.out, QrV.keep HNv.out fun g' cs' Y => W5b g' (fun e => by
            have h1 : w4.heap[g']? = some (.cells cs' 38) := Y
            have h2 : w4.heap[w.heap.size]? = some (.cells #[.int .i64 bs, .string bd] 59) := HX4.out
            rw [e, h2] at h1
            injection h1 with h1
            injection h1 with _ h1
            revert h1; decide)⟩
          have hinf : (Try.prog.info? 59).map (·.size) = some (#[Value.int .i64 xs, .string xd]).size := by kernel_rfl
          have HSz : Hid ((#[Value.int .i64 bs, .string bd]).size = (#[Value.int .i64 xs, .string xd]).size) := rfl
          have hone : (#[Value.int .i64 xs, .string xd]).all (·.oneCell') = true := by kernel_rfl
          clear n1 n3 hlt HQv HNv W5b W5s W5o W5t W5u X5
          generalize ll.length = lll at *
          go_simp
          go_wp2_with (with_reducible refine st_row HX4.out hinf HSz.out hone hW5 rfl rfl ?_)
          exact ⟨⟨V ++ [i], L.ck.length, xs, xd, HN2.out, HI2.out, Nat.le_refl _, HI5.out, ⟨HX5.out, HB5.out, HS5.out⟩, HZ5.out⟩, HMe.out _ HI5.out⟩
        · have hd : decide (bs < xs) = false := decide_eq_false hlt
          have HS5 : Hid (StI w4 L (V ++ [i]) bs bd u4) := StI.less HS4.out (fun hl y hy => HNg.out (Or.inr (by omega)) y hy)
          clear n1 n3 hlt
          generalize ll.length = lll at *
          go_simp
          go_wp2
          exact ⟨⟨V ++ [i], L.ck.length, bs, bd, HN2.out, HI2.out, Nat.le_refl _, HI4.out, ⟨HX4.out, HW4.out, HS5.out⟩, HZ4.out⟩, HMe.out _ HI4.out⟩
set_option maxHeartbeats 16000000 in
set_option maxRecDepth 100000 in
theorem stable_none (h : Lg w p mp L) (hi : LInv L) (hb : mp 16 = none) : Calls Try.prog 23 #[.pointer (some ⟨p, 0, none⟩)] w fun e w' => ∃ s r v, e = .returned (.tuple #[.int .i64 s, .string r, v]) ∧ StbV w' L s r v ∧ Below w.heap.size w w' := by
  have hm := made_calls h hi
  have c2 := h.c2
  obtain ⟨W0, hW0, B0, Z0⟩ : ∃ W0, (w.alloc (.cells #[.int .i64 L.lo, .string ⟨#[]⟩] 59)) = W0 ∧ Below w.heap.size w W0 ∧ W0.heap.size = w.heap.size + 1 :=
    ⟨_, rfl, by go_grown, by simp⟩
  have cl : W0.cell? ⟨p, 107, none⟩ = some (.map none) := by have := (h.below B0).cl; rw [hb] at this; exact this
  have hck : L.ck = [] := by have := h.mck; rw [hb] at this; exact this
  have hrg : (Instr.range 61 (.map none)).run Try.prog W0 = .ok (.pointer (some ⟨W0.heap.size, 0, none⟩)) (W0.alloc (.mapIter none 0 #[] 0)) :=
    run_range_nilMap W0 61 3 82 Try.underlying61
  obtain ⟨W1, hW1, B1, hnx⟩ : ∃ W1, (W0.alloc (.mapIter none 0 #[] 0)) = W1 ∧ Below W0.heap.size W0 W1 ∧ (Instr.next (.pointer (some ⟨W0.heap.size, 0, none⟩)) false 0).run Try.prog W1 = .ok (.tuple #[.bool false]) W1 :=
    ⟨_, rfl, by go_grown, run_next_nilMap W0 0 0 0 #[]⟩
  rw [hW1] at hrg
  have HB : Hid (Below w.heap.size w W1) := B0.trans (B1.mono (by omega))
  have HN : Hid (∀ x, ¬ L.good x) := fun x hx => by have := hx.1; rw [hck] at this; cases this
  rw [Z0] at hnx
  rw [← hW0] at hrg cl
  rw [show (w.alloc (.cells #[.int .i64 L.lo, .string ⟨#[]⟩] 59)).heap.size = w.heap.size + 1 by simp] at hrg
  have heq := eql_nil0 W1
  clear h hi hb hck B0 B1 Z0 hW0 hW1
  go_enter Try.func23, Try.ntmps23
  go_wp2_with fail
  refine hm.mono ?_
  rintro e w1 ⟨rfl, hw1⟩
  obtain rfl := hw1.symm
  go_wp2_with fail
  refine wp_loop_rounds 1 ?_
  rw [rounds_succ]
  go_wp2
  (try simp only [Exit.inBlock, Exit.then])
  refine bodyPost_ret (v := .tuple #[.int .i64 0, .string ⟨#[]⟩, .slice none 0 0]) (by simp [results, Try.results23, go_sem]) rfl ?_
  exact ⟨_, _, _, rfl, Or.inl ⟨rfl, rfl, rfl, HN.out⟩, HB.out⟩
theorem stable_calls (h : Lg w p mp L) (hi : LInv L) : Calls Try.prog 23 #[.pointer (some ⟨p, 0, none⟩)] w fun e w' => ∃ s r v, e = .returned (.tuple #[.int .i64 s, .string r, v]) ∧ StbV w' L s r v ∧ Below w.heap.size w w' := by
  cases hb : mp 16 with
  | none => exact stable_none h hi hb
  | some b => exact stable_some h hi b hb
end Go.Proofs.Ytjpmnmgnbpecjaa
