/- quorum: just a quorum of messages that make a claim. -/
import Derived.Test.YtjpmnmgnbpecjaaVlB
import Derived.Deep.QuietTactic
import Derived.BigQuiet
namespace Go.Proofs.Ytjpmnmgnbpecjaa
open Go.Shelf Go.RowKit Go.Lib Go.Sort
open Go.ChangeMaps (setBlock)
set_option linter.unusedSimpArgs false
set_option linter.unusedVariables false

set_option maxHeartbeats 4000000 in
set_option maxRecDepth 100000 in
theorem alike_nil (n : Nat) (c0 : Int) (c1 : ByteArray) (w : World) :
    Calls Try.prog 46 #[.map none, .agg #[.int .i64 c0, .string c1]] w fun e w' => e = .returned (.slice none 0 0) ∧ Below w.heap.size w w' := by
  obtain ⟨W0, hW0, XC, B0, Z0⟩ : ∃ W0, (w.alloc (.cells #[.int .i64 c0, .string c1] 59)) = W0 ∧ Blk W0 w.heap.size #[.int .i64 c0, .string c1] 59 ∧ Below w.heap.size w W0 ∧ W0.heap.size = w.heap.size + 1 :=
    ⟨_, rfl, blk_new _ _ _ _ rfl, by go_grown, by simp⟩
  have hrg : (Instr.range 61 (.map none)).run Try.prog W0 = .ok (.pointer (some ⟨W0.heap.size, 0, none⟩)) (W0.alloc (.mapIter none 0 #[] 0)) :=
    run_range_nilMap W0 61 3 82 Try.underlying61
  obtain ⟨W1, hW1, B1, Z1, hnx⟩ : ∃ W1, (W0.alloc (.mapIter none 0 #[] 0)) = W1 ∧ Below W0.heap.size W0 W1 ∧ W1.heap.size = W0.heap.size + 1 ∧ (Instr.next (.pointer (some ⟨W0.heap.size, 0, none⟩)) false 0).run Try.prog W1 = .ok (.tuple #[.bool false]) W1 :=
    ⟨_, rfl, by go_grown, by simp, run_next_nilMap W0 0 0 0 #[]⟩
  rw [hW1] at hrg
  have HZ0 : Hid _ := Z0
  have HZ1 : Hid _ := Z1
  have hwl : w.heap.size < W0.heap.size := by omega
  clear Z0 Z1
  have hS := fun w => sortNil_calls (.func (.func 51) #[] #[]) w
  go_enter Try.func46, Try.ntmps46
  go_wp2_with fail
  refine wp_loop_rounds 1 ?_
  rw [rounds_succ]
  go_wp2_with fail
  refine (hS _).mono ?_
  rintro e w2 ⟨rfl, rfl⟩
  go_wp2
  go_ret
  exact ⟨rfl, B0.trans (B1.mono (by omega))⟩
/-- The messages of votes that make a claim. -/
theorem alike_calls (n : Nat) (o : Option Nat) (l : Vts) (c0 : Int) (c1 : ByteArray) (w : World) (hm : MapAt w o l) (hv : VOk n l) (hn : n ≤ 13) :
    Calls Try.prog 46 #[.map o, .agg #[.int .i64 c0, .string c1]] w fun e w' => ∃ v, e = .returned v ∧ w'.ownsRow w.heap.size 38 3 v (alk n l (c0, c1)).length (sL (alk n l (c0, c1))) ∧ Below w.heap.size w w' := by
  cases o with
  | some b => exact alike_some n b l c0 c1 w hm hv hn
  | none =>
    have e : l = [] := hm
    subst e
    refine (alike_nil n c0 c1 w).mono ?_
    rintro e w1 ⟨rfl, hb⟩
    have e1 : alk n [] (c0, c1) = [] := by
      apply List.eq_nil_iff_forall_not_mem.2
      intro m hm
      obtain ⟨x, hx, _⟩ := (mem_alk hv m).1 hm
      cases hx
    rw [e1]
    exact ⟨_, rfl, World.ownsRow_nil _ _ _ _, hb⟩

/-- Messages that can be read: none, or a row. -/
def Sgr (w : World) (base : Nat) (v : Value) (l : List Sgn) : Prop :=
  (v = .slice none 0 0 ∧ l = []) ∨ ∃ g cap cs, v = .slice (some ⟨g, 0, none⟩) l.length cap ∧ l ≠ [] ∧ l.length ≤ cap ∧ base ≤ g ∧ Blk w g cs 38 ∧ cs.toList.take (l.length * 3) = sL l
theorem Sgr.keep {w w' : World} {base : Nat} {v : Value} {l : List Sgn} (h : Sgr w base v l) (hk : ∀ g cs, Blk w g cs 38 → w'.heap[g]? = w.heap[g]?) : Sgr w' base v l := by
  rcases h with h | ⟨g, cap, cs, h1, h2, h3, h4, h5, h6⟩
  · exact Or.inl h
  · exact Or.inr ⟨g, cap, cs, h1, h2, h3, h4, (hk g cs h5).trans h5, h6⟩
theorem Sgr.below {w w' : World} {base : Nat} {v : Value} {l : List Sgn} (h : Sgr w base v l) (hb : Below w.heap.size w w') : Sgr w' base v l := h.keep fun g cs hB => hb.block g hB.lt
theorem Sgr.mono {w : World} {base base' : Nat} {v : Value} {l : List Sgn} (h : Sgr w base v l) (hb : base' ≤ base) : Sgr w base' v l := by
  rcases h with h | ⟨g, cap, cs, h1, h2, h3, h4, h5, h6⟩
  · exact Or.inl h
  · exact Or.inr ⟨g, cap, cs, h1, h2, h3, by omega, h5, h6⟩
theorem sL_take (l : List Sgn) (k : Nat) : sL (l.take k) = (sL l).take (k * 3) := by
  induction l generalizing k with
  | nil => simp [sL]
  | cons m l ih =>
    cases k with
    | zero => simp [sL]
    | succ k =>
      show sC m ++ sL (l.take k) = (sC m ++ sL l).take ((k + 1) * 3)
      rw [ih, List.take_append, sC_len, List.take_of_length_le (l := sC m) (by rw [sC_len]; omega), show (k + 1) * 3 - 3 = k * 3 by omega]
/-- The value of a quorum. -/
def QrV (w : World) (base : Nat) (v : Value) (o : Option (List Sgn)) : Prop :=
  match o with
  | none => v = .slice none 0 0
  | some l => l ≠ [] ∧ Sgr w base v l

set_option maxHeartbeats 4000000 in
set_option maxRecDepth 100000 in
theorem quorum4 (p : Nat) (o : Option Nat) (l : Vts) (c0 : Int) (c1 : ByteArray) (w : World) (hm : MapAt w o l) (hv : VOk 4 l) (hp : w.cell? ⟨p, 0, none⟩ = some (.int .i64 4)) :
    Calls Try.prog 35 #[.pointer (some ⟨p, 0, none⟩), .map o, .agg #[.int .i64 c0, .string c1]] w fun e w' => ∃ v, e = .returned v ∧ QrV w' w.heap.size v (qrm 4 l (c0, c1)) ∧ Below w.heap.size w w' := by
  have hpl := World.block_lt_of_cell? w _ hp
  obtain ⟨W0, hW0, XC, B0, Z0⟩ : ∃ W0, (w.alloc (.cells #[.int .i64 c0, .string c1] 59)) = W0 ∧ Blk W0 w.heap.size #[.int .i64 c0, .string c1] 59 ∧ Below w.heap.size w W0 ∧ W0.heap.size = w.heap.size + 1 :=
    ⟨_, rfl, blk_new _ _ _ _ rfl, by go_grown, by simp⟩
  have hp0 : W0.cell? ⟨p, 0, none⟩ = some (.int .i64 4) := (B0.cell (p := ⟨p, 0, none⟩) hpl).trans hp
  have x0 : W0.cell? ⟨w.heap.size, 0, none⟩ = some (.int .i64 c0) := XC.cell rfl
  have x1 : W0.cell? ⟨w.heap.size, 1, none⟩ = some (.string c1) := XC.cell rfl
  have HA : Hid (∀ wx, Below W0.heap.size W0 wx → Calls Try.prog 46 #[.map o, .agg #[.int .i64 c0, .string c1]] wx fun e w' => ∃ v, e = .returned v ∧ w'.ownsRow wx.heap.size 38 3 v (alk 4 l (c0, c1)).length (sL (alk 4 l (c0, c1))) ∧ Below wx.heap.size wx w') :=
    fun wx hb => alike_calls 4 o l c0 c1 wx ((hm.below B0).below hb) hv (by decide)
  have HQ : Hid (qrm 4 l (c0, c1) = if (alk 4 l (c0, c1)).length < 3 then none else some ((alk 4 l (c0, c1)).take 3)) := rfl
  have HL : Hid ((alk 4 l (c0, c1)).length ≤ 4) := alk_len l (c0, c1)
  generalize alk 4 l (c0, c1) = AL at *
  have HZ0 : Hid _ := Z0
  clear Z0 hm hv
  go_enter Try.func35, Try.ntmps35
  go_wp2_with fail
  go_quiet (fail)
  go_wp2_with fail
  refine (HA.out _ (by first | exact below_drewN _ _ | exact (Below.refl _ _).drew | exact Below.refl _ _ | (refine ⟨rfl, rfl, rfl, Nat.le_refl _, fun _ _ => rfl⟩))).mono ?_
  rintro e w2 ⟨v, rfl, hown, hb2⟩
  have b2 : Below w.heap.size w w2 := by
    refine B0.trans (Below.mono (B := W0.heap.size) ?_ (by have := HZ0.out; omega))
    first | exact hb2 | (refine ⟨hb2.os, hb2.tape, hb2.output, hb2.size, hb2.block⟩)
  have HOW : Hid (w2.ownsRow w.heap.size 38 3 v AL.length (sL AL)) := own_base hown (by have := HZ0.out; first | omega | (simp [World.drewN]; omega) | (show w.heap.size ≤ W0.heap.size; omega))
  obtain ⟨vp, vc, rfl⟩ := own_form hown
  clear hown hb2
  by_cases hlt : AL.length < 3
  · have hd : decide ((AL.length : Int) < 3) = true := by simp only [decide_eq_true_eq]; omega
    go_wp2
    go_ret
    exact ⟨_, rfl, by rw [HQ.out, if_pos hlt]; rfl, b2⟩
  · have hd : decide ((AL.length : Int) < 3) = false := by simp only [decide_eq_false_iff_not]; omega
    have HF : Hid (∃ g cs, vp = some ⟨g, 0, none⟩ ∧ w.heap.size ≤ g ∧ Blk w2 g cs 38 ∧ AL.length ≤ vc ∧ cs.toList.take (AL.length * 3) = sL AL) := by
      rcases HOW.out.2 with ⟨h1, h2⟩ | ⟨g, cap, cur, h1, h2, h3, h4, h5, h6, h7⟩
      · omega
      · injection h1 with h1 _ h1'
        subst h1 h1'
        exact ⟨g, cur, rfl, h2, h3, h4, h7⟩
    obtain ⟨g, cs, hvp, hg, hB, hcap, htk⟩ := HF.out
    subst hvp
    have HB : Hid _ := hB
    have HT : Hid _ := htk
    have hc2 : (3 : Int) ≤ vc := by omega
    have hc3 : 3 ≤ vc := by omega
    clear HF hB htk
    go_wp2
    go_ret
    refine ⟨.slice (some ⟨g, 0, none⟩) 3 vc, rfl, ?_, b2⟩
    rw [HQ.out, if_neg hlt]
    have hl : (AL.take 3).length = 3 := by simp; omega
    refine ⟨fun e => by rw [e] at hl; simp at hl, Or.inr ⟨g, vc, cs, by rw [hl], fun e => by rw [e] at hl; simp at hl, by omega, hg, HB.out, ?_⟩⟩
    rw [hl, sL_take, ← HT.out, List.take_take, Nat.min_eq_left (by omega)]

set_option maxHeartbeats 4000000 in
set_option maxRecDepth 100000 in
theorem quorum7 (p : Nat) (o : Option Nat) (l : Vts) (c0 : Int) (c1 : ByteArray) (w : World) (hm : MapAt w o l) (hv : VOk 7 l) (hp : w.cell? ⟨p, 0, none⟩ = some (.int .i64 7)) :
    Calls Try.prog 35 #[.pointer (some ⟨p, 0, none⟩), .map o, .agg #[.int .i64 c0, .string c1]] w fun e w' => ∃ v, e = .returned v ∧ QrV w' w.heap.size v (qrm 7 l (c0, c1)) ∧ Below w.heap.size w w' := by
  have hpl := World.block_lt_of_cell? w _ hp
  obtain ⟨W0, hW0, XC, B0, Z0⟩ : ∃ W0, (w.alloc (.cells #[.int .i64 c0, .string c1] 59)) = W0 ∧ Blk W0 w.heap.size #[.int .i64 c0, .string c1] 59 ∧ Below w.heap.size w W0 ∧ W0.heap.size = w.heap.size + 1 :=
    ⟨_, rfl, blk_new _ _ _ _ rfl, by go_grown, by simp⟩
  have hp0 : W0.cell? ⟨p, 0, none⟩ = some (.int .i64 7) := (B0.cell (p := ⟨p, 0, none⟩) hpl).trans hp
  have x0 : W0.cell? ⟨w.heap.size, 0, none⟩ = some (.int .i64 c0) := XC.cell rfl
  have x1 : W0.cell? ⟨w.heap.size, 1, none⟩ = some (.string c1) := XC.cell rfl
  have HA : Hid (∀ wx, Below W0.heap.size W0 wx → Calls Try.prog 46 #[.map o, .agg #[.int .i64 c0, .string c1]] wx fun e w' => ∃ v, e = .returned v ∧ w'.ownsRow wx.heap.size 38 3 v (alk 7 l (c0, c1)).length (sL (alk 7 l (c0, c1))) ∧ Below wx.heap.size wx w') :=
    fun wx hb => alike_calls 7 o l c0 c1 wx ((hm.below B0).below hb) hv (by decide)
  have HQ : Hid (qrm 7 l (c0, c1) = if (alk 7 l (c0, c1)).length < 5 then none else some ((alk 7 l (c0, c1)).take 5)) := rfl
  have HL : Hid ((alk 7 l (c0, c1)).length ≤ 7) := alk_len l (c0, c1)
  generalize alk 7 l (c0, c1) = AL at *
  have HZ0 : Hid _ := Z0
  clear Z0 hm hv
  go_enter Try.func35, Try.ntmps35
  go_wp2_with fail
  go_quiet (fail)
  go_wp2_with fail
  refine (HA.out _ (by first | exact below_drewN _ _ | exact (Below.refl _ _).drew | exact Below.refl _ _ | (refine ⟨rfl, rfl, rfl, Nat.le_refl _, fun _ _ => rfl⟩))).mono ?_
  rintro e w2 ⟨v, rfl, hown, hb2⟩
  have b2 : Below w.heap.size w w2 := by
    refine B0.trans (Below.mono (B := W0.heap.size) ?_ (by have := HZ0.out; omega))
    first | exact hb2 | (refine ⟨hb2.os, hb2.tape, hb2.output, hb2.size, hb2.block⟩)
  have HOW : Hid (w2.ownsRow w.heap.size 38 3 v AL.length (sL AL)) := own_base hown (by have := HZ0.out; first | omega | (simp [World.drewN]; omega) | (show w.heap.size ≤ W0.heap.size; omega))
  obtain ⟨vp, vc, rfl⟩ := own_form hown
  clear hown hb2
  by_cases hlt : AL.length < 5
  · have hd : decide ((AL.length : Int) < 5) = true := by simp only [decide_eq_true_eq]; omega
    go_wp2
    go_ret
    exact ⟨_, rfl, by rw [HQ.out, if_pos hlt]; rfl, b2⟩
  · have hd : decide ((AL.length : Int) < 5) = false := by simp only [decide_eq_false_iff_not]; omega
    have HF : Hid (∃ g cs, vp = some ⟨g, 0, none⟩ ∧ w.heap.size ≤ g ∧ Blk w2 g cs 38 ∧ AL.length ≤ vc ∧ cs.toList.take (AL.length * 3) = sL AL) := by
      rcases HOW.out.2 with ⟨h1, h2⟩ | ⟨g, cap, cur, h1, h2, h3, h4, h5, h6, h7⟩
      · omega
      · injection h1 with h1 _ h1'
        subst h1 h1'
        exact ⟨g, cur, rfl, h2, h3, h4, h7⟩
    obtain ⟨g, cs, hvp, hg, hB, hcap, htk⟩ := HF.out
    subst hvp
    have HB : Hid _ := hB
    have HT : Hid _ := htk
    have hc2 : (5 : Int) ≤ vc := by omega
    have hc3 : 5 ≤ vc := by omega
    clear HF hB htk
    go_wp2
    go_ret
    refine ⟨.slice (some ⟨g, 0, none⟩) 5 vc, rfl, ?_, b2⟩
    rw [HQ.out, if_neg hlt]
    have hl : (AL.take 5).length = 5 := by simp; omega
    refine ⟨fun e => by rw [e] at hl; simp at hl, Or.inr ⟨g, vc, cs, by rw [hl], fun e => by rw [e] at hl; simp at hl, by omega, hg, HB.out, ?_⟩⟩
    rw [hl, sL_take, ← HT.out, List.take_take, Nat.min_eq_left (by omega)]

set_option maxHeartbeats 4000000 in
set_option maxRecDepth 100000 in
theorem quorum10 (p : Nat) (o : Option Nat) (l : Vts) (c0 : Int) (c1 : ByteArray) (w : World) (hm : MapAt w o l) (hv : VOk 10 l) (hp : w.cell? ⟨p, 0, none⟩ = some (.int .i64 10)) :
    Calls Try.prog 35 #[.pointer (some ⟨p, 0, none⟩), .map o, .agg #[.int .i64 c0, .string c1]] w fun e w' => ∃ v, e = .returned v ∧ QrV w' w.heap.size v (qrm 10 l (c0, c1)) ∧ Below w.heap.size w w' := by
  have hpl := World.block_lt_of_cell? w _ hp
  obtain ⟨W0, hW0, XC, B0, Z0⟩ : ∃ W0, (w.alloc (.cells #[.int .i64 c0, .string c1] 59)) = W0 ∧ Blk W0 w.heap.size #[.int .i64 c0, .string c1] 59 ∧ Below w.heap.size w W0 ∧ W0.heap.size = w.heap.size + 1 :=
    ⟨_, rfl, blk_new _ _ _ _ rfl, by go_grown, by simp⟩
  have hp0 : W0.cell? ⟨p, 0, none⟩ = some (.int .i64 10) := (B0.cell (p := ⟨p, 0, none⟩) hpl).trans hp
  have x0 : W0.cell? ⟨w.heap.size, 0, none⟩ = some (.int .i64 c0) := XC.cell rfl
  have x1 : W0.cell? ⟨w.heap.size, 1, none⟩ = some (.string c1) := XC.cell rfl
  have HA : Hid (∀ wx, Below W0.heap.size W0 wx → Calls Try.prog 46 #[.map o, .agg #[.int .i64 c0, .string c1]] wx fun e w' => ∃ v, e = .returned v ∧ w'.ownsRow wx.heap.size 38 3 v (alk 10 l (c0, c1)).length (sL (alk 10 l (c0, c1))) ∧ Below wx.heap.size wx w') :=
    fun wx hb => alike_calls 10 o l c0 c1 wx ((hm.below B0).below hb) hv (by decide)
  have HQ : Hid (qrm 10 l (c0, c1) = if (alk 10 l (c0, c1)).length < 7 then none else some ((alk 10 l (c0, c1)).take 7)) := rfl
  have HL : Hid ((alk 10 l (c0, c1)).length ≤ 10) := alk_len l (c0, c1)
  generalize alk 10 l (c0, c1) = AL at *
  have HZ0 : Hid _ := Z0
  clear Z0 hm hv
  go_enter Try.func35, Try.ntmps35
  go_wp2_with fail
  go_quiet (fail)
  go_wp2_with fail
  refine (HA.out _ (by first | exact below_drewN _ _ | exact (Below.refl _ _).drew | exact Below.refl _ _ | (refine ⟨rfl, rfl, rfl, Nat.le_refl _, fun _ _ => rfl⟩))).mono ?_
  rintro e w2 ⟨v, rfl, hown, hb2⟩
  have b2 : Below w.heap.size w w2 := by
    refine B0.trans (Below.mono (B := W0.heap.size) ?_ (by have := HZ0.out; omega))
    first | exact hb2 | (refine ⟨hb2.os, hb2.tape, hb2.output, hb2.size, hb2.block⟩)
  have HOW : Hid (w2.ownsRow w.heap.size 38 3 v AL.length (sL AL)) := own_base hown (by have := HZ0.out; first | omega | (simp [World.drewN]; omega) | (show w.heap.size ≤ W0.heap.size; omega))
  obtain ⟨vp, vc, rfl⟩ := own_form hown
  clear hown hb2
  by_cases hlt : AL.length < 7
  · have hd : decide ((AL.length : Int) < 7) = true := by simp only [decide_eq_true_eq]; omega
    go_wp2
    go_ret
    exact ⟨_, rfl, by rw [HQ.out, if_pos hlt]; rfl, b2⟩
  · have hd : decide ((AL.length : Int) < 7) = false := by simp only [decide_eq_false_iff_not]; omega
    have HF : Hid (∃ g cs, vp = some ⟨g, 0, none⟩ ∧ w.heap.size ≤ g ∧ Blk w2 g cs 38 ∧ AL.length ≤ vc ∧ cs.toList.take (AL.length * 3) = sL AL) := by
      rcases HOW.out.2 with ⟨h1, h2⟩ | ⟨g, cap, cur, h1, h2, h3, h4, h5, h6, h7⟩
      · omega
      · injection h1 with h1 _ h1'
        subst h1 h1'
        exact ⟨g, cur, rfl, h2, h3, h4, h7⟩
    obtain ⟨g, cs, hvp, hg, hB, hcap, htk⟩ := HF.out
    subst hvp
    have HB : Hid _ := hB
    have HT : Hid _ := htk
    have hc2 : (7 : Int) ≤ vc := by omega
    have hc3 : 7 ≤ vc := by omega
    clear HF hB htk
    go_wp2
    go_ret
    refine ⟨.slice (some ⟨g, 0, none⟩) 7 vc, rfl, ?_, b2⟩
    rw [HQ.out, if_neg hlt]
    have hl : (AL.take 7).length = 7 := by simp; omega
    refine ⟨fun e => by rw [e] at hl; simp at hl, Or.inr ⟨g, vc, cs, by rw [hl], fun e => by rw [e] at hl; simp at hl, by omega, hg, HB.out, ?_⟩⟩
    rw [hl, sL_take, ← HT.out, List.take_take, Nat.min_eq_left (by omega)]

set_option maxHeartbeats 4000000 in
set_option maxRecDepth 100000 in
theorem quorum13 (p : Nat) (o : Option Nat) (l : Vts) (c0 : Int) (c1 : ByteArray) (w : World) (hm : MapAt w o l) (hv : VOk 13 l) (hp : w.cell? ⟨p, 0, none⟩ = some (.int .i64 13)) :
    Calls Try.prog 35 #[.pointer (some ⟨p, 0, none⟩), .map o, .agg #[.int .i64 c0, .string c1]] w fun e w' => ∃ v, e = .returned v ∧ QrV w' w.heap.size v (qrm 13 l (c0, c1)) ∧ Below w.heap.size w w' := by
  have hpl := World.block_lt_of_cell? w _ hp
  obtain ⟨W0, hW0, XC, B0, Z0⟩ : ∃ W0, (w.alloc (.cells #[.int .i64 c0, .string c1] 59)) = W0 ∧ Blk W0 w.heap.size #[.int .i64 c0, .string c1] 59 ∧ Below w.heap.size w W0 ∧ W0.heap.size = w.heap.size + 1 :=
    ⟨_, rfl, blk_new _ _ _ _ rfl, by go_grown, by simp⟩
  have hp0 : W0.cell? ⟨p, 0, none⟩ = some (.int .i64 13) := (B0.cell (p := ⟨p, 0, none⟩) hpl).trans hp
  have x0 : W0.cell? ⟨w.heap.size, 0, none⟩ = some (.int .i64 c0) := XC.cell rfl
  have x1 : W0.cell? ⟨w.heap.size, 1, none⟩ = some (.string c1) := XC.cell rfl
  have HA : Hid (∀ wx, Below W0.heap.size W0 wx → Calls Try.prog 46 #[.map o, .agg #[.int .i64 c0, .string c1]] wx fun e w' => ∃ v, e = .returned v ∧ w'.ownsRow wx.heap.size 38 3 v (alk 13 l (c0, c1)).length (sL (alk 13 l (c0, c1))) ∧ Below wx.heap.size wx w') :=
    fun wx hb => alike_calls 13 o l c0 c1 wx ((hm.below B0).below hb) hv (by decide)
  have HQ : Hid (qrm 13 l (c0, c1) = if (alk 13 l (c0, c1)).length < 9 then none else some ((alk 13 l (c0, c1)).take 9)) := rfl
  have HL : Hid ((alk 13 l (c0, c1)).length ≤ 13) := alk_len l (c0, c1)
  generalize alk 13 l (c0, c1) = AL at *
  have HZ0 : Hid _ := Z0
  clear Z0 hm hv
  go_enter Try.func35, Try.ntmps35
  go_wp2_with fail
  go_quiet (fail)
  go_wp2_with fail
  refine (HA.out _ (by first | exact below_drewN _ _ | exact (Below.refl _ _).drew | exact Below.refl _ _ | (refine ⟨rfl, rfl, rfl, Nat.le_refl _, fun _ _ => rfl⟩))).mono ?_
  rintro e w2 ⟨v, rfl, hown, hb2⟩
  have b2 : Below w.heap.size w w2 := by
    refine B0.trans (Below.mono (B := W0.heap.size) ?_ (by have := HZ0.out; omega))
    first | exact hb2 | (refine ⟨hb2.os, hb2.tape, hb2.output, hb2.size, hb2.block⟩)
  have HOW : Hid (w2.ownsRow w.heap.size 38 3 v AL.length (sL AL)) := own_base hown (by have := HZ0.out; first | omega | (simp [World.drewN]; omega) | (show w.heap.size ≤ W0.heap.size; omega))
  obtain ⟨vp, vc, rfl⟩ := own_form hown
  clear hown hb2
  by_cases hlt : AL.length < 9
  · have hd : decide ((AL.length : Int) < 9) = true := by simp only [decide_eq_true_eq]; omega
    go_wp2
    go_ret
    exact ⟨_, rfl, by rw [HQ.out, if_pos hlt]; rfl, b2⟩
  · have hd : decide ((AL.length : Int) < 9) = false := by simp only [decide_eq_false_iff_not]; omega
    have HF : Hid (∃ g cs, vp = some ⟨g, 0, none⟩ ∧ w.heap.size ≤ g ∧ Blk w2 g cs 38 ∧ AL.length ≤ vc ∧ cs.toList.take (AL.length * 3) = sL AL) := by
      rcases HOW.out.2 with ⟨h1, h2⟩ | ⟨g, cap, cur, h1, h2, h3, h4, h5, h6, h7⟩
      · omega
      · injection h1 with h1 _ h1'
        subst h1 h1'
        exact ⟨g, cur, rfl, h2, h3, h4, h7⟩
    obtain ⟨g, cs, hvp, hg, hB, hcap, htk⟩ := HF.out
    subst hvp
    have HB : Hid _ := hB
    have HT : Hid _ := htk
    have hc2 : (9 : Int) ≤ vc := by omega
    have hc3 : 9 ≤ vc := by omega
    clear HF hB htk
    go_wp2
    go_ret
    refine ⟨.slice (some ⟨g, 0, none⟩) 9 vc, rfl, ?_, b2⟩
    rw [HQ.out, if_neg hlt]
    have hl : (AL.take 9).length = 9 := by simp; omega
    refine ⟨fun e => by rw [e] at hl; simp at hl, Or.inr ⟨g, vc, cs, by rw [hl], fun e => by rw [e] at hl; simp at hl, by omega, hg, HB.out, ?_⟩⟩
    rw [hl, sL_take, ← HT.out, List.take_take, Nat.min_eq_left (by omega)]

/-- The numbers of replicas that a consortium may have. -/
def Nok (n : Nat) : Prop := n = 4 ∨ n = 7 ∨ n = 10 ∨ n = 13
theorem quorum_calls (n p : Nat) (o : Option Nat) (l : Vts) (c0 : Int) (c1 : ByteArray) (w : World) (hn : Nok n) (hm : MapAt w o l) (hv : VOk n l) (hp : w.cell? ⟨p, 0, none⟩ = some (.int .i64 n)) :
    Calls Try.prog 35 #[.pointer (some ⟨p, 0, none⟩), .map o, .agg #[.int .i64 c0, .string c1]] w fun e w' => ∃ v, e = .returned v ∧ QrV w' w.heap.size v (qrm n l (c0, c1)) ∧ Below w.heap.size w w' := by
  rcases hn with rfl | rfl | rfl | rfl
  · exact quorum4 p o l c0 c1 w hm hv hp
  · exact quorum7 p o l c0 c1 w hm hv hp
  · exact quorum10 p o l c0 c1 w hm hv hp
  · exact quorum13 p o l c0 c1 w hm hv hp
end Go.Proofs.Ytjpmnmgnbpecjaa
