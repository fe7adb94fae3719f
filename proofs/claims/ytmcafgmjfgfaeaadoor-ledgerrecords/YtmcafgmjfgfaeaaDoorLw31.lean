/- What the document makes of a call is what the program makes of it. -/
import Derived.Test.YtmcafgmjfgfaeaaDoorLw29
import Derived.Test.YtmcafgmjfgfaeaaDoorLw12
import Derived.Deep.RegionHeld
namespace Go.Proofs.YtmcafgmjfgfaeaaDoor
open Go.RowKit
set_option linter.unusedSimpArgs false
set_option linter.unusedVariables false
variable {g base : Nat} {m l : List Kt}
theorem gate_congr {e : Int} {b b' : Int × List Kt} (h : e = 0 → b = b') : gate e l b = gate e l b' := by
  unfold gate; split
  · next he => exact h he
  · rfl
theorem ptOf_ok {c : Nat} {good n : Int} {named : List Int} (hg : g ≤ 4) (h : refG g c good n named = 0) : apf (ptOf good).toNat = 2 + good.toNat ∧ hpf (ptOf good).toNat = 6 + good.toNat := by
  obtain ⟨_, q, rfl, hq⟩ := refG_ok h
  have e : (ptOf (q : Int)).toNat = q + 1 := by unfold ptOf; rw [if_neg (by omega)]; omega
  rw [e]
  unfold apf hpf
  rw [if_neg (by omega), if_neg (by omega)]
  omega
theorem step_ifR {P : Program} {ops : Array Oper} {o : Oper} {a : Act} {w : World} {K : Act → World → Prop} {Q : Exit → Act → World → Prop} {E : Prop} (hg : o.guard = none) (h : Oper.wp P o a w K Q) :
    if Region.wanted o (yielded ops a.tmps) = true then Oper.wp P o a w K Q else E := by
  have hw : Region.wanted o (yielded ops a.tmps) = true := by simp [Region.wanted, hg]
  rw [if_pos hw]; exact h
def actA (a : Ac) : Array Value := #[.int .i64 a.kind, .int .i64 a.who, .int .i64 a.dst, .int .i64 a.good, .int .i64 a.n, .string a.text]

set_option maxRecDepth 100000 in
set_option maxHeartbeats 2000000 in
theorem told_0 (w : World) (v : Value) (a : Ac) (h : Rm w base v m) (S : Sim m l) (H : Inv g l) (hbase : base ≤ w.heap.size) (hk : rest a.kind 11 = 0) :
    Calls Tryd.prog 7 #[.agg #[.int .i64 g, v], a.val] w (Told (act g l a) g base w) := by
  have hg4 := H.g4
  obtain ⟨q, cap, rfl, hbq, hq, hcap, _⟩ := h.at (by rw [S.len]; exact H.pos)
  obtain ⟨W1, hW1, X1, A1, Y1, B1, Z1⟩ : ∃ W1, (((w.alloc (.cells #[.int .i64 g, .slice (some ⟨q, 0, none⟩) m.length cap] 29)).alloc (.cells #[.int .i64 a.kind, .int .i64 a.who, .int .i64 a.dst, .int .i64 a.good, .int .i64 a.n, .string a.text] 24)).alloc (.cells #[.int .i64 0, .slice none 0 0] 29)) = W1 ∧ Blk W1 w.heap.size (rlA g (.slice (some ⟨q, 0, none⟩) m.length cap)) 29 ∧ Blk W1 (w.heap.size + 1) (actA a) 24 ∧ Blk W1 (w.heap.size + 2) (rlA 0 (.slice none 0 0)) 29 ∧ Below w.heap.size w W1 ∧ W1.heap.size = w.heap.size + 3 :=
    ⟨_, rfl, ((blk_new _ _ _ _ rfl).alloc _).alloc _, (blk_new _ _ _ _ (by simp)).alloc _, blk_new _ _ _ _ (by simp), by go_grown, by simp⟩
  have har := around_calls a.kind 11 W1 (by omega) (by omega)
  rw [show ((rest a.kind (11 : Int).toNat : Nat) : Int) = 0 by rw [show (11 : Int).toNat = 11 from rfl, hk]; rfl] at har
  have e0 : W1.cell? ⟨w.heap.size + 1, 0, none⟩ = some (.int .i64 a.kind) := A1.cell rfl
  have e1 : W1.cell? ⟨w.heap.size + 1, 1, none⟩ = some (.int .i64 a.who) := A1.cell rfl
  have e2 : W1.cell? ⟨w.heap.size + 1, 2, none⟩ = some (.int .i64 a.dst) := A1.cell rfl
  have e3 : W1.cell? ⟨w.heap.size + 1, 3, none⟩ = some (.int .i64 a.good) := A1.cell rfl
  have e4 : W1.cell? ⟨w.heap.size + 1, 4, none⟩ = some (.int .i64 a.n) := A1.cell rfl
  have e5 : W1.cell? ⟨w.heap.size + 1, 5, none⟩ = some (.string a.text) := A1.cell rfl
  have c0 : W1.cell? ⟨w.heap.size, 0, none⟩ = some (.int .i64 g) := X1.cell rfl
  have c1 : W1.cell? ⟨w.heap.size, 1, none⟩ = some (.slice (some ⟨q, 0, none⟩) m.length cap) := X1.cell rfl
  have R1 := h.below B1
  have hr : gate (refPt g l.length 0 a.n [a.who]) l (inR l a.who.toNat (apf (0 : Int).toNat) a.n) = act g l a := by rw [refPt_cash, act_eq0 hk]; rfl
  have HF : Hid _ := in_ref (base := base) W1 _ a.who 0 a.n R1 S H (by omega) _ hr
  clear hk hr
  generalize act g l a = r at *
  unfold Ac.val
  go_enter Tryd.func7, Tryd.ntmps7
  go_wp2_with fail
  refine har.mono ?_
  rintro e w1 ⟨rfl, rfl⟩
  go_wp2_with fail
  refine Calls.mono HF.out ?_
  rintro e w2 ⟨q2, cap2, m2, rfl, R2, S2, b2⟩
  have z2 := b2.size
  have Y2 := Y1.below b2
  obtain ⟨W9, hW9, Y9, R9, B9⟩ : ∃ W9, w2.setRow (w.heap.size + 2) (rlA g (.slice (some ⟨q2, 0, none⟩) m2.length cap2)) = W9 ∧ Blk W9 (w.heap.size + 2) (rlA g (.slice (some ⟨q2, 0, none⟩) m2.length cap2)) 29 ∧ Rm W9 base (.slice (some ⟨q2, 0, none⟩) m2.length cap2) m2 ∧ Below w.heap.size w W9 := ⟨_, rfl, Blk.setRow Y2 _, Rm.row R2 Y2 _, below_setRow (B1.trans (b2.mono (by omega))) _ _ (by omega)⟩
  have s0 : W9.cell? ⟨w.heap.size + 2, 0, none⟩ = some (.int .i64 g) := Y9.cell rfl
  have s1 : W9.cell? ⟨w.heap.size + 2, 1, none⟩ = some (.slice (some ⟨q2, 0, none⟩) m2.length cap2) := Y9.cell rfl
  go_wp2_with ((with_reducible refine st_row (ty := 29) (cs' := rlA g (.slice (some ⟨q2, 0, none⟩) m2.length cap2)) Y2 (rlA_info _ _) (rlA_same _ _ _ _) (rlA_one _ _ _ _) hW9 ?_ ?_ ?_); rfl; rfl)
  try simp only [Exit.inBlock, Exit.then]
  refine bodyPost_ret (by simp [results, Tryd.results7, go_sem, s0, s1]; rfl) rfl ?_
  exact ⟨q2, cap2, m2, rfl, R9, S2, B9⟩

set_option maxRecDepth 100000 in
set_option maxHeartbeats 2000000 in
theorem told_1 (w : World) (v : Value) (a : Ac) (h : Rm w base v m) (S : Sim m l) (H : Inv g l) (hbase : base ≤ w.heap.size) (hk : rest a.kind 11 = 1) :
    Calls Tryd.prog 7 #[.agg #[.int .i64 g, v], a.val] w (Told (act g l a) g base w) := by
  have hg4 := H.g4
  obtain ⟨q, cap, rfl, hbq, hq, hcap, _⟩ := h.at (by rw [S.len]; exact H.pos)
  obtain ⟨W1, hW1, X1, A1, Y1, B1, Z1⟩ : ∃ W1, (((w.alloc (.cells #[.int .i64 g, .slice (some ⟨q, 0, none⟩) m.length cap] 29)).alloc (.cells #[.int .i64 a.kind, .int .i64 a.who, .int .i64 a.dst, .int .i64 a.good, .int .i64 a.n, .string a.text] 24)).alloc (.cells #[.int .i64 0, .slice none 0 0] 29)) = W1 ∧ Blk W1 w.heap.size (rlA g (.slice (some ⟨q, 0, none⟩) m.length cap)) 29 ∧ Blk W1 (w.heap.size + 1) (actA a) 24 ∧ Blk W1 (w.heap.size + 2) (rlA 0 (.slice none 0 0)) 29 ∧ Below w.heap.size w W1 ∧ W1.heap.size = w.heap.size + 3 :=
    ⟨_, rfl, ((blk_new _ _ _ _ rfl).alloc _).alloc _, (blk_new _ _ _ _ (by simp)).alloc _, blk_new _ _ _ _ (by simp), by go_grown, by simp⟩
  have har := around_calls a.kind 11 W1 (by omega) (by omega)
  rw [show ((rest a.kind (11 : Int).toNat : Nat) : Int) = 1 by rw [show (11 : Int).toNat = 11 from rfl, hk]; rfl] at har
  have e0 : W1.cell? ⟨w.heap.size + 1, 0, none⟩ = some (.int .i64 a.kind) := A1.cell rfl
  have e1 : W1.cell? ⟨w.heap.size + 1, 1, none⟩ = some (.int .i64 a.who) := A1.cell rfl
  have e2 : W1.cell? ⟨w.heap.size + 1, 2, none⟩ = some (.int .i64 a.dst) := A1.cell rfl
  have e3 : W1.cell? ⟨w.heap.size + 1, 3, none⟩ = some (.int .i64 a.good) := A1.cell rfl
  have e4 : W1.cell? ⟨w.heap.size + 1, 4, none⟩ = some (.int .i64 a.n) := A1.cell rfl
  have e5 : W1.cell? ⟨w.heap.size + 1, 5, none⟩ = some (.string a.text) := A1.cell rfl
  have c0 : W1.cell? ⟨w.heap.size, 0, none⟩ = some (.int .i64 g) := X1.cell rfl
  have c1 : W1.cell? ⟨w.heap.size, 1, none⟩ = some (.slice (some ⟨q, 0, none⟩) m.length cap) := X1.cell rfl
  have R1 := h.below B1
  have hr : gate (refPt g l.length 0 a.n [a.who]) l (outR l a.who.toNat (apf (0 : Int).toNat) (hpf (0 : Int).toNat) a.n) = act g l a := by rw [refPt_cash, act_eq1 hk]; rfl
  have HF : Hid _ := out_told (base := base) W1 _ a.who 0 a.n R1 S H (by omega) _ hr
  clear hk hr
  generalize act g l a = r at *
  unfold Ac.val
  go_enter Tryd.func7, Tryd.ntmps7
  go_wp2_with fail
  refine har.mono ?_
  rintro e w1 ⟨rfl, rfl⟩
  go_wp2_with fail
  refine Calls.mono HF.out ?_
  rintro e w2 ⟨q2, cap2, m2, rfl, R2, S2, b2⟩
  have z2 := b2.size
  have Y2 := Y1.below b2
  obtain ⟨W9, hW9, Y9, R9, B9⟩ : ∃ W9, w2.setRow (w.heap.size + 2) (rlA g (.slice (some ⟨q2, 0, none⟩) m2.length cap2)) = W9 ∧ Blk W9 (w.heap.size + 2) (rlA g (.slice (some ⟨q2, 0, none⟩) m2.length cap2)) 29 ∧ Rm W9 base (.slice (some ⟨q2, 0, none⟩) m2.length cap2) m2 ∧ Below w.heap.size w W9 := ⟨_, rfl, Blk.setRow Y2 _, Rm.row R2 Y2 _, below_setRow (B1.trans (b2.mono (by omega))) _ _ (by omega)⟩
  have s0 : W9.cell? ⟨w.heap.size + 2, 0, none⟩ = some (.int .i64 g) := Y9.cell rfl
  have s1 : W9.cell? ⟨w.heap.size + 2, 1, none⟩ = some (.slice (some ⟨q2, 0, none⟩) m2.length cap2) := Y9.cell rfl
  go_wp2_with ((with_reducible refine st_row (ty := 29) (cs' := rlA g (.slice (some ⟨q2, 0, none⟩) m2.length cap2)) Y2 (rlA_info _ _) (rlA_same _ _ _ _) (rlA_one _ _ _ _) hW9 ?_ ?_ ?_); rfl; rfl)
  try simp only [Exit.inBlock, Exit.then]
  refine bodyPost_ret (by simp [results, Tryd.results7, go_sem, s0, s1]; rfl) rfl ?_
  exact ⟨q2, cap2, m2, rfl, R9, S2, B9⟩

set_option maxRecDepth 100000 in
set_option maxHeartbeats 2000000 in
theorem told_4 (w : World) (v : Value) (a : Ac) (h : Rm w base v m) (S : Sim m l) (H : Inv g l) (hbase : base ≤ w.heap.size) (hk : rest a.kind 11 = 4) :
    Calls Tryd.prog 7 #[.agg #[.int .i64 g, v], a.val] w (Told (act g l a) g base w) := by
  have hg4 := H.g4
  obtain ⟨q, cap, rfl, hbq, hq, hcap, _⟩ := h.at (by rw [S.len]; exact H.pos)
  obtain ⟨W1, hW1, X1, A1, Y1, B1, Z1⟩ : ∃ W1, (((w.alloc (.cells #[.int .i64 g, .slice (some ⟨q, 0, none⟩) m.length cap] 29)).alloc (.cells #[.int .i64 a.kind, .int .i64 a.who, .int .i64 a.dst, .int .i64 a.good, .int .i64 a.n, .string a.text] 24)).alloc (.cells #[.int .i64 0, .slice none 0 0] 29)) = W1 ∧ Blk W1 w.heap.size (rlA g (.slice (some ⟨q, 0, none⟩) m.length cap)) 29 ∧ Blk W1 (w.heap.size + 1) (actA a) 24 ∧ Blk W1 (w.heap.size + 2) (rlA 0 (.slice none 0 0)) 29 ∧ Below w.heap.size w W1 ∧ W1.heap.size = w.heap.size + 3 :=
    ⟨_, rfl, ((blk_new _ _ _ _ rfl).alloc _).alloc _, (blk_new _ _ _ _ (by simp)).alloc _, blk_new _ _ _ _ (by simp), by go_grown, by simp⟩
  have har := around_calls a.kind 11 W1 (by omega) (by omega)
  rw [show ((rest a.kind (11 : Int).toNat : Nat) : Int) = 4 by rw [show (11 : Int).toNat = 11 from rfl, hk]; rfl] at har
  have e0 : W1.cell? ⟨w.heap.size + 1, 0, none⟩ = some (.int .i64 a.kind) := A1.cell rfl
  have e1 : W1.cell? ⟨w.heap.size + 1, 1, none⟩ = some (.int .i64 a.who) := A1.cell rfl
  have e2 : W1.cell? ⟨w.heap.size + 1, 2, none⟩ = some (.int .i64 a.dst) := A1.cell rfl
  have e3 : W1.cell? ⟨w.heap.size + 1, 3, none⟩ = some (.int .i64 a.good) := A1.cell rfl
  have e4 : W1.cell? ⟨w.heap.size + 1, 4, none⟩ = some (.int .i64 a.n) := A1.cell rfl
  have e5 : W1.cell? ⟨w.heap.size + 1, 5, none⟩ = some (.string a.text) := A1.cell rfl
  have c0 : W1.cell? ⟨w.heap.size, 0, none⟩ = some (.int .i64 g) := X1.cell rfl
  have c1 : W1.cell? ⟨w.heap.size, 1, none⟩ = some (.slice (some ⟨q, 0, none⟩) m.length cap) := X1.cell rfl
  have R1 := h.below B1
  have hr : gate (refPt g l.length 0 a.n [a.who]) l (keepR l a.who.toNat (apf (0 : Int).toNat) (hpf (0 : Int).toNat) a.n) = act g l a := by rw [refPt_cash, act_eq4 hk]; rfl
  have HF : Hid _ := keep_ref (base := base) W1 _ a.who 0 a.n R1 S H (by omega) _ hr
  clear hk hr
  generalize act g l a = r at *
  unfold Ac.val
  go_enter Tryd.func7, Tryd.ntmps7
  go_wp2_with fail
  refine har.mono ?_
  rintro e w1 ⟨rfl, rfl⟩
  go_wp2_with fail
  refine Calls.mono HF.out ?_
  rintro e w2 ⟨q2, cap2, m2, rfl, R2, S2, b2⟩
  have z2 := b2.size
  have Y2 := Y1.below b2
  obtain ⟨W9, hW9, Y9, R9, B9⟩ : ∃ W9, w2.setRow (w.heap.size + 2) (rlA g (.slice (some ⟨q2, 0, none⟩) m2.length cap2)) = W9 ∧ Blk W9 (w.heap.size + 2) (rlA g (.slice (some ⟨q2, 0, none⟩) m2.length cap2)) 29 ∧ Rm W9 base (.slice (some ⟨q2, 0, none⟩) m2.length cap2) m2 ∧ Below w.heap.size w W9 := ⟨_, rfl, Blk.setRow Y2 _, Rm.row R2 Y2 _, below_setRow (B1.trans (b2.mono (by omega))) _ _ (by omega)⟩
  have s0 : W9.cell? ⟨w.heap.size + 2, 0, none⟩ = some (.int .i64 g) := Y9.cell rfl
  have s1 : W9.cell? ⟨w.heap.size + 2, 1, none⟩ = some (.slice (some ⟨q2, 0, none⟩) m2.length cap2) := Y9.cell rfl
  go_wp2_with ((with_reducible refine st_row (ty := 29) (cs' := rlA g (.slice (some ⟨q2, 0, none⟩) m2.length cap2)) Y2 (rlA_info _ _) (rlA_same _ _ _ _) (rlA_one _ _ _ _) hW9 ?_ ?_ ?_); rfl; rfl)
  try simp only [Exit.inBlock, Exit.then]
  refine bodyPost_ret (by simp [results, Tryd.results7, go_sem, s0, s1]; rfl) rfl ?_
  exact ⟨q2, cap2, m2, rfl, R9, S2, B9⟩

set_option maxRecDepth 100000 in
set_option maxHeartbeats 2000000 in
theorem told_5 (w : World) (v : Value) (a : Ac) (h : Rm w base v m) (S : Sim m l) (H : Inv g l) (hbase : base ≤ w.heap.size) (hk : rest a.kind 11 = 5) :
    Calls Tryd.prog 7 #[.agg #[.int .i64 g, v], a.val] w (Told (act g l a) g base w) := by
  have hg4 := H.g4
  obtain ⟨q, cap, rfl, hbq, hq, hcap, _⟩ := h.at (by rw [S.len]; exact H.pos)
  obtain ⟨W1, hW1, X1, A1, Y1, B1, Z1⟩ : ∃ W1, (((w.alloc (.cells #[.int .i64 g, .slice (some ⟨q, 0, none⟩) m.length cap] 29)).alloc (.cells #[.int .i64 a.kind, .int .i64 a.who, .int .i64 a.dst, .int .i64 a.good, .int .i64 a.n, .string a.text] 24)).alloc (.cells #[.int .i64 0, .slice none 0 0] 29)) = W1 ∧ Blk W1 w.heap.size (rlA g (.slice (some ⟨q, 0, none⟩) m.length cap)) 29 ∧ Blk W1 (w.heap.size + 1) (actA a) 24 ∧ Blk W1 (w.heap.size + 2) (rlA 0 (.slice none 0 0)) 29 ∧ Below w.heap.size w W1 ∧ W1.heap.size = w.heap.size + 3 :=
    ⟨_, rfl, ((blk_new _ _ _ _ rfl).alloc _).alloc _, (blk_new _ _ _ _ (by simp)).alloc _, blk_new _ _ _ _ (by simp), by go_grown, by simp⟩
  have har := around_calls a.kind 11 W1 (by omega) (by omega)
  rw [show ((rest a.kind (11 : Int).toNat : Nat) : Int) = 5 by rw [show (11 : Int).toNat = 11 from rfl, hk]; rfl] at har
  have e0 : W1.cell? ⟨w.heap.size + 1, 0, none⟩ = some (.int .i64 a.kind) := A1.cell rfl
  have e1 : W1.cell? ⟨w.heap.size + 1, 1, none⟩ = some (.int .i64 a.who) := A1.cell rfl
  have e2 : W1.cell? ⟨w.heap.size + 1, 2, none⟩ = some (.int .i64 a.dst) := A1.cell rfl
  have e3 : W1.cell? ⟨w.heap.size + 1, 3, none⟩ = some (.int .i64 a.good) := A1.cell rfl
  have e4 : W1.cell? ⟨w.heap.size + 1, 4, none⟩ = some (.int .i64 a.n) := A1.cell rfl
  have e5 : W1.cell? ⟨w.heap.size + 1, 5, none⟩ = some (.string a.text) := A1.cell rfl
  have c0 : W1.cell? ⟨w.heap.size, 0, none⟩ = some (.int .i64 g) := X1.cell rfl
  have c1 : W1.cell? ⟨w.heap.size, 1, none⟩ = some (.slice (some ⟨q, 0, none⟩) m.length cap) := X1.cell rfl
  have R1 := h.below B1
  have hr : gate (refPt g l.length 0 a.n [a.who]) l (looseR l a.who.toNat (hpf (0 : Int).toNat) a.n) = act g l a := by rw [refPt_cash, act_eq5 hk]; rfl
  have HF : Hid _ := loose_ref (base := base) W1 _ a.who 0 a.n R1 S H (by omega) _ hr
  clear hk hr
  generalize act g l a = r at *
  unfold Ac.val
  go_enter Tryd.func7, Tryd.ntmps7
  go_wp2_with fail
  refine har.mono ?_
  rintro e w1 ⟨rfl, rfl⟩
  go_wp2_with fail
  refine Calls.mono HF.out ?_
  rintro e w2 ⟨q2, cap2, m2, rfl, R2, S2, b2⟩
  have z2 := b2.size
  have Y2 := Y1.below b2
  obtain ⟨W9, hW9, Y9, R9, B9⟩ : ∃ W9, w2.setRow (w.heap.size + 2) (rlA g (.slice (some ⟨q2, 0, none⟩) m2.length cap2)) = W9 ∧ Blk W9 (w.heap.size + 2) (rlA g (.slice (some ⟨q2, 0, none⟩) m2.length cap2)) 29 ∧ Rm W9 base (.slice (some ⟨q2, 0, none⟩) m2.length cap2) m2 ∧ Below w.heap.size w W9 := ⟨_, rfl, Blk.setRow Y2 _, Rm.row R2 Y2 _, below_setRow (B1.trans (b2.mono (by omega))) _ _ (by omega)⟩
  have s0 : W9.cell? ⟨w.heap.size + 2, 0, none⟩ = some (.int .i64 g) := Y9.cell rfl
  have s1 : W9.cell? ⟨w.heap.size + 2, 1, none⟩ = some (.slice (some ⟨q2, 0, none⟩) m2.length cap2) := Y9.cell rfl
  go_wp2_with ((with_reducible refine st_row (ty := 29) (cs' := rlA g (.slice (some ⟨q2, 0, none⟩) m2.length cap2)) Y2 (rlA_info _ _) (rlA_same _ _ _ _) (rlA_one _ _ _ _) hW9 ?_ ?_ ?_); rfl; rfl)
  try simp only [Exit.inBlock, Exit.then]
  refine bodyPost_ret (by simp [results, Tryd.results7, go_sem, s0, s1]; rfl) rfl ?_
  exact ⟨q2, cap2, m2, rfl, R9, S2, B9⟩

set_option maxRecDepth 100000 in
set_option maxHeartbeats 2000000 in
theorem told_8 (w : World) (v : Value) (a : Ac) (h : Rm w base v m) (S : Sim m l) (H : Inv g l) (hbase : base ≤ w.heap.size) (hk : rest a.kind 11 = 8) :
    Calls Tryd.prog 7 #[.agg #[.int .i64 g, v], a.val] w (Told (act g l a) g base w) := by
  have hg4 := H.g4
  obtain ⟨q, cap, rfl, hbq, hq, hcap, _⟩ := h.at (by rw [S.len]; exact H.pos)
  obtain ⟨W1, hW1, X1, A1, Y1, B1, Z1⟩ : ∃ W1, (((w.alloc (.cells #[.int .i64 g, .slice (some ⟨q, 0, none⟩) m.length cap] 29)).alloc (.cells #[.int .i64 a.kind, .int .i64 a.who, .int .i64 a.dst, .int .i64 a.good, .int .i64 a.n, .string a.text] 24)).alloc (.cells #[.int .i64 0, .slice none 0 0] 29)) = W1 ∧ Blk W1 w.heap.size (rlA g (.slice (some ⟨q, 0, none⟩) m.length cap)) 29 ∧ Blk W1 (w.heap.size + 1) (actA a) 24 ∧ Blk W1 (w.heap.size + 2) (rlA 0 (.slice none 0 0)) 29 ∧ Below w.heap.size w W1 ∧ W1.heap.size = w.heap.size + 3 :=
    ⟨_, rfl, ((blk_new _ _ _ _ rfl).alloc _).alloc _, (blk_new _ _ _ _ (by simp)).alloc _, blk_new _ _ _ _ (by simp), by go_grown, by simp⟩
  have har := around_calls a.kind 11 W1 (by omega) (by omega)
  rw [show ((rest a.kind (11 : Int).toNat : Nat) : Int) = 8 by rw [show (11 : Int).toNat = 11 from rfl, hk]; rfl] at har
  have e0 : W1.cell? ⟨w.heap.size + 1, 0, none⟩ = some (.int .i64 a.kind) := A1.cell rfl
  have e1 : W1.cell? ⟨w.heap.size + 1, 1, none⟩ = some (.int .i64 a.who) := A1.cell rfl
  have e2 : W1.cell? ⟨w.heap.size + 1, 2, none⟩ = some (.int .i64 a.dst) := A1.cell rfl
  have e3 : W1.cell? ⟨w.heap.size + 1, 3, none⟩ = some (.int .i64 a.good) := A1.cell rfl
  have e4 : W1.cell? ⟨w.heap.size + 1, 4, none⟩ = some (.int .i64 a.n) := A1.cell rfl
  have e5 : W1.cell? ⟨w.heap.size + 1, 5, none⟩ = some (.string a.text) := A1.cell rfl
  have c0 : W1.cell? ⟨w.heap.size, 0, none⟩ = some (.int .i64 g) := X1.cell rfl
  have c1 : W1.cell? ⟨w.heap.size, 1, none⟩ = some (.slice (some ⟨q, 0, none⟩) m.length cap) := X1.cell rfl
  have R1 := h.below B1
  have hr : gate (refPt g l.length 0 a.n [a.who, a.dst]) l (overR l a.who.toNat a.dst.toNat (apf (0 : Int).toNat) (hpf (0 : Int).toNat) a.n) = act g l a := by rw [refPt_cash, act_eq8 hk]; rfl
  have HF : Hid _ := over_ref (base := base) W1 _ a.who a.dst 0 a.n R1 S H (by omega) _ hr
  clear hk hr
  generalize act g l a = r at *
  unfold Ac.val
  go_enter Tryd.func7, Tryd.ntmps7
  go_wp2_with fail
  refine har.mono ?_
  rintro e w1 ⟨rfl, rfl⟩
  go_wp2_with fail
  refine Calls.mono HF.out ?_
  rintro e w2 ⟨q2, cap2, m2, rfl, R2, S2, b2⟩
  have z2 := b2.size
  have Y2 := Y1.below b2
  obtain ⟨W9, hW9, Y9, R9, B9⟩ : ∃ W9, w2.setRow (w.heap.size + 2) (rlA g (.slice (some ⟨q2, 0, none⟩) m2.length cap2)) = W9 ∧ Blk W9 (w.heap.size + 2) (rlA g (.slice (some ⟨q2, 0, none⟩) m2.length cap2)) 29 ∧ Rm W9 base (.slice (some ⟨q2, 0, none⟩) m2.length cap2) m2 ∧ Below w.heap.size w W9 := ⟨_, rfl, Blk.setRow Y2 _, Rm.row R2 Y2 _, below_setRow (B1.trans (b2.mono (by omega))) _ _ (by omega)⟩
  have s0 : W9.cell? ⟨w.heap.size + 2, 0, none⟩ = some (.int .i64 g) := Y9.cell rfl
  have s1 : W9.cell? ⟨w.heap.size + 2, 1, none⟩ = some (.slice (some ⟨q2, 0, none⟩) m2.length cap2) := Y9.cell rfl
  go_wp2_with ((with_reducible refine st_row (ty := 29) (cs' := rlA g (.slice (some ⟨q2, 0, none⟩) m2.length cap2)) Y2 (rlA_info _ _) (rlA_same _ _ _ _) (rlA_one _ _ _ _) hW9 ?_ ?_ ?_); rfl; rfl)
  try simp only [Exit.inBlock, Exit.then]
  refine bodyPost_ret (by simp [results, Tryd.results7, go_sem, s0, s1]; rfl) rfl ?_
  exact ⟨q2, cap2, m2, rfl, R9, S2, B9⟩

set_option maxRecDepth 100000 in
set_option maxHeartbeats 2000000 in
theorem told_10 (w : World) (v : Value) (a : Ac) (h : Rm w base v m) (S : Sim m l) (H : Inv g l) (hbase : base ≤ w.heap.size) (hk : rest a.kind 11 = 10) :
    Calls Tryd.prog 7 #[.agg #[.int .i64 g, v], a.val] w (Told (act g l a) g base w) := by
  have hg4 := H.g4
  obtain ⟨q, cap, rfl, hbq, hq, hcap, _⟩ := h.at (by rw [S.len]; exact H.pos)
  obtain ⟨W1, hW1, X1, A1, Y1, B1, Z1⟩ : ∃ W1, (((w.alloc (.cells #[.int .i64 g, .slice (some ⟨q, 0, none⟩) m.length cap] 29)).alloc (.cells #[.int .i64 a.kind, .int .i64 a.who, .int .i64 a.dst, .int .i64 a.good, .int .i64 a.n, .string a.text] 24)).alloc (.cells #[.int .i64 0, .slice none 0 0] 29)) = W1 ∧ Blk W1 w.heap.size (rlA g (.slice (some ⟨q, 0, none⟩) m.length cap)) 29 ∧ Blk W1 (w.heap.size + 1) (actA a) 24 ∧ Blk W1 (w.heap.size + 2) (rlA 0 (.slice none 0 0)) 29 ∧ Below w.heap.size w W1 ∧ W1.heap.size = w.heap.size + 3 :=
    ⟨_, rfl, ((blk_new _ _ _ _ rfl).alloc _).alloc _, (blk_new _ _ _ _ (by simp)).alloc _, blk_new _ _ _ _ (by simp), by go_grown, by simp⟩
  have har := around_calls a.kind 11 W1 (by omega) (by omega)
  rw [show ((rest a.kind (11 : Int).toNat : Nat) : Int) = 10 by rw [show (11 : Int).toNat = 11 from rfl, hk]; rfl] at har
  have e0 : W1.cell? ⟨w.heap.size + 1, 0, none⟩ = some (.int .i64 a.kind) := A1.cell rfl
  have e1 : W1.cell? ⟨w.heap.size + 1, 1, none⟩ = some (.int .i64 a.who) := A1.cell rfl
  have e2 : W1.cell? ⟨w.heap.size + 1, 2, none⟩ = some (.int .i64 a.dst) := A1.cell rfl
  have e3 : W1.cell? ⟨w.heap.size + 1, 3, none⟩ = some (.int .i64 a.good) := A1.cell rfl
  have e4 : W1.cell? ⟨w.heap.size + 1, 4, none⟩ = some (.int .i64 a.n) := A1.cell rfl
  have e5 : W1.cell? ⟨w.heap.size + 1, 5, none⟩ = some (.string a.text) := A1.cell rfl
  have c0 : W1.cell? ⟨w.heap.size, 0, none⟩ = some (.int .i64 g) := X1.cell rfl
  have c1 : W1.cell? ⟨w.heap.size, 1, none⟩ = some (.slice (some ⟨q, 0, none⟩) m.length cap) := X1.cell rfl
  have R1 := h.below B1
  have hr : markR l a.who a.n a.text = act g l a := (act_eq10 hk).symm
  have HF : Hid _ := mark_ref (base := base) W1 _ a.who a.n a.text R1 S H (by omega) _ hr
  clear hk hr
  generalize act g l a = r at *
  unfold Ac.val
  go_enter Tryd.func7, Tryd.ntmps7
  go_wp2_with fail
  refine har.mono ?_
  rintro e w1 ⟨rfl, rfl⟩
  go_wp2_with fail
  refine Calls.mono HF.out ?_
  rintro e w2 ⟨q2, cap2, m2, rfl, R2, S2, b2⟩
  have z2 := b2.size
  have Y2 := Y1.below b2
  obtain ⟨W9, hW9, Y9, R9, B9⟩ : ∃ W9, w2.setRow (w.heap.size + 2) (rlA g (.slice (some ⟨q2, 0, none⟩) m2.length cap2)) = W9 ∧ Blk W9 (w.heap.size + 2) (rlA g (.slice (some ⟨q2, 0, none⟩) m2.length cap2)) 29 ∧ Rm W9 base (.slice (some ⟨q2, 0, none⟩) m2.length cap2) m2 ∧ Below w.heap.size w W9 := ⟨_, rfl, Blk.setRow Y2 _, Rm.row R2 Y2 _, below_setRow (B1.trans (b2.mono (by omega))) _ _ (by omega)⟩
  have s0 : W9.cell? ⟨w.heap.size + 2, 0, none⟩ = some (.int .i64 g) := Y9.cell rfl
  have s1 : W9.cell? ⟨w.heap.size + 2, 1, none⟩ = some (.slice (some ⟨q2, 0, none⟩) m2.length cap2) := Y9.cell rfl
  go_wp2_with ((with_reducible refine st_row (ty := 29) (cs' := rlA g (.slice (some ⟨q2, 0, none⟩) m2.length cap2)) Y2 (rlA_info _ _) (rlA_same _ _ _ _) (rlA_one _ _ _ _) hW9 ?_ ?_ ?_); rfl; rfl)
  try simp only [Exit.inBlock, Exit.then]
  refine bodyPost_ret (by simp [results, Tryd.results7, go_sem, s0, s1]; rfl) rfl ?_
  exact ⟨q2, cap2, m2, rfl, R9, S2, B9⟩
end Go.Proofs.YtmcafgmjfgfaeaaDoor
