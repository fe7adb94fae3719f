/- New; what the statements' acts say; a prepare is done. -/
import Derived.Test.YtjpmnmgnbpecjaaVlJ4
import Derived.Test.YtjpmnmgnbpecjaaVlL
import Derived.Laws.Tables
namespace Go.Proofs.Ytjpmnmgnbpecjaa
open Go.Shelf Go.RowKit Go.Lib Go.Sort
open Go.ChangeMaps (setBlock)
set_option linter.unusedSimpArgs false
set_option linter.unusedVariables false
variable {w : World} {p : Nat} {mp : Nat → Option Nat} {L : Lv}
def newC (n : Int) : Array Value := (([Value.int .i64 n, .int .i64 0, .int .i64 0] : List Value) ++ ((List.replicate 8 (slC noSlot none none (.slice none 0 0))).flatten ++ [Value.map none])).toArray
theorem newC_slot (n : Int) (k : Nat) (hk : k < 8) : ((newC n).toList.drop (3 + k * 13)).take 13 = slC noSlot none none (.slice none 0 0) := by
  obtain rfl | rfl | rfl | rfl | rfl | rfl | rfl | rfl : k = 0 ∨ k = 1 ∨ k = 2 ∨ k = 3 ∨ k = 4 ∨ k = 5 ∨ k = 6 ∨ k = 7 := by omega
  all_goals rfl
theorem new_lg {W : World} (n : Nat) (hB : Blk W p (newC n) 70) : Lg W p (fun _ => none) (Lv.new n) where
  blk := ⟨_, hB, rfl⟩
  head := fun j v hv => hB.cell (by
    rw [Nat.zero_add]
    match j, hv with
    | 0, hv => exact hv
    | 1, hv => exact hv
    | 2, hv => exact hv
    | j + 3, hv => simp at hv)
  slot := fun k hk => by
    refine ⟨.slice none 0 0, fun j v hv => hB.cell ?_, Or.inl ⟨rfl, rfl⟩⟩
    have e := newC_slot (n : Int) k hk
    have hj : j < 13 := (List.getElem?_eq_some_iff.1 hv).1
    have hv' : (slC noSlot none none (.slice none 0 0))[j]? = some v := hv
    rw [← e, List.getElem?_take, if_pos hj, List.getElem?_drop] at hv'
    simpa using hv'
  last := fun j v hv => hB.cell (by
    match j, hv with
    | 0, hv => exact hv
    | j + 1, hv => simp at hv)
  maps := fun j hj => by
    show Lv.vts (Lv.new n) j = []
    unfold Lv.vts Lv.new
    simp only
    split
    · rfl
    · split <;> rfl
  inj := fun _ _ _ _ _ h => by cases h
theorem new_inv {n : Nat} (hn : Nok n) : LInv (Lv.new n) := ⟨hn, ⟨Int.le_refl 0, show (0 : Int) ≤ 1073741824 by decide⟩, fun j hj => by
  have : Lv.vts (Lv.new n) j = [] := by
    unfold Lv.vts Lv.new
    simp only
    split
    · rfl
    · split <;> rfl
  rw [this]; exact VOk.nil n⟩
set_option maxHeartbeats 4000000 in
set_option maxRecDepth 100000 in
theorem new_calls (n : Nat) (hn : Nok n) (w : World) : Calls Try.prog 24 #[.int .i64 n] w fun e w' => e = .returned (.tuple #[.pointer (some ⟨w.heap.size, 0, none⟩), .int .i64 0]) ∧ Lg w' w.heap.size (fun _ => none) (Lv.new n) ∧ Below w.heap.size w w' ∧ w.heap.size < w'.heap.size := by
  have hC : newC n = Try.zeroCells70.setIfInBounds 0 (.int .i64 (n : Int)) := by kernel_rfl
  obtain ⟨W1, hW1, X1, b1, z1⟩ : ∃ W1, (w.alloc (.cells (Try.zeroCells70.setIfInBounds 0 (.int .i64 (n : Int))) 70)) = W1 ∧ Blk W1 w.heap.size (newC n) 70 ∧ Below w.heap.size w W1 ∧ w.heap.size < W1.heap.size := ⟨_, rfl, by rw [hC]; exact blk_new _ _ _ _ rfl, by go_grown, by simp⟩
  have HL : Hid _ := new_lg n X1
  have hle := hn.le
  have d1 : decide ((n : Int) < 4) = false := by simp only [decide_eq_false_iff_not]; omega
  have d2 : decide (13 < (n : Int)) = false := by simp only [decide_eq_false_iff_not]; omega
  have d3 : (n : Int).tmod 3 = 1 := by rcases hn with rfl | rfl | rfl | rfl <;> rfl
  have d4 : decide (n < 4) = false := by simp only [decide_eq_false_iff_not]; omega
  have d5 : decide (13 < n) = false := by simp only [decide_eq_false_iff_not]; omega
  clear X1 hn hC
  go_enter Try.func24, Try.ntmps24
  go_wp2
  go_ret2
  exact ⟨rfl, HL.out, b1, z1⟩

/-- A number brought below another one. -/
def arn (n m : Int) : Int := if n.tmod m < 0 then 0 - n.tmod m else n.tmod m
theorem arn_ok (n m : Int) (h : 1 ≤ m) : 0 ≤ arn n m ∧ arn n m < m := by
  have g1 := Int.tmod_lt_of_pos n (show 0 < m by omega)
  have g2 := Int.lt_tmod_of_pos n (show 0 < m by omega)
  unfold arn
  split <;> omega
set_option maxRecDepth 100000 in
theorem around_calls (n m : Int) (w : World) (h : 1 ≤ m) (hm : m ≤ 1000000) : Calls Try.prog 20 #[.int .i64 n, .int .i64 m] w fun e w' => e = .returned (.int .i64 (arn n m)) ∧ w' = w := by
  have g1 := Int.tmod_lt_of_pos n (show 0 < m by omega)
  have g2 := Int.lt_tmod_of_pos n (show 0 < m by omega)
  have hz : (m == 0) = false := by simp; omega
  unfold arn
  generalize hk : n.tmod m = k at *
  have hw : IntKind.i64.wrap k = k := by rw [IntKind.wrap_i64]; omega
  by_cases h0 : k < 0
  · have hd : decide (k < 0) = true := decide_eq_true h0
    rw [if_pos h0]
    go_enter Try.func20, Try.ntmps20
    go_wp2
    go_ret
    exact ⟨by simp, rfl⟩
  · have hd : decide (k < 0) = false := decide_eq_false h0
    rw [if_neg h0]
    go_enter Try.func20, Try.ntmps20
    go_wp2
    go_ret
    exact ⟨rfl, rfl⟩
/-- An act. -/
structure Ac where
  kind : Int
  frm : Int
  vw : Int
  sq : Int
  dg : ByteArray
  tx : ByteArray
def Ac.cells (a : Ac) : List Value := [.int .i64 a.kind, .int .i64 a.frm, .int .i64 a.vw, .int .i64 a.sq, .string a.dg, .string a.tx]
def Ac.fit (a : Ac) : Prop := a.dg.size ≤ 140737488351232 ∧ a.tx.size ≤ 140737488351232
def Ac.ar (a : Ac) : Array Value := #[.int .i64 a.kind, .int .i64 a.frm, .int .i64 a.vw, .int .i64 a.sq, .string a.dg, .string a.tx]
set_option maxHeartbeats 4000000 in
set_option maxRecDepth 100000 in
theorem act_of (k f s : Int) (d : ByteArray) (w : World) : Calls Try.prog 29 #[.int .i64 k, .int .i64 f, .int .i64 s, .string d] w fun e w' => e = .returned (.agg #[.int .i64 k, .int .i64 f, .int .i64 0, .int .i64 s, .string d, .string ⟨#[109]⟩]) ∧ Below w.heap.size w w' := by
  obtain ⟨zs, hzs, hsz⟩ : ∃ zs : Array Value, zs = #[.int .i64 0, .int .i64 0, .int .i64 0, .int .i64 0, .string ⟨#[]⟩, .string ⟨#[]⟩] ∧ zs.size = 6 := ⟨_, rfl, rfl⟩
  obtain ⟨W0, hW0, X0, b0⟩ : ∃ W0, (w.alloc (.cells #[.int .i64 0, .int .i64 0, .int .i64 0, .int .i64 0, .string ⟨#[]⟩, .string ⟨#[]⟩] 48)) = W0 ∧ Blk W0 w.heap.size zs 48 ∧ Below w.heap.size w W0 := ⟨_, rfl, by rw [hzs]; exact blk_new _ _ _ _ rfl, by go_grown⟩
  obtain ⟨W2, hW2, X2, o2, z2, os2, tp2, ou2⟩ := setRow_named X0 #[.int .i64 k, .int .i64 f, .int .i64 0, .int .i64 s, .string d, .string ⟨#[109]⟩]
  have hb : Below w.heap.size w W2 := below_row (B := w.heap.size) b0 hW2 (Nat.le_refl _)
  have hinf : (Try.prog.info? 48).map (·.size) = some (#[Value.int .i64 k, .int .i64 f, .int .i64 0, .int .i64 s, .string d, .string ⟨#[109]⟩]).size := by kernel_rfl
  have hs : zs.size = (#[Value.int .i64 k, .int .i64 f, .int .i64 0, .int .i64 s, .string d, .string ⟨#[109]⟩]).size := hsz
  have h1 : (#[Value.int .i64 k, .int .i64 f, .int .i64 0, .int .i64 s, .string d, .string ⟨#[109]⟩]).all (·.oneCell') = true := by kernel_rfl
  have x0 : W2.cell? ⟨w.heap.size, 0, none⟩ = some (.int .i64 k) := X2.cell rfl
  have x1 : W2.cell? ⟨w.heap.size, 1, none⟩ = some (.int .i64 f) := X2.cell rfl
  have x2 : W2.cell? ⟨w.heap.size, 2, none⟩ = some (.int .i64 0) := X2.cell rfl
  have x3 : W2.cell? ⟨w.heap.size, 3, none⟩ = some (.int .i64 s) := X2.cell rfl
  have x4 : W2.cell? ⟨w.heap.size, 4, none⟩ = some (.string d) := X2.cell rfl
  have x5 : W2.cell? ⟨w.heap.size, 5, none⟩ = some (.string ⟨#[109]⟩) := X2.cell rfl
  have HH : Hid _ := hzs
  clear hzs hsz
  go_enter Try.func29, Try.ntmps29
  go_wp2_with (with_reducible refine st_row X0 hinf hs h1 hW2 rfl rfl ?_)
  (try simp only [Exit.inBlock, Exit.then])
  refine bodyPost_ret (v := .agg #[.int .i64 k, .int .i64 f, .int .i64 0, .int .i64 s, .string d, .string ⟨#[109]⟩]) (by simp [results, Try.results29, go_sem, x0, x1, x2, x3, x4, x5]) rfl ?_
  exact ⟨rfl, hb⟩
set_option maxHeartbeats 4000000 in
set_option maxRecDepth 100000 in
theorem message_calls (ak af av aq : Int) (ad at' : ByteArray) (w : World) : Calls Try.prog 37 #[.agg #[.int .i64 ak, .int .i64 af, .int .i64 av, .int .i64 aq, .string ad, .string at']] w fun e w' => e = .returned (.agg #[.int .i64 af, .string at', .string ⟨#[115]⟩]) ∧ Below w.heap.size w w' := by
  obtain ⟨W0, hW0, XA, B0, Z0⟩ : ∃ W0, (w.alloc (.cells #[.int .i64 ak, .int .i64 af, .int .i64 av, .int .i64 aq, .string ad, .string at'] 48)) = W0 ∧ Blk W0 w.heap.size #[.int .i64 ak, .int .i64 af, .int .i64 av, .int .i64 aq, .string ad, .string at'] 48 ∧ Below w.heap.size w W0 ∧ W0.heap.size = w.heap.size + 1 :=
    ⟨_, rfl, blk_new _ _ _ _ rfl, by go_grown, by simp⟩
  have HZ0 : Hid _ := Z0
  have hza : w.heap.size < W0.heap.size := by omega
  clear Z0
  obtain ⟨zs, hzs, hsz⟩ : ∃ zs : Array Value, zs = #[.int .i64 0, .string ⟨#[]⟩, .string ⟨#[]⟩] ∧ zs.size = 3 := ⟨_, rfl, rfl⟩
  obtain ⟨W1, hW1, X1, b1, Z1⟩ : ∃ W1, (W0.alloc (.cells #[.int .i64 0, .string ⟨#[]⟩, .string ⟨#[]⟩] 38)) = W1 ∧ Blk W1 W0.heap.size zs 38 ∧ Below W0.heap.size W0 W1 ∧ W1.heap.size = W0.heap.size + 1 := ⟨_, rfl, by rw [hzs]; exact blk_new _ _ _ _ rfl, by go_grown, by simp⟩
  have HZ1 : Hid _ := Z1
  clear Z1
  have XA1 := XA.below b1
  have a0 : W1.cell? ⟨w.heap.size, 0, none⟩ = some (.int .i64 ak) := XA1.cell rfl
  have a1 : W1.cell? ⟨w.heap.size, 1, none⟩ = some (.int .i64 af) := XA1.cell rfl
  have a2 : W1.cell? ⟨w.heap.size, 2, none⟩ = some (.int .i64 av) := XA1.cell rfl
  have a3 : W1.cell? ⟨w.heap.size, 3, none⟩ = some (.int .i64 aq) := XA1.cell rfl
  have a4 : W1.cell? ⟨w.heap.size, 4, none⟩ = some (.string ad) := XA1.cell rfl
  have a5 : W1.cell? ⟨w.heap.size, 5, none⟩ = some (.string at') := XA1.cell rfl
  obtain ⟨W2, hW2, X2, o2, z2, os2, tp2, ou2⟩ := setRow_named X1 #[.int .i64 af, .string at', .string ⟨#[115]⟩]
  have hb : Below w.heap.size w W2 := below_row (B := w.heap.size) (B0.trans (b1.mono (by omega))) hW2 (by omega)
  have hinf : (Try.prog.info? 38).map (·.size) = some (#[.int .i64 af, .string at', .string ⟨#[115]⟩] : Array Value).size := by kernel_rfl
  have hs : zs.size = (#[.int .i64 af, .string at', .string ⟨#[115]⟩] : Array Value).size := hsz
  have h1 : (#[.int .i64 af, .string at', .string ⟨#[115]⟩] : Array Value).all (·.oneCell') = true := by kernel_rfl
  have x0 : W2.cell? ⟨W0.heap.size, 0, none⟩ = some (.int .i64 af) := X2.cell rfl
  have x1 : W2.cell? ⟨W0.heap.size, 1, none⟩ = some (.string at') := X2.cell rfl
  have x2 : W2.cell? ⟨W0.heap.size, 2, none⟩ = some (.string ⟨#[115]⟩) := X2.cell rfl
  have HH : Hid _ := hzs
  clear hzs hsz
  go_enter Try.func37, Try.ntmps37
  go_wp2_with (with_reducible refine st_row X1 hinf hs h1 hW2 rfl rfl ?_)
  (try simp only [Exit.inBlock, Exit.then])
  refine bodyPost_ret (v := .agg #[.int .i64 af, .string at', .string ⟨#[115]⟩]) (by simp [results, Try.results37, go_sem, x0, x1, x2]) rfl ?_
  exact ⟨rfl, hb⟩
set_option maxHeartbeats 4000000 in
set_option maxRecDepth 100000 in
theorem body2_calls (ak af av aq : Int) (ad at' : ByteArray) (w : World) (hak : arn ak 6 = 2) : Calls Try.prog 38 #[.agg #[.int .i64 ak, .int .i64 af, .int .i64 av, .int .i64 aq, .string ad, .string at']] w fun e w' => e = .returned (.agg #[.int .i64 3, .int .i64 av, .int .i64 aq, .int .i64 0, .int .i64 0, .string ad, .string ⟨#[]⟩, .slice none 0 0]) ∧ Below w.heap.size w w' := by
  obtain ⟨W0, hW0, XA, B0, Z0⟩ : ∃ W0, (w.alloc (.cells #[.int .i64 ak, .int .i64 af, .int .i64 av, .int .i64 aq, .string ad, .string at'] 48)) = W0 ∧ Blk W0 w.heap.size #[.int .i64 ak, .int .i64 af, .int .i64 av, .int .i64 aq, .string ad, .string at'] 48 ∧ Below w.heap.size w W0 ∧ W0.heap.size = w.heap.size + 1 :=
    ⟨_, rfl, blk_new _ _ _ _ rfl, by go_grown, by simp⟩
  have HZ0 : Hid _ := Z0
  have hza : w.heap.size < W0.heap.size := by omega
  clear Z0
  obtain ⟨zs, hzs, hsz⟩ : ∃ zs : Array Value, zs = #[.int .i64 0, .int .i64 0, .int .i64 0, .int .i64 0, .int .i64 0, .string ⟨#[]⟩, .string ⟨#[]⟩, .slice none 0 0] ∧ zs.size = 8 := ⟨_, rfl, rfl⟩
  obtain ⟨W1, hW1, X1, b1, Z1⟩ : ∃ W1, (W0.alloc (.cells #[.int .i64 0, .int .i64 0, .int .i64 0, .int .i64 0, .int .i64 0, .string ⟨#[]⟩, .string ⟨#[]⟩, .slice none 0 0] 34)) = W1 ∧ Blk W1 W0.heap.size zs 34 ∧ Below W0.heap.size W0 W1 ∧ W1.heap.size = W0.heap.size + 1 := ⟨_, rfl, by rw [hzs]; exact blk_new _ _ _ _ rfl, by go_grown, by simp⟩
  have HZ1 : Hid _ := Z1
  clear Z1
  have XA1 := XA.below b1
  have a0 : W1.cell? ⟨w.heap.size, 0, none⟩ = some (.int .i64 ak) := XA1.cell rfl
  have a1 : W1.cell? ⟨w.heap.size, 1, none⟩ = some (.int .i64 af) := XA1.cell rfl
  have a2 : W1.cell? ⟨w.heap.size, 2, none⟩ = some (.int .i64 av) := XA1.cell rfl
  have a3 : W1.cell? ⟨w.heap.size, 3, none⟩ = some (.int .i64 aq) := XA1.cell rfl
  have a4 : W1.cell? ⟨w.heap.size, 4, none⟩ = some (.string ad) := XA1.cell rfl
  have a5 : W1.cell? ⟨w.heap.size, 5, none⟩ = some (.string at') := XA1.cell rfl
  obtain ⟨W2, hW2, X2, o2, z2, os2, tp2, ou2⟩ := setRow_named X1 #[.int .i64 3, .int .i64 av, .int .i64 aq, .int .i64 0, .int .i64 0, .string ad, .string ⟨#[]⟩, .slice none 0 0]
  have hb : Below w.heap.size w W2 := below_row (B := w.heap.size) (B0.trans (b1.mono (by omega))) hW2 (by omega)
  have hinf : (Try.prog.info? 34).map (·.size) = some (#[.int .i64 3, .int .i64 av, .int .i64 aq, .int .i64 0, .int .i64 0, .string ad, .string ⟨#[]⟩, .slice none 0 0] : Array Value).size := by kernel_rfl
  have hs : zs.size = (#[.int .i64 3, .int .i64 av, .int .i64 aq, .int .i64 0, .int .i64 0, .string ad, .string ⟨#[]⟩, .slice none 0 0] : Array Value).size := hsz
  have h1 : (#[.int .i64 3, .int .i64 av, .int .i64 aq, .int .i64 0, .int .i64 0, .string ad, .string ⟨#[]⟩, .slice none 0 0] : Array Value).all (·.oneCell') = true := by kernel_rfl
  have x0 : W2.cell? ⟨W0.heap.size, 0, none⟩ = some (.int .i64 3) := X2.cell rfl
  have x1 : W2.cell? ⟨W0.heap.size, 1, none⟩ = some (.int .i64 av) := X2.cell rfl
  have x2 : W2.cell? ⟨W0.heap.size, 2, none⟩ = some (.int .i64 aq) := X2.cell rfl
  have x3 : W2.cell? ⟨W0.heap.size, 3, none⟩ = some (.int .i64 0) := X2.cell rfl
  have x4 : W2.cell? ⟨W0.heap.size, 4, none⟩ = some (.int .i64 0) := X2.cell rfl
  have x5 : W2.cell? ⟨W0.heap.size, 5, none⟩ = some (.string ad) := X2.cell rfl
  have x6 : W2.cell? ⟨W0.heap.size, 6, none⟩ = some (.string ⟨#[]⟩) := X2.cell rfl
  have x7 : W2.cell? ⟨W0.heap.size, 7, none⟩ = some (.slice none 0 0) := X2.cell rfl
  have HH : Hid _ := hzs
  clear hzs hsz
  go_enter Try.func38, Try.ntmps38
  go_wp2_with fail
  refine (around_calls ak 6 _ (by decide) (by decide)).mono ?_
  rintro e wa ⟨rfl, hwa⟩
  obtain rfl := hwa.symm
  rw [hak]
  go_wp2_with (with_reducible refine st_row X1 hinf hs h1 hW2 rfl rfl ?_)
  (try simp only [Exit.inBlock, Exit.then])
  refine bodyPost_ret (v := .agg #[.int .i64 3, .int .i64 av, .int .i64 aq, .int .i64 0, .int .i64 0, .string ad, .string ⟨#[]⟩, .slice none 0 0]) (by simp [results, Try.results38, go_sem, x0, x1, x2, x3, x4, x5, x6, x7]) rfl ?_
  exact ⟨rfl, hb⟩
set_option maxHeartbeats 4000000 in
set_option maxRecDepth 100000 in
theorem body3_calls (ak af av aq : Int) (ad at' : ByteArray) (w : World) (hak : arn ak 6 = 3) : Calls Try.prog 38 #[.agg #[.int .i64 ak, .int .i64 af, .int .i64 av, .int .i64 aq, .string ad, .string at']] w fun e w' => e = .returned (.agg #[.int .i64 4, .int .i64 av, .int .i64 aq, .int .i64 0, .int .i64 0, .string ad, .string ⟨#[]⟩, .slice none 0 0]) ∧ Below w.heap.size w w' := by
  obtain ⟨W0, hW0, XA, B0, Z0⟩ : ∃ W0, (w.alloc (.cells #[.int .i64 ak, .int .i64 af, .int .i64 av, .int .i64 aq, .string ad, .string at'] 48)) = W0 ∧ Blk W0 w.heap.size #[.int .i64 ak, .int .i64 af, .int .i64 av, .int .i64 aq, .string ad, .string at'] 48 ∧ Below w.heap.size w W0 ∧ W0.heap.size = w.heap.size + 1 :=
    ⟨_, rfl, blk_new _ _ _ _ rfl, by go_grown, by simp⟩
  have HZ0 : Hid _ := Z0
  have hza : w.heap.size < W0.heap.size := by omega
  clear Z0
  obtain ⟨zs, hzs, hsz⟩ : ∃ zs : Array Value, zs = #[.int .i64 0, .int .i64 0, .int .i64 0, .int .i64 0, .int .i64 0, .string ⟨#[]⟩, .string ⟨#[]⟩, .slice none 0 0] ∧ zs.size = 8 := ⟨_, rfl, rfl⟩
  obtain ⟨W1, hW1, X1, b1, Z1⟩ : ∃ W1, (W0.alloc (.cells #[.int .i64 0, .int .i64 0, .int .i64 0, .int .i64 0, .int .i64 0, .string ⟨#[]⟩, .string ⟨#[]⟩, .slice none 0 0] 34)) = W1 ∧ Blk W1 W0.heap.size zs 34 ∧ Below W0.heap.size W0 W1 ∧ W1.heap.size = W0.heap.size + 1 := ⟨_, rfl, by rw [hzs]; exact blk_new _ _ _ _ rfl, by go_grown, by simp⟩
  have HZ1 : Hid _ := Z1
  clear Z1
  have XA1 := XA.below b1
  have a0 : W1.cell? ⟨w.heap.size, 0, none⟩ = some (.int .i64 ak) := XA1.cell rfl
  have a1 : W1.cell? ⟨w.heap.size, 1, none⟩ = some (.int .i64 af) := XA1.cell rfl
  have a2 : W1.cell? ⟨w.heap.size, 2, none⟩ = some (.int .i64 av) := XA1.cell rfl
  have a3 : W1.cell? ⟨w.heap.size, 3, none⟩ = some (.int .i64 aq) := XA1.cell rfl
  have a4 : W1.cell? ⟨w.heap.size, 4, none⟩ = some (.string ad) := XA1.cell rfl
  have a5 : W1.cell? ⟨w.heap.size, 5, none⟩ = some (.string at') := XA1.cell rfl
  obtain ⟨W2, hW2, X2, o2, z2, os2, tp2, ou2⟩ := setRow_named X1 #[.int .i64 4, .int .i64 av, .int .i64 aq, .int .i64 0, .int .i64 0, .string ad, .string ⟨#[]⟩, .slice none 0 0]
  have hb : Below w.heap.size w W2 := below_row (B := w.heap.size) (B0.trans (b1.mono (by omega))) hW2 (by omega)
  have hinf : (Try.prog.info? 34).map (·.size) = some (#[.int .i64 4, .int .i64 av, .int .i64 aq, .int .i64 0, .int .i64 0, .string ad, .string ⟨#[]⟩, .slice none 0 0] : Array Value).size := by kernel_rfl
  have hs : zs.size = (#[.int .i64 4, .int .i64 av, .int .i64 aq, .int .i64 0, .int .i64 0, .string ad, .string ⟨#[]⟩, .slice none 0 0] : Array Value).size := hsz
  have h1 : (#[.int .i64 4, .int .i64 av, .int .i64 aq, .int .i64 0, .int .i64 0, .string ad, .string ⟨#[]⟩, .slice none 0 0] : Array Value).all (·.oneCell') = true := by kernel_rfl
  have x0 : W2.cell? ⟨W0.heap.size, 0, none⟩ = some (.int .i64 4) := X2.cell rfl
  have x1 : W2.cell? ⟨W0.heap.size, 1, none⟩ = some (.int .i64 av) := X2.cell rfl
  have x2 : W2.cell? ⟨W0.heap.size, 2, none⟩ = some (.int .i64 aq) := X2.cell rfl
  have x3 : W2.cell? ⟨W0.heap.size, 3, none⟩ = some (.int .i64 0) := X2.cell rfl
  have x4 : W2.cell? ⟨W0.heap.size, 4, none⟩ = some (.int .i64 0) := X2.cell rfl
  have x5 : W2.cell? ⟨W0.heap.size, 5, none⟩ = some (.string ad) := X2.cell rfl
  have x6 : W2.cell? ⟨W0.heap.size, 6, none⟩ = some (.string ⟨#[]⟩) := X2.cell rfl
  have x7 : W2.cell? ⟨W0.heap.size, 7, none⟩ = some (.slice none 0 0) := X2.cell rfl
  have HH : Hid _ := hzs
  clear hzs hsz
  go_enter Try.func38, Try.ntmps38
  go_wp2_with fail
  refine (around_calls ak 6 _ (by decide) (by decide)).mono ?_
  rintro e wa ⟨rfl, hwa⟩
  obtain rfl := hwa.symm
  rw [hak]
  go_wp2_with (with_reducible refine st_row X1 hinf hs h1 hW2 rfl rfl ?_)
  (try simp only [Exit.inBlock, Exit.then])
  refine bodyPost_ret (v := .agg #[.int .i64 4, .int .i64 av, .int .i64 aq, .int .i64 0, .int .i64 0, .string ad, .string ⟨#[]⟩, .slice none 0 0]) (by simp [results, Try.results38, go_sem, x0, x1, x2, x3, x4, x5, x6, x7]) rfl ?_
  exact ⟨rfl, hb⟩
set_option maxHeartbeats 16000000 in
set_option maxRecDepth 100000 in
theorem done2_calls (h : Lg w p mp L) (hi : LInv L) (ak af av aq : Int) (ad at' : ByteArray) (hak : arn ak 6 = 2) (hz1 : ad.size ≤ 140737488351232) (hz2 : at'.size ≤ 140737488351232) :
    Calls Try.prog 21 #[.pointer (some ⟨p, 0, none⟩), .agg #[.int .i64 ak, .int .i64 af, .int .i64 av, .int .i64 aq, .string ad, .string at']] w (Done w p mp (L.vote (af, at', ⟨#[115]⟩) 3 av aq ad)) := by
  obtain ⟨W0, hW0, XA, B0, Z0⟩ : ∃ W0, (w.alloc (.cells #[.int .i64 ak, .int .i64 af, .int .i64 av, .int .i64 aq, .string ad, .string at'] 48)) = W0 ∧ Blk W0 w.heap.size #[.int .i64 ak, .int .i64 af, .int .i64 av, .int .i64 aq, .string ad, .string at'] 48 ∧ Below w.heap.size w W0 ∧ W0.heap.size = w.heap.size + 1 :=
    ⟨_, rfl, blk_new _ _ _ _ rfl, by go_grown, by simp⟩
  have HZ0 : Hid _ := Z0
  have hza : w.heap.size < W0.heap.size := by omega
  clear Z0
  have HV : Hid (∀ wx, Below W0.heap.size W0 wx → Calls Try.prog 36 #[.pointer (some ⟨p, 0, none⟩), .agg #[.int .i64 af, .string at', .string ⟨#[115]⟩], .agg #[.int .i64 3, .int .i64 av, .int .i64 aq, .int .i64 0, .int .i64 0, .string ad, .string ⟨#[]⟩, .slice none 0 0]] wx (Done wx p mp (L.vote (af, at', ⟨#[115]⟩) 3 av aq ad))) := fun wx hb => vote3_calls ((h.below B0).below hb) hi af at' ⟨#[115]⟩ av aq ad (by omega) (by decide) (by omega)
  have HML : Hid (Lg W0 p mp L) := h.below B0
  have HPL : Hid (p < w.heap.size) := h.lt
  have HM : Hid (∀ wx, Calls Try.prog 37 #[.agg #[.int .i64 ak, .int .i64 af, .int .i64 av, .int .i64 aq, .string ad, .string at']] wx fun e w' => e = .returned (.agg #[.int .i64 af, .string at', .string ⟨#[115]⟩]) ∧ Below wx.heap.size wx w') := fun wx => message_calls ak af av aq ad at' wx
  have HB : Hid (∀ wx, Calls Try.prog 38 #[.agg #[.int .i64 ak, .int .i64 af, .int .i64 av, .int .i64 aq, .string ad, .string at']] wx fun e w' => e = .returned (.agg #[.int .i64 3, .int .i64 av, .int .i64 aq, .int .i64 0, .int .i64 0, .string ad, .string ⟨#[]⟩, .slice none 0 0]) ∧ Below wx.heap.size wx w') := fun wx => body2_calls ak af av aq ad at' wx hak
  have c0 : W0.cell? ⟨w.heap.size, 0, none⟩ = some (.int .i64 ak) := XA.cell rfl
  generalize L.vote (af, at', ⟨#[115]⟩) 3 av aq ad = R at *
  obtain ⟨R1, R2⟩ := R
  clear h hi
  go_enter Try.func21, Try.ntmps21
  go_wp2_with fail
  refine (around_calls ak 6 _ (by decide) (by decide)).mono ?_
  rintro e wa ⟨rfl, hwa⟩
  obtain rfl := hwa.symm
  rw [hak]
  go_wp2_with fail
  refine wp_region_held_drew (S := (fun wx => wx.cell? ⟨w.heap.size, 0, none⟩ = some (.int .i64 ak) ∧ wx.cell? ⟨w.heap.size, 1, none⟩ = some (.int .i64 af) ∧ wx.cell? ⟨w.heap.size, 2, none⟩ = some (.int .i64 av) ∧ wx.cell? ⟨w.heap.size, 3, none⟩ = some (.int .i64 aq) ∧ wx.cell? ⟨w.heap.size, 4, none⟩ = some (.string ad) ∧ wx.cell? ⟨w.heap.size, 5, none⟩ = some (.string at'))) (by kernel_rfl) ⟨XA.drew.cell rfl, XA.drew.cell rfl, XA.drew.cell rfl, XA.drew.cell rfl, XA.drew.cell rfl, XA.drew.cell rfl⟩ (fun hS => ?_)
  refine wpAnyH_take (i := 0) (v := (.pointer (some ⟨p, 0, none⟩))) rfl (by kernel_rfl) (by kernel_rfl) (by kernel_rfl) (fun _ _ _ h => h) (Or.inl ⟨by kernel_rfl, fun w hS => by obtain ⟨s0, s1, s2, s3, s4, s5⟩ := hS; go_simp⟩) hS ?_
  refine wpAnyH_take (i := 1) (v := (.agg #[.int .i64 ak, .int .i64 af, .int .i64 av, .int .i64 aq, .string ad, .string at'])) rfl (by kernel_rfl) (by kernel_rfl) (by kernel_rfl) (fun _ _ _ h => h) (Or.inl ⟨by kernel_rfl, fun w hS => by obtain ⟨s0, s1, s2, s3, s4, s5⟩ := hS; go_simp⟩) hS ?_
  refine wpAnyH_take (i := 3) (v := (.agg #[.int .i64 ak, .int .i64 af, .int .i64 av, .int .i64 aq, .string ad, .string at'])) rfl (by kernel_rfl) (by kernel_rfl) (by kernel_rfl) (fun _ _ _ h => h) (Or.inl ⟨by kernel_rfl, fun w hS => by obtain ⟨s0, s1, s2, s3, s4, s5⟩ := hS; go_simp⟩) hS ?_
  refine wpAnyH_ready (rs := [2]) (by kernel_rfl) (by simp) ?_
  refine AllReadyH.cons rfl (fun K hK => ?_) AllReadyH.nil
  go_simp
  refine (HM.out _).mono ?_
  rintro e w2 ⟨rfl, hb2⟩
  have b2 : Below W0.heap.size W0 w2 := (Below.refl _ _).drew.trans hb2
  have X2 := XA.below b2
  refine hK.out _ _ ⟨X2.cell rfl, X2.cell rfl, X2.cell rfl, X2.cell rfl, X2.cell rfl, X2.cell rfl⟩ (fun hS => ?_)
  clear hK hb2
  refine wpAnyH_ready (rs := [4]) (by kernel_rfl) (by simp) ?_
  refine AllReadyH.cons rfl (fun K hK => ?_) AllReadyH.nil
  go_simp
  refine (HB.out _).mono ?_
  rintro e w3 ⟨rfl, hb3⟩
  have b3 : Below W0.heap.size W0 w3 := b2.trans (hb3.mono b2.size)
  have X3 := XA.below b3
  refine hK.out _ _ ⟨X3.cell rfl, X3.cell rfl, X3.cell rfl, X3.cell rfl, X3.cell rfl, X3.cell rfl⟩ (fun hS => ?_)
  clear hK hb3
  refine wpAnyH_ready (rs := [5]) (by kernel_rfl) (by simp) ?_
  refine AllReadyH.cons rfl (fun K hK => ?_) AllReadyH.nil
  go_simp
  refine (HV.out _ b3).mono ?_
  rintro e w4 ⟨rfl, mp', h4, s4⟩
  have X4 := s4.keep (Lg.below HML.out b3) X3 (by have := HPL.out; omega)
  refine hK.out _ _ ⟨X4.cell rfl, X4.cell rfl, X4.cell rfl, X4.cell rfl, X4.cell rfl, X4.cell rfl⟩ (fun hS => ?_)
  clear hK
  have HR : Hid (Lg w4 p mp' R1 ∧ Stp p mp w mp' w4) := ⟨h4, (Stp.of_below (B0.trans (b3.mono B0.size))).trans s4⟩
  refine wpAnyH_take (i := 6) (v := (.int .i64 R2)) rfl (by kernel_rfl) (by kernel_rfl) (by kernel_rfl) (fun _ _ _ h => h) (Or.inl ⟨by kernel_rfl, fun w hS => by obtain ⟨s0, s1, s2, s3, s4, s5⟩ := hS; go_simp⟩) hS ?_
  refine wpAnyH_done (by kernel_rfl) ?_ _
  clear hS X4 h4 s4 HV HM HB
  go_simp
  go_wp2
  go_ret
  exact ⟨rfl, mp', HR.out⟩
set_option maxHeartbeats 16000000 in
set_option maxRecDepth 100000 in
theorem done3_calls (h : Lg w p mp L) (hi : LInv L) (ak af av aq : Int) (ad at' : ByteArray) (hak : arn ak 6 = 3) (hz1 : ad.size ≤ 140737488351232) (hz2 : at'.size ≤ 140737488351232) :
    Calls Try.prog 21 #[.pointer (some ⟨p, 0, none⟩), .agg #[.int .i64 ak, .int .i64 af, .int .i64 av, .int .i64 aq, .string ad, .string at']] w (Done w p mp (L.vote (af, at', ⟨#[115]⟩) 4 av aq ad)) := by
  obtain ⟨W0, hW0, XA, B0, Z0⟩ : ∃ W0, (w.alloc (.cells #[.int .i64 ak, .int .i64 af, .int .i64 av, .int .i64 aq, .string ad, .string at'] 48)) = W0 ∧ Blk W0 w.heap.size #[.int .i64 ak, .int .i64 af, .int .i64 av, .int .i64 aq, .string ad, .string at'] 48 ∧ Below w.heap.size w W0 ∧ W0.heap.size = w.heap.size + 1 :=
    ⟨_, rfl, blk_new _ _ _ _ rfl, by go_grown, by simp⟩
  have HZ0 : Hid _ := Z0
  have hza : w.heap.size < W0.heap.size := by omega
  clear Z0
  have HV : Hid (∀ wx, Below W0.heap.size W0 wx → Calls Try.prog 36 #[.pointer (some ⟨p, 0, none⟩), .agg #[.int .i64 af, .string at', .string ⟨#[115]⟩], .agg #[.int .i64 4, .int .i64 av, .int .i64 aq, .int .i64 0, .int .i64 0, .string ad, .string ⟨#[]⟩, .slice none 0 0]] wx (Done wx p mp (L.vote (af, at', ⟨#[115]⟩) 4 av aq ad))) := fun wx hb => vote4_calls ((h.below B0).below hb) hi af at' ⟨#[115]⟩ av aq ad (by omega) (by decide) (by omega)
  have HML : Hid (Lg W0 p mp L) := h.below B0
  have HPL : Hid (p < w.heap.size) := h.lt
  have HM : Hid (∀ wx, Calls Try.prog 37 #[.agg #[.int .i64 ak, .int .i64 af, .int .i64 av, .int .i64 aq, .string ad, .string at']] wx fun e w' => e = .returned (.agg #[.int .i64 af, .string at', .string ⟨#[115]⟩]) ∧ Below wx.heap.size wx w') := fun wx => message_calls ak af av aq ad at' wx
  have HB : Hid (∀ wx, Calls Try.prog 38 #[.agg #[.int .i64 ak, .int .i64 af, .int .i64 av, .int .i64 aq, .string ad, .string at']] wx fun e w' => e = .returned (.agg #[.int .i64 4, .int .i64 av, .int .i64 aq, .int .i64 0, .int .i64 0, .string ad, .string ⟨#[]⟩, .slice none 0 0]) ∧ Below wx.heap.size wx w') := fun wx => body3_calls ak af av aq ad at' wx hak
  have c0 : W0.cell? ⟨w.heap.size, 0, none⟩ = some (.int .i64 ak) := XA.cell rfl
  generalize L.vote (af, at', ⟨#[115]⟩) 4 av aq ad = R at *
  obtain ⟨R1, R2⟩ := R
  clear h hi
  go_enter Try.func21, Try.ntmps21
  go_wp2_with fail
  refine (around_calls ak 6 _ (by decide) (by decide)).mono ?_
  rintro e wa ⟨rfl, hwa⟩
  obtain rfl := hwa.symm
  rw [hak]
  go_wp2_with fail
  refine wp_region_held_drew (S := (fun wx => wx.cell? ⟨w.heap.size, 0, none⟩ = some (.int .i64 ak) ∧ wx.cell? ⟨w.heap.size, 1, none⟩ = some (.int .i64 af) ∧ wx.cell? ⟨w.heap.size, 2, none⟩ = some (.int .i64 av) ∧ wx.cell? ⟨w.heap.size, 3, none⟩ = some (.int .i64 aq) ∧ wx.cell? ⟨w.heap.size, 4, none⟩ = some (.string ad) ∧ wx.cell? ⟨w.heap.size, 5, none⟩ = some (.string at'))) (by kernel_rfl) ⟨XA.drew.cell rfl, XA.drew.cell rfl, XA.drew.cell rfl, XA.drew.cell rfl, XA.drew.cell rfl, XA.drew.cell rfl⟩ (fun hS => ?_)
  refine wpAnyH_take (i := 0) (v := (.pointer (some ⟨p, 0, none⟩))) rfl (by kernel_rfl) (by kernel_rfl) (by kernel_rfl) (fun _ _ _ h => h) (Or.inl ⟨by kernel_rfl, fun w hS => by obtain ⟨s0, s1, s2, s3, s4, s5⟩ := hS; go_simp⟩) hS ?_
  refine wpAnyH_take (i := 1) (v := (.agg #[.int .i64 ak, .int .i64 af, .int .i64 av, .int .i64 aq, .string ad, .string at'])) rfl (by kernel_rfl) (by kernel_rfl) (by kernel_rfl) (fun _ _ _ h => h) (Or.inl ⟨by kernel_rfl, fun w hS => by obtain ⟨s0, s1, s2, s3, s4, s5⟩ := hS; go_simp⟩) hS ?_
  refine wpAnyH_take (i := 3) (v := (.agg #[.int .i64 ak, .int .i64 af, .int .i64 av, .int .i64 aq, .string ad, .string at'])) rfl (by kernel_rfl) (by kernel_rfl) (by kernel_rfl) (fun _ _ _ h => h) (Or.inl ⟨by kernel_rfl, fun w hS => by obtain ⟨s0, s1, s2, s3, s4, s5⟩ := hS; go_simp⟩) hS ?_
  refine wpAnyH_ready (rs := [2]) (by kernel_rfl) (by simp) ?_
  refine AllReadyH.cons rfl (fun K hK => ?_) AllReadyH.nil
  go_simp
  refine (HM.out _).mono ?_
  rintro e w2 ⟨rfl, hb2⟩
  have b2 : Below W0.heap.size W0 w2 := (Below.refl _ _).drew.trans hb2
  have X2 := XA.below b2
  refine hK.out _ _ ⟨X2.cell rfl, X2.cell rfl, X2.cell rfl, X2.cell rfl, X2.cell rfl, X2.cell rfl⟩ (fun hS => ?_)
  clear hK hb2
  refine wpAnyH_ready (rs := [4]) (by kernel_rfl) (by simp) ?_
  refine AllReadyH.cons rfl (fun K hK => ?_) AllReadyH.nil
  go_simp
  refine (HB.out _).mono ?_
  rintro e w3 ⟨rfl, hb3⟩
  have b3 : Below W0.heap.size W0 w3 := b2.trans (hb3.mono b2.size)
  have X3 := XA.below b3
  refine hK.out _ _ ⟨X3.cell rfl, X3.cell rfl, X3.cell rfl, X3.cell rfl, X3.cell rfl, X3.cell rfl⟩ (fun hS => ?_)
  clear hK hb3
  refine wpAnyH_ready (rs := [5]) (by kernel_rfl) (by simp) ?_
  refine AllReadyH.cons rfl (fun K hK => ?_) AllReadyH.nil
  go_simp
  refine (HV.out _ b3).mono ?_
  rintro e w4 ⟨rfl, mp', h4, s4⟩
  have X4 := s4.keep (Lg.below HML.out b3) X3 (by have := HPL.out; omega)
  refine hK.out _ _ ⟨X4.cell rfl, X4.cell rfl, X4.cell rfl, X4.cell rfl, X4.cell rfl, X4.cell rfl⟩ (fun hS => ?_)
  clear hK
  have HR : Hid (Lg w4 p mp' R1 ∧ Stp p mp w mp' w4) := ⟨h4, (Stp.of_below (B0.trans (b3.mono B0.size))).trans s4⟩
  refine wpAnyH_take (i := 6) (v := (.int .i64 R2)) rfl (by kernel_rfl) (by kernel_rfl) (by kernel_rfl) (fun _ _ _ h => h) (Or.inl ⟨by kernel_rfl, fun w hS => by obtain ⟨s0, s1, s2, s3, s4, s5⟩ := hS; go_simp⟩) hS ?_
  refine wpAnyH_done (by kernel_rfl) ?_ _
  clear hS X4 h4 s4 HV HM HB
  go_simp
  go_wp2
  go_ret
  exact ⟨rfl, mp', HR.out⟩
end Go.Proofs.Ytjpmnmgnbpecjaa
