/- A log in memory; small functions of it. -/
import Derived.Test.YtjpmnmgnbpecjaaVlC
import Derived.Test.YtjpmnmgnbpecjaaCln
namespace Go.Proofs.Ytjpmnmgnbpecjaa
open Go.Shelf Go.RowKit Go.Lib Go.Sort
open Go.ChangeMaps (setBlock)
set_option linter.unusedSimpArgs false
set_option linter.unusedVariables false

/-- The cells of a slot. -/
def slC (s : Slot) (a b : Option Nat) (lv : Value) : List Value := [.int .i64 s.ps, .string s.pd, .string s.ba, .map a, .map b, .int .i64 s.fk, .int .i64 s.fv, .int .i64 s.fs, .int .i64 0, .int .i64 0, .string s.fd, .string s.ft, lv]
/-- The votes of a log, all of them. -/
def Lv.vts (L : Lv) (j : Nat) : Vts := if j = 16 then L.ck else if j % 2 = 0 then (L.sl (j / 2)).pr else (L.sl (j / 2)).co
structure Lg (w : World) (p : Nat) (mp : Nat → Option Nat) (L : Lv) : Prop where
  blk : ∃ cs, Blk w p cs 70 ∧ cs.size = 108
  head : w.rangeAt p 0 [.int .i64 L.n, .int .i64 L.vw, .int .i64 L.lo]
  slot : ∀ k, k < 8 → ∃ lv, w.rangeAt p (3 + k * 13) (slC (L.sl k) (mp (2 * k)) (mp (2 * k + 1)) lv) ∧ Sgr w 0 lv (L.sl k).fl
  last : w.rangeAt p 107 [.map (mp 16)]
  maps : ∀ j, j < 17 → MapAt w (mp j) (L.vts j)
  inj : ∀ i j b, i < 17 → j < 17 → mp i = some b → mp j = some b → i = j
structure LInv (L : Lv) : Prop where
  n : Nok L.n
  lo : 0 ≤ L.lo ∧ L.lo ≤ 1073741824
  vts : ∀ j, j < 17 → VOk L.n (L.vts j)
theorem Nok.le {n : Nat} (h : Nok n) : 4 ≤ n ∧ n ≤ 13 := by rcases h with rfl | rfl | rfl | rfl <;> omega
/-- What a call on a log leaves as it was. -/
structure Stp (p : Nat) (mp : Nat → Option Nat) (w : World) (mp' : Nat → Option Nat) (w' : World) : Prop where
  os : w'.os = w.os
  tape : w'.tape = w.tape
  output : w'.output = w.output
  size : w.heap.size ≤ w'.heap.size
  block : ∀ k, k < w.heap.size → k ≠ p → (∀ j, j < 17 → mp j ≠ some k) → w'.heap[k]? = w.heap[k]?
  new : ∀ j b, j < 17 → mp' j = some b → (∃ i, i < 17 ∧ mp i = some b) ∨ w.heap.size ≤ b
theorem Stp.of_below {p : Nat} {mp : Nat → Option Nat} {w w' : World} (h : Below w.heap.size w w') : Stp p mp w mp w' :=
  ⟨h.os, h.tape, h.output, h.size, fun k hk _ _ => h.block k hk, fun j b hj hb => Or.inl ⟨j, hj, hb⟩⟩
theorem Stp.trans {p : Nat} {m1 m2 m3 : Nat → Option Nat} {w1 w2 w3 : World} (h : Stp p m1 w1 m2 w2) (k : Stp p m2 w2 m3 w3) : Stp p m1 w1 m3 w3 :=
  ⟨k.os.trans h.os, k.tape.trans h.tape, k.output.trans h.output, Nat.le_trans h.size k.size, fun x hx hp hm => by
    rw [k.block x (Nat.lt_of_lt_of_le hx h.size) hp (fun j hj e => by
      rcases h.new j x hj e with ⟨i, hi, e2⟩ | h2
      · exact hm i hi e2
      · omega)]
    exact h.block x hx hp hm, fun j b hj hb => by
    rcases k.new j b hj hb with ⟨i, hi, e⟩ | e
    · exact h.new i b hi e
    · exact Or.inr (Nat.le_trans h.size e)⟩
/-- What lies below the log's blocks. -/
theorem Stp.below {p : Nat} {m1 m2 : Nat → Option Nat} {w1 w2 w0 : World} {B : Nat} (h : Stp p m1 w1 m2 w2) (hp : B ≤ p) (hm : ∀ j b, j < 17 → m1 j = some b → B ≤ b) (h0 : Below B w0 w1) (hB : B ≤ w1.heap.size) : Below B w0 w2 :=
  h0.trans ⟨h.os, h.tape, h.output, h.size, fun k hk => h.block k (by omega) (by omega) (fun j hj e => by have := hm j k hj e; omega)⟩
theorem Stp.keep {p : Nat} {m1 m2 : Nat → Option Nat} {w1 w2 : World} {L : Lv} (h : Stp p m1 w1 m2 w2) (hL : Lg w1 p m1 L) {k : Nat} {cs : Array Value} {t : TypeId} (hB : Blk w1 k cs t) (hk : k ≠ p) : Blk w2 k cs t :=
  (h.block k hB.lt hk (fun j hj e => by have := hL.maps j hj; rw [e] at this; exact this.blk hB rfl)).trans hB
theorem rangeAt_block {w w' : World} {b o : Nat} {cs : List Value} (h : w.rangeAt b o cs) (hb : w'.heap[b]? = w.heap[b]?) : w'.rangeAt b o cs :=
  fun j v hv => (World.cell?_of_block (w := w) hb).trans (h j v hv)
/-- A log stays where its blocks and the rows of messages stay. -/
theorem Lg.keep {w w' : World} {p : Nat} {mp : Nat → Option Nat} {L : Lv} (h : Lg w p mp L) (hp : w'.heap[p]? = w.heap[p]?) (hm : ∀ j b, j < 17 → mp j = some b → w'.heap[b]? = w.heap[b]?) (hs : ∀ g cs, Blk w g cs 38 → w'.heap[g]? = w.heap[g]?) : Lg w' p mp L where
  blk := by obtain ⟨cs, h1, h2⟩ := h.blk; exact ⟨cs, hp.trans h1, h2⟩
  head := rangeAt_block h.head hp
  slot := fun k hk => by obtain ⟨lv, h1, h2⟩ := h.slot k hk; exact ⟨lv, rangeAt_block h1 hp, h2.keep hs⟩
  last := rangeAt_block h.last hp
  maps := fun j hj => (h.maps j hj).keep fun b hb => hm j b hj hb
  inj := h.inj
theorem Lg.lt {w : World} {p : Nat} {mp : Nat → Option Nat} {L : Lv} (h : Lg w p mp L) : p < w.heap.size := by obtain ⟨cs, h1, _⟩ := h.blk; exact h1.lt
theorem Lg.mlt {w : World} {p : Nat} {mp : Nat → Option Nat} {L : Lv} (h : Lg w p mp L) {j b : Nat} (hj : j < 17) (hb : mp j = some b) : b < w.heap.size := by have := h.maps j hj; rw [hb] at this; exact this.lt
theorem Lg.below {w w' : World} {p : Nat} {mp : Nat → Option Nat} {L : Lv} (h : Lg w p mp L) (hb : Below w.heap.size w w') : Lg w' p mp L :=
  h.keep (hb.block p h.lt) (fun j b hj e => hb.block b (h.mlt hj e)) (fun g cs hB => hb.block g hB.lt)
theorem Lg.drew {w : World} {p : Nat} {mp : Nat → Option Nat} {L : Lv} (h : Lg w p mp L) : Lg w.drew p mp L := h.keep rfl (fun _ _ _ _ => rfl) (fun _ _ _ => rfl)
theorem Lg.c0 {w : World} {p : Nat} {mp : Nat → Option Nat} {L : Lv} (h : Lg w p mp L) : w.cell? ⟨p, 0, none⟩ = some (.int .i64 L.n) := h.head 0 _ rfl
theorem Lg.c1 {w : World} {p : Nat} {mp : Nat → Option Nat} {L : Lv} (h : Lg w p mp L) : w.cell? ⟨p, 1, none⟩ = some (.int .i64 L.vw) := h.head 1 _ rfl
theorem Lg.c2 {w : World} {p : Nat} {mp : Nat → Option Nat} {L : Lv} (h : Lg w p mp L) : w.cell? ⟨p, 2, none⟩ = some (.int .i64 L.lo) := h.head 2 _ rfl
theorem Lg.cl {w : World} {p : Nat} {mp : Nat → Option Nat} {L : Lv} (h : Lg w p mp L) : w.cell? ⟨p, 107, none⟩ = some (.map (mp 16)) := h.last 0 _ rfl
theorem Lg.fr {w : World} {p : Nat} {mp : Nat → Option Nat} {L : Lv} (h : Lg w p mp L) (o : Nat) : w.frozen? ⟨p, o, none⟩ = false := by obtain ⟨cs, h1, _⟩ := h.blk; exact h1.frozen
theorem Lg.mpr {w : World} {p : Nat} {mp : Nat → Option Nat} {L : Lv} (h : Lg w p mp L) {k : Nat} (hk : k < 8) : MapAt w (mp (2 * k)) (L.sl k).pr := by
  have := h.maps (2 * k) (by omega)
  unfold Lv.vts at this
  rwa [if_neg (by omega), if_pos (by omega), show 2 * k / 2 = k by omega] at this
theorem Lg.mco {w : World} {p : Nat} {mp : Nat → Option Nat} {L : Lv} (h : Lg w p mp L) {k : Nat} (hk : k < 8) : MapAt w (mp (2 * k + 1)) (L.sl k).co := by
  have := h.maps (2 * k + 1) (by omega)
  unfold Lv.vts at this
  rwa [if_neg (by omega), if_neg (by omega), show (2 * k + 1) / 2 = k by omega] at this
theorem Lg.mck {w : World} {p : Nat} {mp : Nat → Option Nat} {L : Lv} (h : Lg w p mp L) : MapAt w (mp 16) L.ck := h.maps 16 (by omega)
theorem LInv.pr {L : Lv} (h : LInv L) {k : Nat} (hk : k < 8) : VOk L.n (L.sl k).pr := by
  have := h.vts (2 * k) (by omega)
  unfold Lv.vts at this
  rwa [if_neg (by omega), if_pos (by omega), show 2 * k / 2 = k by omega] at this
theorem LInv.co {L : Lv} (h : LInv L) {k : Nat} (hk : k < 8) : VOk L.n (L.sl k).co := by
  have := h.vts (2 * k + 1) (by omega)
  unfold Lv.vts at this
  rwa [if_neg (by omega), if_neg (by omega), show (2 * k + 1) / 2 = k by omega] at this
theorem LInv.ck {L : Lv} (h : LInv L) : VOk L.n L.ck := h.vts 16 (by omega)
theorem pla_lt (q : Int) : pla q < 8 := by unfold pla; omega

section
variable {w : World} {p : Nat} {mp : Nat → Option Nat} {L : Lv}
set_option maxHeartbeats 4000000 in
theorem made_calls (h : Lg w p mp L) (hi : LInv L) : Calls Try.prog 25 #[.pointer (some ⟨p, 0, none⟩)] w fun e w' => e = .returned (.bool true) ∧ w' = w := by
  have c0 := h.c0
  have hn := hi.n.le
  have hd : decide (0 < L.n) = true := by simp only [decide_eq_true_eq]; omega
  clear h hi
  go_enter Try.func25, Try.ntmps25
  go_wp2
  go_ret
  exact ⟨rfl, rfl⟩
set_option maxHeartbeats 4000000 in
theorem made_nil (w : World) : Calls Try.prog 25 #[.pointer none] w fun e w' => e = .returned (.bool false) ∧ w' = w := by
  go_enter Try.func25, Try.ntmps25
  go_wp2
  go_ret
  exact ⟨rfl, rfl⟩
set_option maxHeartbeats 4000000 in
theorem has_calls (h : Lg w p mp L) (hi : LInv L) (k : Int) : Calls Try.prog 47 #[.pointer (some ⟨p, 0, none⟩), .int .i64 k] w fun e w' => e = .returned (.bool (decide (0 ≤ k) && decide (k < L.n))) ∧ w' = w := by
  have c0 := h.c0
  have hm := made_calls h hi
  clear h hi
  by_cases h0 : 0 ≤ k
  · have hd : decide (0 ≤ k) = true := decide_eq_true h0
    rw [hd, Bool.true_and]
    go_enter Try.func47, Try.ntmps47
    go_wp2_with fail
    refine hm.mono ?_
    rintro e w1 ⟨rfl, rfl⟩
    go_wp2
    go_ret
    exact ⟨rfl, rfl⟩
  · have hd : decide (0 ≤ k) = false := decide_eq_false h0
    rw [hd, Bool.false_and]
    go_enter Try.func47, Try.ntmps47
    go_wp2_with fail
    refine hm.mono ?_
    rintro e w1 ⟨rfl, rfl⟩
    go_wp2
    go_ret
    exact ⟨rfl, rfl⟩
set_option maxHeartbeats 4000000 in
theorem has_nil (w : World) (k : Int) : Calls Try.prog 47 #[.pointer none, .int .i64 k] w fun e w' => e = .returned (.bool false) ∧ w' = w := by
  have hm := made_nil w
  go_enter Try.func47, Try.ntmps47
  go_wp2_with fail
  refine hm.mono ?_
  rintro e w1 ⟨rfl, rfl⟩
  go_wp2
  go_ret
  exact ⟨rfl, rfl⟩
/-- The place of a number, if it is in the window. -/
def slP (p : Nat) (L : Lv) (q : Int) : Value := if L.wi q = true then .pointer (some ⟨p, 3 + pla q * 13, none⟩) else .pointer none
set_option maxHeartbeats 4000000 in
set_option maxRecDepth 100000 in
theorem ringAt_calls (h : Lg w p mp L) (hi : LInv L) (q : Int) : Calls Try.prog 41 #[.pointer (some ⟨p, 2, none⟩), .int .i64 q] w fun e w' => e = .returned (slP p L q) ∧ w' = w := by
  have c2 := h.c2
  have hl := hi.lo
  clear h hi
  have hw : IntKind.i64.wrap (L.lo + 8) = L.lo + 8 := by simp [IntKind.wrap, IntKind.bits, IntKind.signed]; omega
  obtain ⟨A, HA⟩ : ∃ A, Hid (slP p L q = A) := ⟨_, rfl⟩
  rw [HA.out]
  by_cases h1 : L.lo < q
  · have d1 : decide (q ≤ L.lo) = false := by simp only [decide_eq_false_iff_not]; omega
    by_cases h2 : q ≤ L.lo + 8
    · have d2 : decide (L.lo + 8 < q) = false := by simp only [decide_eq_false_iff_not]; omega
      have hA : A = .pointer (some ⟨p, 3 + pla q * 13, none⟩) := by rw [← HA.out]; unfold slP; rw [if_pos (by simp [Lv.wi, h1, h2])]
      have ht : q.tmod 8 = (pla q : Int) := by unfold pla; rw [Int.tmod_eq_emod_of_nonneg (by omega)]; omega
      have hk := pla_lt q
      have HA2 : Hid _ := hA
      generalize pla q = k at *
      clear hA HA
      go_enter Try.func41, Try.ntmps41
      go_wp2
      go_ret
      exact ⟨by rw [HA2.out]; rfl, rfl⟩
    · have d2 : decide (L.lo + 8 < q) = true := by simp only [decide_eq_true_eq]; omega
      have hA : A = .pointer none := by rw [← HA.out]; unfold slP; rw [if_neg (by simp [Lv.wi, h2])]
      have HA2 : Hid _ := hA
      clear hA HA
      go_enter Try.func41, Try.ntmps41
      go_wp2
      go_ret
      exact ⟨by rw [HA2.out]; rfl, rfl⟩
  · have d1 : decide (q ≤ L.lo) = true := by simp only [decide_eq_true_eq]; omega
    have hA : A = .pointer none := by rw [← HA.out]; unfold slP; rw [if_neg (by simp [Lv.wi, h1])]
    have HA2 : Hid _ := hA
    clear hA HA
    go_enter Try.func41, Try.ntmps41
    go_wp2
    go_ret
    exact ⟨by rw [HA2.out]; rfl, rfl⟩
set_option maxHeartbeats 4000000 in
theorem at_calls (h : Lg w p mp L) (hi : LInv L) (q : Int) : Calls Try.prog 31 #[.pointer (some ⟨p, 0, none⟩), .int .i64 q] w fun e w' => e = .returned (slP p L q) ∧ w' = w := by
  have hm := made_calls h hi
  have hr := ringAt_calls h hi q
  generalize slP p L q = A at *
  clear h hi
  go_enter Try.func31, Try.ntmps31
  go_wp2_with fail
  refine hm.mono ?_
  rintro e w1 ⟨rfl, rfl⟩
  go_wp2_with fail
  refine hr.mono ?_
  rintro e w1 ⟨rfl, rfl⟩
  go_wp2
  go_ret
  exact ⟨rfl, rfl⟩
set_option maxHeartbeats 4000000 in
theorem at_nil (w : World) (q : Int) : Calls Try.prog 31 #[.pointer none, .int .i64 q] w fun e w' => e = .returned (.pointer none) ∧ w' = w := by
  have hm := made_nil w
  go_enter Try.func31, Try.ntmps31
  go_wp2_with fail
  refine hm.mono ?_
  rintro e w1 ⟨rfl, rfl⟩
  go_wp2
  go_ret
  exact ⟨rfl, rfl⟩
/-- The place of a number that may be proposed and voted on. -/
def opP (p : Nat) (L : Lv) (vw q : Int) : Value := if L.wi q = true ∧ vw = L.vw then .pointer (some ⟨p, 3 + pla q * 13, none⟩) else .pointer none
set_option maxHeartbeats 4000000 in
theorem open_calls (h : Lg w p mp L) (hi : LInv L) (vw q : Int) : Calls Try.prog 42 #[.pointer (some ⟨p, 0, none⟩), .int .i64 vw, .int .i64 q] w fun e w' => e = .returned (opP p L vw q) ∧ w' = w := by
  have c1 := h.c1
  have hr := at_calls h hi q
  clear h hi
  unfold slP at hr
  by_cases h1 : L.wi q = true
  · rw [if_pos h1] at hr
    by_cases h2 : vw = L.vw
    · have hA : opP p L vw q = .pointer (some ⟨p, 3 + pla q * 13, none⟩) := by unfold opP; rw [if_pos ⟨h1, h2⟩]
      rw [hA]
      have d1 : decide (vw = L.vw) = true := decide_eq_true h2
      clear hA h1
      generalize 3 + pla q * 13 = o at *
      subst h2
      have d2 : (L.vw != L.vw) = false := by simp
      go_enter Try.func42, Try.ntmps42
      go_wp2_with fail
      refine hr.mono ?_
      rintro e w1 ⟨rfl, rfl⟩
      go_wp2
      go_ret
      exact ⟨rfl, rfl⟩
    · have hA : opP p L vw q = .pointer none := by unfold opP; rw [if_neg (fun e => h2 e.2)]
      rw [hA]
      have d1 : decide (vw = L.vw) = false := decide_eq_false h2
      have d2 : (vw != L.vw) = true := by simp [h2]
      have d3 : (vw == L.vw) = false := by simp [h2]
      clear hA h1
      generalize 3 + pla q * 13 = o at *
      go_enter Try.func42, Try.ntmps42
      go_wp2_with fail
      refine hr.mono ?_
      rintro e w1 ⟨rfl, rfl⟩
      go_wp2
      go_ret
      exact ⟨rfl, rfl⟩
  · rw [if_neg h1] at hr
    have hA : opP p L vw q = .pointer none := by unfold opP; rw [if_neg (fun e => h1 e.1)]
    rw [hA]
    clear hA h1
    go_enter Try.func42, Try.ntmps42
    go_wp2_with fail
    refine hr.mono ?_
    rintro e w1 ⟨rfl, rfl⟩
    go_wp2
    go_ret
    exact ⟨rfl, rfl⟩
end
end Go.Proofs.Ytjpmnmgnbpecjaa
