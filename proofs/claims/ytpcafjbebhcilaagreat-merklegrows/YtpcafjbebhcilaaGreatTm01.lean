/- Blocks of cells; all but one block as it was. No program is named here. -/
import Derived.WalkKit
import Derived.ProofKit
import Derived.Deep.WholeRow
import Derived.Deep.MidRow
import Derived.OpenShut
import Derived.Defers
import Derived.Recover
import Derived.Test.YtpcafjbebhcilaaGreatRows
import Derived.Handy
import Derived.WalkLawsBesides
import Derived.Deep.QuietTactic
import Derived.BigQuiet
namespace Go.Proofs.YtpcafjbebhcilaaGreat
open Go.RowKit
set_option linter.unusedSimpArgs false
set_option linter.unusedVariables false

/-- A block: its cells. -/
def Blk (w : World) (k : Nat) (cs : Array Value) (t : TypeId) : Prop := w.heap[k]? = some (.cells cs t)
theorem Blk.lt {w : World} {k : Nat} {cs : Array Value} {t : TypeId} (h : Blk w k cs t) : k < w.heap.size := by
  rcases Nat.lt_or_ge k w.heap.size with h1 | h1
  · exact h1
  · unfold Blk at h; rw [Array.getElem?_eq_none h1] at h; cases h
theorem Blk.cell {w : World} {k o : Nat} {cs : Array Value} {t : TypeId} {v : Value} (h : Blk w k cs t) (hv : cs[o]? = some v) : w.cell? ⟨k, o, none⟩ = some v := by
  rw [cell_of_row w k o cs t (0, 0) h]; exact hv
theorem Blk.frozen {w : World} {k o : Nat} {cs : Array Value} {t : TypeId} (h : Blk w k cs t) : w.frozen? ⟨k, o, none⟩ = false := frozen_of_row w k o cs t h
theorem Blk.set {w : World} {k : Nat} {cs : Array Value} {t : TypeId} (h : Blk w k cs t) (o : Nat) (v : Value) : Blk (w.setCell ⟨k, o, none⟩ v) k (cs.setIfInBounds o v) t := heap_setCell_same w k o cs t v h
theorem Blk.setOther {w : World} {k : Nat} {cs : Array Value} {t : TypeId} (h : Blk w k cs t) {p : Addr} (hp : k ≠ p.block) (v : Value) : Blk (w.setCell p v) k cs t :=
  (heap_setCell_other w p k v hp).trans h
theorem Blk.below {w w' : World} {k : Nat} {cs : Array Value} {t : TypeId} (h : Blk w k cs t) (hb : Below w.heap.size w w') : Blk w' k cs t := (hb.block k h.lt).trans h
theorem blk_new (w : World) (k : Nat) (cs : Array Value) (t : TypeId) (hk : k = w.heap.size) : Blk (w.alloc (.cells cs t)) k cs t := by subst hk; exact heap_alloc_new _ _
theorem Blk.alloc {w : World} {k : Nat} {cs : Array Value} {t : TypeId} (h : Blk w k cs t) (o : Obj) : Blk (w.alloc o) k cs t := h.below ((Below.refl _ _).alloc (Nat.le_refl _) o)
theorem Blk.drew {w : World} {k : Nat} {cs : Array Value} {t : TypeId} (h : Blk w k cs t) : Blk w.drew k cs t := h

/-- A whole row read through a pointer. -/
theorem Blk.load {P : Program} {w : World} {k : Nat} {cs : Array Value} {t : TypeId} (h : Blk w k cs t) {ty : TypeId} {d : TypeDesc} (hu : P.underlying ty = some d) (hd : d.isRow = true) (hi : (P.info? ty).map (·.size) = some cs.size) :
    (Instr.loadAt ty (.pointer (some ⟨k, 0, none⟩))).run P w = .ok (.agg cs) w := by
  have := run_loadVar_row (P := P) w k t ty cs (0, 0) d h hu (by cases d <;> simp_all) hi
  simp only [Instr.loadAt, Instr.sureAddr, Sem.run_bind, Sem.run_pure, Result.andThen_ok, this]
/-- A whole row stored through a pointer. -/
theorem Blk.store {P : Program} {w : World} {k : Nat} {cs : Array Value} {t : TypeId} (h : Blk w k cs t) {ty : TypeId} (cs' : Array Value) (hi : (P.info? ty).map (·.size) = some cs'.size) (hs : cs.size = cs'.size) (h1 : cs'.all (·.oneCell') = true) :
    (Instr.storeAt ty (.pointer (some ⟨k, 0, none⟩)) (.agg cs')).run P w = .ok () (w.setRow k cs') := by
  simp only [Instr.storeAt, Instr.sureAddr, Sem.run_bind, Sem.run_pure, Result.andThen_ok, run_storeVar_row (P := P) w k t ty cs cs' h hi hs h1]
theorem Blk.setRow {w : World} {k : Nat} {cs : Array Value} {t : TypeId} (h : Blk w k cs t) (cs' : Array Value) : Blk (w.setRow k cs') k cs' t := setRow_heap w k cs cs' t (0, 0) h
theorem Blk.setRowOther {w : World} {k j : Nat} {cs : Array Value} {t : TypeId} (h : Blk w k cs t) (cs' : Array Value) (hj : k ≠ j) : Blk (w.setRow j cs') k cs t := (setRow_other w j k cs' hj).trans h
theorem below_setRow {B : Nat} {w0 w : World} (h : Below B w0 w) (k : Nat) (cs : Array Value) (hk : B ≤ k) : Below B w0 (w.setRow k cs) :=
  h.trans ⟨rfl, rfl, rfl, by simp, fun j hj => setRow_other w k j cs (by omega)⟩


/-- All but block b is as it was: the streams, what was there. -/
structure Off (b : Nat) (w w' : World) : Prop where
  os : w'.os = w.os
  tape : w'.tape = w.tape
  output : w'.output = w.output
  size : w.heap.size ≤ w'.heap.size
  block : ∀ k, k < w.heap.size → k ≠ b → w'.heap[k]? = w.heap[k]?

theorem Off.refl (b : Nat) (w : World) : Off b w w := ⟨rfl, rfl, rfl, Nat.le_refl _, fun _ _ _ => rfl⟩
theorem Off.trans {b : Nat} {x y z : World} (h : Off b x y) (k : Off b y z) : Off b x z :=
  ⟨k.os.trans h.os, k.tape.trans h.tape, k.output.trans h.output, Nat.le_trans h.size k.size, fun i hi hb => (k.block i (Nat.lt_of_lt_of_le hi h.size) hb).trans (h.block i hi hb)⟩
theorem Off.of_below {b : Nat} {w w' : World} (h : Below w.heap.size w w') : Off b w w' := ⟨h.os, h.tape, h.output, h.size, fun k hk _ => h.block k hk⟩
theorem Off.drew {b : Nat} {x w : World} (h : Off b x w) : Off b x w.drew := ⟨h.os, h.tape, h.output, h.size, h.block⟩
theorem Off.alloc {b : Nat} {x w : World} (h : Off b x w) (o : Obj) : Off b x (w.alloc o) :=
  h.trans (Off.of_below ((Below.refl _ _).alloc (Nat.le_refl _) o))
theorem Off.setCell {b : Nat} {x w : World} (h : Off b x w) {p : Addr} (hp : p.block = b) (u : Value) : Off b x (w.setCell p u) :=
  h.trans ⟨rfl, rfl, rfl, by simp [World.setCell], fun k _ hb => Below.heap_setCell _ _ _ _ (by omega)⟩
theorem Off.cell {b : Nat} {w w' : World} (h : Off b w w') {p : Addr} (hp : p.block < w.heap.size) (hb : p.block ≠ b) : w'.cell? p = w.cell? p := World.cell?_of_block (w := w) (h.block p.block hp hb)
theorem Off.frozen {b : Nat} {w w' : World} (h : Off b w w') {p : Addr} (hp : p.block < w.heap.size) (hb : p.block ≠ b) : w'.frozen? p = w.frozen? p := World.frozen?_of_block (w := w) (h.block p.block hp hb)
/-- The reader's block is the call's own: below it nothing has turned. -/
theorem Off.below {b B : Nat} {w0 w w' : World} (h : Off b w w') (hb : B ≤ b) (k : Below B w0 w) (hB : B ≤ w.heap.size) : Below B w0 w' :=
  k.trans ⟨h.os, h.tape, h.output, h.size, fun i hi => h.block i (by omega) (by omega)⟩
theorem Blk.off {w w' : World} {k b : Nat} {cs : Array Value} {t : TypeId} (h : Blk w k cs t) (ho : Off b w w') (hk : k ≠ b) : Blk w' k cs t := (ho.block k h.lt hk).trans h
theorem Off.setRow {b : Nat} {x w : World} (h : Off b x w) (cs : Array Value) : Off b x (w.setRow b cs) :=
  h.trans ⟨rfl, rfl, rfl, by simp, fun k _ hb => setRow_other w b k cs hb⟩
end Go.Proofs.YtpcafjbebhcilaaGreat

namespace Go.Proofs.YtpcafjbebhcilaaGreat
open Go.RowKit
set_option linter.unusedSimpArgs false
set_option linter.unusedVariables false

/-- A number read at a place, k rounds left, i rounds done, n so far: why not, or the number and the place behind it. -/
def rdF (s : ByteArray) (a : Nat) : Nat → Nat → Nat → Except Int (Nat × Nat)
  | 0, _, _ => .error 11
  | k + 1, i, n =>
    if h : a + i < s.size then
      if 128 ≤ s[a + i].toNat then rdF s a k (i + 1) (n + s[a + i].toNat % 128 * 128 ^ i)
      else if (s[a + i].toNat = 0 ∧ 0 < i) ∨ 9007199254740992 < n + s[a + i].toNat % 128 * 128 ^ i then .error 11
      else .ok (n + s[a + i].toNat % 128 * 128 ^ i, a + i + 1)
    else .error 10

def rdInt (s : ByteArray) (a : Nat) : Except Int (Nat × Nat) := rdF s a 8 0 0

/-- The reader's cells: the text, the place. -/
structure Rdr (w : World) (b : Nat) (s : ByteArray) (a : Int) : Prop where
  s : w.cell? ⟨b, 0, none⟩ = some (.string s)
  a : w.cell? ⟨b, 1, none⟩ = some (.int .i64 a)
  f : w.frozen? ⟨b, 1, none⟩ = false
  lt : b < w.heap.size

/-- A reader that a call of something else leaves alone. -/
theorem Rdr.below {w w' : World} {b : Nat} {s : ByteArray} {a : Int} (r : Rdr w b s a) (h : Below w.heap.size w w') : Rdr w' b s a :=
  ⟨by rw [h.cell (p := ⟨b, 0, none⟩) r.lt]; exact r.s, by rw [h.cell (p := ⟨b, 1, none⟩) r.lt]; exact r.a, by rw [h.frozen (p := ⟨b, 1, none⟩) r.lt]; exact r.f, Nat.lt_of_lt_of_le r.lt h.size⟩
theorem Rdr.drew {w : World} {b : Nat} {s : ByteArray} {a : Int} (r : Rdr w b s a) : Rdr w.drew b s a := r.below (Below.refl _ _).drew
theorem Rdr.alloc {w : World} {b : Nat} {s : ByteArray} {a : Int} (r : Rdr w b s a) (o : Obj) : Rdr (w.alloc o) b s a := r.below ((Below.refl _ _).alloc (Nat.le_refl _) o)
theorem Rdr.set {w : World} {b : Nat} {s : ByteArray} {a : Int} (r : Rdr w b s a) (x : Int) : Rdr (w.setCell ⟨b, 1, none⟩ (.int .i64 x)) b s x :=
  ⟨by rw [World.cell?_setCell_other _ _ _ _ (by simp)]; exact r.s, by rw [World.cell?_setCell_same _ _ _ r.a], by rw [World.frozen?_setCell]; exact r.f, by simpa [World.setCell] using r.lt⟩
theorem Rdr.setOther {w : World} {b : Nat} {s : ByteArray} {a : Int} (r : Rdr w b s a) {p : Addr} (hp : p.block ≠ b) (u : Value) : Rdr (w.setCell p u) b s a :=
  ⟨by rw [World.cell?_setCell_other _ _ _ _ (by intro e; subst e; exact hp rfl)]; exact r.s, by rw [World.cell?_setCell_other _ _ _ _ (by intro e; subst e; exact hp rfl)]; exact r.a, by rw [World.frozen?_setCell]; exact r.f, by simpa [World.setCell] using r.lt⟩
end Go.Proofs.YtpcafjbebhcilaaGreat

namespace Go.Proofs.YtpcafjbebhcilaaGreat
open Go.RowKit
set_option linter.unusedSimpArgs false
set_option linter.unusedVariables false

def gu (e : Int) : List PanicEntry := [{ v := .iface 143 (.agg #[.int .i64 e]), recovered := false }]

theorem within_calls (n m : Int) (w : World) :
    Calls Tryz.prog 110 #[.int .i64 n, .int .i64 m] w fun e w' => e = .returned (.bool (decide (0 ≤ n ∧ n ≤ m))) ∧ w' = w := by
  by_cases h0 : 0 ≤ n
  · go_enter Tryz.func110, Tryz.ntmps110
    go_wp2
    go_ret
    exact ⟨by simp [h0], rfl⟩
  · have h1 : decide (0 ≤ n) = false := by simpa using h0
    go_enter Tryz.func110, Tryz.ntmps110
    go_wp2
    go_ret
    exact ⟨by simp, rfl⟩

theorem giveUp_calls (e0 : Int) (w : World) :
    Calls Tryz.prog 102 #[.int .i64 e0] w fun e w' => e = .panicked (gu e0) ∧ w' = w := by
  go_enter Tryz.func102, Tryz.ntmps102
  go_wp2
  exact ⟨rfl, rfl, rfl⟩

theorem next_ok (b : Nat) (s : ByteArray) (a : Nat) (w : World) (hr : Rdr w b s a) (hs : s.size ≤ maxLen) (ha : a < s.size) :
    Calls Tryz.prog 114 #[.pointer (some ⟨b, 0, none⟩)] w fun e w' => e = .returned (.int .u8 s[a].toNat) ∧ Off b w w' ∧ Rdr w' b s ((a + 1 : Nat) : Int) := by
  unfold maxLen at hs
  obtain ⟨h1, h2, h3, h4⟩ := id hr
  have hd : decide (s.size ≤ a) = false := by simpa using ha
  go_enter Tryz.func114, Tryz.ntmps114
  go_wp2
  go_region
  go_wp2
  go_region
  go_wp2
  go_ret
  exact ⟨rfl, ((Off.refl b w).setCell (p := ⟨b, 1, none⟩) rfl _).drew.drew, (hr.set _).drew.drew⟩

theorem next_short (b : Nat) (s : ByteArray) (a : Nat) (w : World) (hr : Rdr w b s a) (ha : ¬ a < s.size) :
    Calls Tryz.prog 114 #[.pointer (some ⟨b, 0, none⟩)] w fun e w' => e = .panicked (gu 10) ∧ Off b w w' := by
  obtain ⟨h1, h2, h3, h4⟩ := hr
  have hd : decide (s.size ≤ a) = true := by simpa using ha
  go_enter Tryz.func114, Tryz.ntmps114
  go_wp2
  go_region
  go_wp2
  exact ⟨rfl, rfl, rfl, Off.drew (Off.refl _ _)⟩
end Go.Proofs.YtpcafjbebhcilaaGreat

namespace Go.Proofs.YtpcafjbebhcilaaGreat
open Go.RowKit
set_option linter.unusedSimpArgs false
set_option linter.unusedVariables false

theorem pow128 (k : Nat) : (128 : Nat) ^ k = 2 ^ (7 * k) := by
  rw [Nat.pow_mul]

theorem wraps_i64 (n : Int) (h₀ : 0 ≤ n) (h₁ : n < 2 ^ 63) : IntKind.i64.wrap n = n := by rw [IntKind.wrap_i64]; omega

theorem and127 (c : Nat) (hc : c < 256) : bits .and .u8 (c : Int) 127 = ((c % 128 : Nat) : Int) := by
  have h := bits_mask .u8 8 (by decide) wraps_u8 7 (by decide) (c : Int) (by omega) (by omega)
  have e : (2 : Int) ^ 7 - 1 = 127 := by decide
  rw [e] at h
  rw [h]; simp

theorem and127i (n : Nat) (hn : n < 9223372036854775808) : bits .and .i64 (n : Int) 127 = ((n % 128 : Nat) : Int) := by
  have h := bits_mask .i64 63 (by decide) wraps_i64 7 (by decide) (n : Int) (by omega) (by omega)
  have e : (2 : Int) ^ 7 - 1 = 127 := by decide
  rw [e] at h
  rw [h]; simp

theorem or128 (c : Nat) (hc : c < 128) : bits .or .u8 (c : Int) 128 = ((128 + c : Nat) : Int) := by
  have h := u8_or_nat c 128 (by omega) (by omega)
  have e : c ||| 128 = 128 + c := by
    rw [Nat.or_comm]; exact nat_join 7 128 c (by decide) hc
  rw [e] at h
  exact h

theorem small128 (c k : Nat) (hk : k ≤ 7) (hc : c < 128) : c * 128 ^ k < 72057594037927936 := by
  have h1 : (128 : Nat) ^ k ≤ 128 ^ 7 := Nat.pow_le_pow_right (by decide) hk
  have h2 : c * 128 ^ k ≤ 127 * 128 ^ 7 := Nat.mul_le_mul (by omega) h1
  have e : (127 : Nat) * 128 ^ 7 < 72057594037927936 := by decide
  omega

theorem or7 (m c k : Nat) (hk : k ≤ 7) (hm : m < 128 ^ k) (hc : c < 256) :
    bits .or .i64 (m : Int) (wrap64 (wrap64 (bits .and .u8 (c : Int) 127) * 2 ^ (7 * k))) = ((m + c % 128 * 128 ^ k : Nat) : Int) := by
  have hs := small128 (c % 128) k hk (by omega)
  have hm7 : m < 72057594037927936 := by
    have h1 : (128 : Nat) ^ k ≤ 128 ^ 7 := Nat.pow_le_pow_right (by decide) hk
    have e : (128 : Nat) ^ 7 < 72057594037927936 := by decide
    omega
  rw [and127 c hc]
  have e1 : wrap64 ((c % 128 : Nat) : Int) = ((c % 128 : Nat) : Int) := by unfold wrap64; omega
  rw [e1]
  have e2 : ((c % 128 : Nat) : Int) * 2 ^ (7 * k) = ((c % 128 * 128 ^ k : Nat) : Int) := by
    rw [pow128]; simp
  rw [e2]
  have e3 : wrap64 ((c % 128 * 128 ^ k : Nat) : Int) = ((c % 128 * 128 ^ k : Nat) : Int) := by unfold wrap64; omega
  rw [e3, (bits_nat .i64 63 (by decide) wraps_i64 m _ (by omega) (by omega)).2, Nat.or_comm]
  have hmod : (c % 128 * 128 ^ k) % 2 ^ (7 * k) = 0 := by rw [pow128]; exact Nat.mul_mod_left _ _
  rw [nat_join (7 * k) _ m hmod (by rw [← pow128]; exact hm)]
  congr 1; omega

theorem lt128 (m c k : Nat) (hm : m < 128 ^ k) : m + c % 128 * 128 ^ k < 128 ^ (k + 1) := by
  have h : c % 128 ≤ 127 := by omega
  have h2 : c % 128 * 128 ^ k ≤ 127 * 128 ^ k := Nat.mul_le_mul_right _ h
  rw [Nat.pow_succ]; omega
end Go.Proofs.YtpcafjbebhcilaaGreat
