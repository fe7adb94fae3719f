/- Numbers to the base 128 by bits: plain arithmetic. -/
import Derived.WalkKit
import Derived.Handy
import Derived.ProofKit
import Derived.OpenShut
import Derived.Defers
import Derived.Recover
import Derived.Test.YtpekfpfhonechaaGreatWa01
import Derived.Test.YtpekfpfhonechaaGreatRows
import Derived.WalkLawsBesides
import Derived.Deep.QuietTactic
import Derived.BigQuiet
import Derived.Test.YtpekfpfhonechaaGreatWa02
import Derived.Deep.RegionWith
import Derived.WalkSpells
import Derived.Lib.AppendStr
import Derived.Laws.IdiomStrings
namespace Go.Proofs.YtpekfpfhonechaaGreat
open Go.RowKit
set_option linter.unusedSimpArgs false
set_option linter.unusedVariables false

theorem pow128 (k : Nat) : (128 : Nat) ^ k = 2 ^ (7 * k) := by
  rw [Nat.pow_mul]

theorem wraps_i64 (n : Int) (h₀ : 0 ≤ n) (h₁ : n < 2 ^ 63) : IntKind.i64.wrap n = n := by rw [IntKind.wrap_i64]; omega

theorem and127 (c : Nat) (hc : c < 256) : bits .and .u8 (c : Int) 127 = ((c % 128 : Nat) : Int) := by
  have h := bits_mask .u8 8 (by decide) wraps_u8 7 (by decide) (c : Int) (by omega) (by omega)
  have e : (2 : Int) ^ 7 - 1 = 127 := by decide
  rw [e] at h
  rw [h]; simp

theorem and127i (n : Nat) (hn : n < 9223372036854775808) : bits .and .i64 (n : Int) 127 = ((n % 128 : Nat) : Int) := by
  have h := bits_mask .i64 63 (by decide) wraps_i64 7 (by decide) (n : Int) (by omega) (by omega)
  have e : (2 : Int) ^ 7 - 1 = 127 := by decide
  rw [e] at h
  rw [h]; simp

theorem or128 (c : Nat) (hc : c < 128) : bits .or .u8 (c : Int) 128 = ((128 + c : Nat) : Int) := by
  have h := u8_or_nat c 128 (by omega) (by omega)
  have e : c ||| 128 = 128 + c := by
    rw [Nat.or_comm]; exact nat_join 7 128 c (by decide) hc
  rw [e] at h
  exact h

theorem small128 (c k : Nat) (hk : k ≤ 7) (hc : c < 128) : c * 128 ^ k < 72057594037927936 := by
  have h1 : (128 : Nat) ^ k ≤ 128 ^ 7 := Nat.pow_le_pow_right (by decide) hk
  have h2 : c * 128 ^ k ≤ 127 * 128 ^ 7 := Nat.mul_le_mul (by omega) h1
  have e : (127 : Nat) * 128 ^ 7 < 72057594037927936 := by decide
  omega

theorem or7 (m c k : Nat) (hk : k ≤ 7) (hm : m < 128 ^ k) (hc : c < 256) :
    bits .or .i64 (m : Int) (wrap64 (wrap64 (bits .and .u8 (c : Int) 127) * 2 ^ (7 * k))) = ((m + c % 128 * 128 ^ k : Nat) : Int) := by
  have hs := small128 (c % 128) k hk (by omega)
  have hm7 : m < 72057594037927936 := by
    have h1 : (128 : Nat) ^ k ≤ 128 ^ 7 := Nat.pow_le_pow_right (by decide) hk
    have e : (128 : Nat) ^ 7 < 72057594037927936 := by decide
    omega
  rw [and127 c hc]
  have e1 : wrap64 ((c % 128 : Nat) : Int) = ((c % 128 : Nat) : Int) := by unfold wrap64; omega
  rw [e1]
  have e2 : ((c % 128 : Nat) : Int) * 2 ^ (7 * k) = ((c % 128 * 128 ^ k : Nat) : Int) := by
    rw [pow128]; simp
  rw [e2]
  have e3 : wrap64 ((c % 128 * 128 ^ k : Nat) : Int) = ((c % 128 * 128 ^ k : Nat) : Int) := by unfold wrap64; omega
  rw [e3, (bits_nat .i64 63 (by decide) wraps_i64 m _ (by omega) (by omega)).2, Nat.or_comm]
  have hmod : (c % 128 * 128 ^ k) % 2 ^ (7 * k) = 0 := by rw [pow128]; exact Nat.mul_mod_left _ _
  rw [nat_join (7 * k) _ m hmod (by rw [← pow128]; exact hm)]
  congr 1; omega

theorem lt128 (m c k : Nat) (hm : m < 128 ^ k) : m + c % 128 * 128 ^ k < 128 ^ (k + 1) := by
  have h : c % 128 ≤ 127 := by omega
  have h2 : c % 128 * 128 ^ k ≤ 127 * 128 ^ k := Nat.mul_le_mul_right _ h
  rw [Nat.pow_succ]; omega
end Go.Proofs.YtpekfpfhonechaaGreat

namespace Go.Proofs.YtpekfpfhonechaaGreat
open Go.RowKit
set_option linter.unusedSimpArgs false
set_option linter.unusedVariables false

/-- A number read at a place, k rounds left, i rounds done, n so far: why not, or the number and the place behind it. -/
def rdF (s : ByteArray) (a : Nat) : Nat → Nat → Nat → Except Int (Nat × Nat)
  | 0, _, _ => .error 11
  | k + 1, i, n =>
    if h : a + i < s.size then
      if 128 ≤ s[a + i].toNat then rdF s a k (i + 1) (n + s[a + i].toNat % 128 * 128 ^ i)
      else if (s[a + i].toNat = 0 ∧ 0 < i) ∨ 9007199254740992 < n + s[a + i].toNat % 128 * 128 ^ i then .error 11
      else .ok (n + s[a + i].toNat % 128 * 128 ^ i, a + i + 1)
    else .error 10

def rdInt (s : ByteArray) (a : Nat) : Except Int (Nat × Nat) := rdF s a 8 0 0

/-- The reader's cells: the text, the place. -/
structure Rdr (w : World) (b : Nat) (s : ByteArray) (a : Int) : Prop where
  s : w.cell? ⟨b, 0, none⟩ = some (.string s)
  a : w.cell? ⟨b, 1, none⟩ = some (.int .i64 a)
  f : w.frozen? ⟨b, 1, none⟩ = false
  lt : b < w.heap.size

/-- A reader that a call of something else leaves alone. -/
theorem Rdr.below {w w' : World} {b : Nat} {s : ByteArray} {a : Int} (r : Rdr w b s a) (h : Below w.heap.size w w') : Rdr w' b s a :=
  ⟨by rw [h.cell (p := ⟨b, 0, none⟩) r.lt]; exact r.s, by rw [h.cell (p := ⟨b, 1, none⟩) r.lt]; exact r.a, by rw [h.frozen (p := ⟨b, 1, none⟩) r.lt]; exact r.f, Nat.lt_of_lt_of_le r.lt h.size⟩
theorem Rdr.drew {w : World} {b : Nat} {s : ByteArray} {a : Int} (r : Rdr w b s a) : Rdr w.drew b s a := r.below (Below.refl _ _).drew
theorem Rdr.alloc {w : World} {b : Nat} {s : ByteArray} {a : Int} (r : Rdr w b s a) (o : Obj) : Rdr (w.alloc o) b s a := r.below ((Below.refl _ _).alloc (Nat.le_refl _) o)
theorem Rdr.set {w : World} {b : Nat} {s : ByteArray} {a : Int} (r : Rdr w b s a) (x : Int) : Rdr (w.setCell ⟨b, 1, none⟩ (.int .i64 x)) b s x :=
  ⟨by rw [World.cell?_setCell_other _ _ _ _ (by simp)]; exact r.s, by rw [World.cell?_setCell_same _ _ _ r.a], by rw [World.frozen?_setCell]; exact r.f, by simpa [World.setCell] using r.lt⟩
theorem Rdr.setOther {w : World} {b : Nat} {s : ByteArray} {a : Int} (r : Rdr w b s a) {p : Addr} (hp : p.block ≠ b) (u : Value) : Rdr (w.setCell p u) b s a :=
  ⟨by rw [World.cell?_setCell_other _ _ _ _ (by intro e; subst e; exact hp rfl)]; exact r.s, by rw [World.cell?_setCell_other _ _ _ _ (by intro e; subst e; exact hp rfl)]; exact r.a, by rw [World.frozen?_setCell]; exact r.f, by simpa [World.setCell] using r.lt⟩
end Go.Proofs.YtpekfpfhonechaaGreat

namespace Go.Proofs.YtpekfpfhonechaaGreat
open Go.RowKit
set_option linter.unusedSimpArgs false
set_option linter.unusedVariables false

def gu (e : Int) : List PanicEntry := [{ v := .iface 132 (.agg #[.int .i64 e]), recovered := false }]

theorem within_calls (n m : Int) (w : World) :
    Calls Tryz.prog 42 #[.int .i64 n, .int .i64 m] w fun e w' => e = .returned (.bool (decide (0 ≤ n ∧ n ≤ m))) ∧ w' = w := by
  by_cases h0 : 0 ≤ n
  · go_enter Tryz.func42, Tryz.ntmps42
    go_wp2
    go_ret
    exact ⟨by simp [h0], rfl⟩
  · have h1 : decide (0 ≤ n) = false := by simpa using h0
    go_enter Tryz.func42, Tryz.ntmps42
    go_wp2
    go_ret
    exact ⟨by simp, rfl⟩

theorem next_ok (b : Nat) (s : ByteArray) (a : Nat) (w : World) (hr : Rdr w b s a) (hs : s.size ≤ maxLen) (ha : a < s.size) :
    Calls Tryz.prog 88 #[.pointer (some ⟨b, 0, none⟩)] w fun e w' => e = .returned (.int .u8 s[a].toNat) ∧ Off b w w' ∧ Rdr w' b s ((a + 1 : Nat) : Int) := by
  unfold maxLen at hs
  obtain ⟨h1, h2, h3, h4⟩ := id hr
  have hd : decide (s.size ≤ a) = false := by simpa using ha
  go_enter Tryz.func88, Tryz.ntmps88
  go_wp2
  go_region
  go_wp2
  go_region
  go_wp2
  go_ret
  exact ⟨rfl, ((Off.refl b w).setCell (p := ⟨b, 1, none⟩) rfl _).drew.drew, (hr.set _).drew.drew⟩

theorem next_short (b : Nat) (s : ByteArray) (a : Nat) (w : World) (hr : Rdr w b s a) (ha : ¬ a < s.size) :
    Calls Tryz.prog 88 #[.pointer (some ⟨b, 0, none⟩)] w fun e w' => e = .panicked (gu 10) ∧ Off b w w' := by
  obtain ⟨h1, h2, h3, h4⟩ := hr
  have hd : decide (s.size ≤ a) = true := by simpa using ha
  go_enter Tryz.func88, Tryz.ntmps88
  go_wp2
  go_region
  go_wp2
  exact ⟨rfl, rfl, rfl, Off.drew (Off.refl _ _)⟩
end Go.Proofs.YtpekfpfhonechaaGreat

namespace Go.Proofs.YtpekfpfhonechaaGreat
open Go.RowKit
set_option linter.unusedSimpArgs false
set_option linter.unusedVariables false

/-- What reading gives: the value and the place behind it, or a panic of the reader's own. -/
def Reads {α : Type} (r : Except Int (α × Nat)) (val : α → Value) (b : Nat) (s : ByteArray) (w : World) (e : Ending) (w' : World) : Prop :=
  match r with
  | .ok (x, nx) => e = .returned (val x) ∧ Off b w w' ∧ Rdr w' b s nx
  | .error er => e = .panicked (gu er) ∧ Off b w w'

theorem rdF_step (s : ByteArray) (a k m : Nat) (hk : k ≤ 7) (hlt : a + k < s.size) :
    rdF s a (8 - k) k m = if 128 ≤ s[a + k].toNat then rdF s a (7 - k) (k + 1) (m + s[a + k].toNat % 128 * 128 ^ k)
      else if (s[a + k].toNat = 0 ∧ 0 < k) ∨ 9007199254740992 < m + s[a + k].toNat % 128 * 128 ^ k then .error 11
      else .ok (m + s[a + k].toNat % 128 * 128 ^ k, a + k + 1) := by
  have e : 8 - k = (7 - k) + 1 := by omega
  rw [e]
  simp only [rdF, hlt, dite_true]

set_option maxRecDepth 100000 in
theorem number_calls (b : Nat) (s : ByteArray) (a : Nat) (w : World) (hr : Rdr w b s a) (hs : s.size ≤ maxLen) (ha : a ≤ s.size) :
    Calls Tryz.prog 66 #[.pointer (some ⟨b, 0, none⟩)] w (Reads (rdInt s a) (fun n => .int .i64 n) b s w) := by
  have hs' := hs
  unfold maxLen at hs
  go_enter Tryz.func66, Tryz.ntmps66
  go_wp2
  go_loopw [3, 4] (fun n i w1 => ∃ k m : Nat, k ≤ 7 ∧ i = .int .i64 k ∧ n = .int .i64 m ∧ m < 128 ^ k ∧ Hid (rdF s a (8 - k) k m = rdInt s a) ∧ a + k ≤ s.size ∧ Off b w w1 ∧ Rdr w1 b s ((a + k : Nat) : Int)) (fun _ i _ => 8 - (intOf i).toNat)
  case atStart => exact ⟨0, 0, by omega, rfl, rfl, by simp, rfl, by omega, Off.refl _ _, hr⟩
  case round =>
    obtain ⟨k, m, hk, rfl, rfl, hm, hR, hak, ho, hrd⟩ := hrel
    by_cases hlt : a + k < s.size
    · have hc : s[a + k].toNat < 256 := s[a + k].toNat_lt
      have hstep : Hid (_ = _) := (rdF_step s a k m hk hlt).symm.trans hR.out
      obtain ⟨c, hcc⟩ : ∃ c, s[a + k].toNat = c := ⟨_, rfl⟩
      have hj := or7 m _ k hk hm hc
      have hm' := lt128 m (s[a + k].toNat) k hm
      have hnx := next_ok b s (a + k) wr hrd hs' hlt
      have hsm := small128 (s[a + k].toNat % 128) k hk (by omega)
      rw [hcc] at hc hstep hj hm' hnx hsm
      have HN := hnx
      clear hnx hR hcc
      generalize m + c % 128 * 128 ^ k = m' at *
      have hm7 : m' < 9223372036854775808 := by
        have h1 : (128 : Nat) ^ (k + 1) ≤ 128 ^ 8 := Nat.pow_le_pow_right (by decide) (by omega)
        have e : (128 : Nat) ^ 8 < 9223372036854775808 := by decide
        omega
      by_cases h128 : 128 ≤ c
      · rw [if_pos h128] at hstep
        by_cases hk7 : k < 7
        · go_wp2_with fail
          refine HN.mono ?_
          rintro e w1 ⟨rfl, ho1, hr1⟩
          go_wp2
          go_roundw
          case rel => exact ⟨k + 1, m', by omega, by go_num, rfl, hm', (by rw [show 8 - (k + 1) = 7 - k by omega]; exact hstep), by omega, ho.trans ho1, hr1⟩
          case measure => simp [intOf]; omega
        · have e7 : k = 7 := by omega
          subst e7
          have hfin : rdInt s a = .error 11 := hstep.out.symm
          go_wp2_with fail
          refine HN.mono ?_
          rintro e w1 ⟨rfl, ho1, hr1⟩
          go_wp2
          exact ⟨rfl, rfl, by unfold Reads; rw [hfin]; exact ⟨rfl, ho.trans ho1⟩⟩
      · rw [if_neg h128] at hstep
        have hcn : (c : Int) < 128 := by omega
        by_cases hbad : (c = 0 ∧ 0 < k) ∨ 9007199254740992 < m'
        · rw [if_pos hbad] at hstep
          by_cases h1 : c = 0
          · have h2 : 0 < (k : Int) := by
              rcases hbad with h | h
              · omega
              · by_cases hk0 : k = 0
                · subst hk0; have : m' < 128 := hm'; omega
                · omega
            subst h1
            clear hbad
            go_wp2_with fail
            refine HN.mono ?_
            rintro e w1 ⟨rfl, ho1, hr1⟩
            go_wp2
            all_goals exact ⟨rfl, rfl, by unfold Reads; rw [← hstep.out]; exact ⟨rfl, ho.trans ho1⟩⟩
          · have h2 : 9007199254740992 < (m' : Int) := by
              rcases hbad with h | h
              · exact absurd h.1 h1
              · omega
            have hc0' : ((c : Int) == 0) = false := by simpa using h1
            clear hbad h1
            go_wp2_with fail
            refine HN.mono ?_
            rintro e w1 ⟨rfl, ho1, hr1⟩
            go_wp2
            all_goals exact ⟨rfl, rfl, by unfold Reads; rw [← hstep.out]; exact ⟨rfl, ho.trans ho1⟩⟩
        · rw [if_neg hbad] at hstep
          have hm53 : ¬ 9007199254740992 < (m' : Int) := by omega
          have hz : c = 0 → k = 0 := fun h => by omega
          by_cases hc0 : c = 0
          · have hk0 := hz hc0
            subst hc0 hk0
            clear hbad hz
            have hj' : bits .or .i64 (m : Int) (wrap64 (wrap64 (bits .and .u8 0 127))) = (m' : Int) := by simpa using hj
            go_wp2_with fail
            refine HN.mono ?_
            rintro e w1 ⟨rfl, ho1, hr1⟩
            go_wp2
            go_ret
            unfold Reads; rw [← hstep.out]; exact ⟨rfl, ho.trans ho1, hr1⟩
          · clear hbad hz
            have hc0' : ((c : Int) == 0) = false := by simpa using hc0
            go_wp2_with fail
            refine HN.mono ?_
            rintro e w1 ⟨rfl, ho1, hr1⟩
            go_wp2
            go_ret
            unfold Reads; rw [← hstep.out]; exact ⟨rfl, ho.trans ho1, hr1⟩
    · have hfin : rdInt s a = .error 10 := by
        rw [← hR.out]
        have e : 8 - k = (7 - k) + 1 := by omega
        rw [e]; simp [rdF, hlt]
      have HF : Hid (rdInt s a = .error 10) := hfin
      clear hfin hR
      go_wp2_with fail
      refine (next_short b s (a + k) _ hrd hlt).mono ?_
      rintro e w1 ⟨rfl, ho1⟩
      exact ⟨rfl, by unfold Reads; rw [HF.out]; exact ⟨rfl, ho.trans ho1⟩⟩
end Go.Proofs.YtpekfpfhonechaaGreat

namespace Go.Proofs.YtpekfpfhonechaaGreat
open Go.RowKit
set_option linter.unusedVariables false
set_option linter.unusedSimpArgs false

def encF : Nat → Nat → List UInt8
  | 0, _ => []
  | k + 1, n => if n < 128 then [UInt8.ofNat n] else UInt8.ofNat (128 + n % 128) :: encF k (n / 128)
def enc (n : Nat) : List UInt8 := encF 10 n

/-- All that is no row of bytes is as it was. -/
structure Kp (w w' : World) : Prop where
  size : w.heap.size ≤ w'.heap.size
  block : ∀ k, k < w.heap.size → (∀ cur fr, w.heap[k]? ≠ some (.cells cur 5 fr)) → w'.heap[k]? = w.heap[k]?

theorem Kp.refl (w : World) : Kp w w := ⟨Nat.le_refl _, fun _ _ _ => rfl⟩
theorem Kp.trans {x y z : World} (h : Kp x y) (k : Kp y z) : Kp x z :=
  ⟨Nat.le_trans h.size k.size, fun i hi hn => by
    have e := h.block i hi hn
    exact (k.block i (Nat.lt_of_lt_of_le hi h.size) (fun cur fr => by rw [e]; exact hn cur fr)).trans e⟩
theorem Kp.of_below {w w' : World} (h : Below w.heap.size w w') : Kp w w' := ⟨h.size, fun k hk _ => h.block k hk⟩
theorem Kp.of_grown {w w' : World} {base n : Nat} {v : Value} {xs : List Value} (hg : w.grownBy w' v.ownBlock) (ho : w.ownsRow base 5 1 v n xs) : Kp w w' :=
  ⟨hg.size, fun k hk hn => hg.block k hk (fun e => by
    rcases ho.2 with ⟨rfl, _⟩ | ⟨g, cap, cur, rfl, _, h, _⟩
    · simp [Value.ownBlock] at e
    · simp [Value.ownBlock] at e
      subst e
      exact hn _ _ h)⟩
theorem Kp.cell {w w' : World} (h : Kp w w') {k o : Nat} {cs : Array Value} {t : TypeId} {fr : Nat × Nat} (hk : w.heap[k]? = some (.cells cs t fr)) (ht : t ≠ 5) : w'.heap[k]? = some (.cells cs t fr) := by
  have hlt : k < w.heap.size := by
    rcases Nat.lt_or_ge k w.heap.size with h1 | h1
    · exact h1
    · rw [Array.getElem?_eq_none h1] at hk; cases hk
  rw [h.block k hlt (fun cur fr' e => by rw [hk] at e; simp at e; exact ht e.2.1)]
  exact hk

theorem byteCells_snoc (d : List UInt8) (c : UInt8) {n : Nat} (h : c.toNat = n) : Lib.byteCells (d ++ [c]) = Lib.byteCells d ++ [.int .u8 (n : Int)] := by
  simp [Lib.byteCells, h]
theorem byteCells_append (d e : List UInt8) : Lib.byteCells (d ++ e) = Lib.byteCells d ++ Lib.byteCells e := by
  simp [Lib.byteCells]

theorem pow10 {n : Nat} (h : n < 9223372036854775808) : n < 128 ^ 10 := Nat.lt_trans h (by decide)

set_option maxRecDepth 100000 in
theorem layInt_calls (base : Nat) (v : Value) (len : Nat) (xs : List Value) (n : Nat) (w : World) (hn : n < 9223372036854775808)
    (hown : w.ownsRow base 5 1 v len xs) (hlen : len ≤ 1000000000000) (hbase : base ≤ w.heap.size) :
    Calls Tryz.prog 31 #[v, .int .i64 n] w fun e w' => ∃ v', e = .returned v' ∧ w'.ownsRow base 5 1 v' (len + (enc n).length) (xs ++ Lib.byteCells (enc n)) ∧ Below base w w' ∧ Kp w w' := by
  obtain ⟨i0, hi, hz0, hz1, hz2⟩ := info_parts infoByte
  go_enter Tryz.func31, Tryz.ntmps31
  go_wp2
  go_loopw [0, 1] (fun o i wr => ∃ (k m : Nat) (d : List UInt8), i = .int .i64 m ∧ m ≤ n ∧ 1 ≤ k ∧ k + d.length = 10 ∧ m < 128 ^ k ∧ Hid (enc n = d ++ encF k m) ∧ wr.ownsRow base 5 1 o (len + d.length) (xs ++ Lib.byteCells d) ∧ Below base w wr ∧ Kp w wr) (fun _ i _ => (intOf i).toNat)
  case atStart => exact ⟨10, n, [], rfl, Nat.le_refl _, by decide, rfl, pow10 hn, rfl, by simpa [Lib.byteCells] using hown, Below.refl _ _, Kp.refl _⟩
  case round =>
    obtain ⟨k, m, d, rfl, hm, hk1, hkd, hmk, hR, ho, hb, hkp⟩ := hrel
    have hkk : ∃ k', k = k' + 1 := ⟨k - 1, by omega⟩
    obtain ⟨k, rfl⟩ := hkk
    by_cases h : m < 128
    · have hfin : Hid (enc n = d ++ [UInt8.ofNat m]) := by
        have e : encF (k + 1) m = [UInt8.ofNat m] := by simp [encF, h]
        rw [← e]; exact hR.out
      have hd : decide ((128 : Int) ≤ m) = false := by simp only [decide_eq_false_iff_not]; omega
      go_wp2_with (at_builtin; refine wpList_append_own _ rfl (.tmp 16) (.tmp 19) 85 rfl base 5 i0 (.int .u8 0) 1 1 Tryz.underlying85 hi hz0 hz1 hz2 rfl (by decide) _ _ _ rfl (ho.alloc _) ⟨wr.heap.size, 0, none⟩ 1 1 [.int .u8 m] rfl rfl ?c1 ?c2 ?c3 ?c4 ?c5 ?_)
      case c1 => exact cell_one_new _ _ _
      case c2 => intro u hu; simp at hu; subst hu; rfl
      case c3 => unfold maxLen; omega
      case c4 => omega
      case c5 => have := hb.size; simp; omega
      intro v' w1 hown' hgrow _
      go_wp2
      go_ret
      refine ⟨v', rfl, ?_, ?_, (hkp.trans (Kp.of_below ((Below.refl _ _).alloc (Nat.le_refl _) _))).trans (Kp.of_grown hgrow (ho.alloc _))⟩
      · rw [hfin.out]
        have e2 : (UInt8.ofNat m).toNat = m := by simp [UInt8.toNat_ofNat']; omega
        simpa [Lib.byteCells, e2, Nat.add_assoc] using hown'
      · have hz := hb.size
        exact (hb.alloc (by omega) _).grown hgrow (by simp; omega) (fun k hk => (ho.lt k hk).1)
    · have e8 : (((m % 128 : Nat) : Int)) < 256 := by omega
      have ha := and127i m (by omega)
      have ho8 : bits .or .u8 ((m : Int) % 128) 128 = 128 + (m : Int) % 128 := by have h8 := or128 (m % 128) (by omega); simpa using h8
      have hd : decide ((128 : Int) ≤ m) = true := by simp only [decide_eq_true_eq]; omega
      go_wp2_with (at_builtin; refine wpList_append_own _ rfl (.tmp 7) (.tmp 12) 85 rfl base 5 i0 (.int .u8 0) 1 1 Tryz.underlying85 hi hz0 hz1 hz2 rfl (by decide) _ _ _ rfl (ho.alloc _) ⟨wr.heap.size, 0, none⟩ 1 1 [.int .u8 (128 + (m : Int) % 128)] rfl rfl ?c1 ?c2 ?c3 ?c4 ?c5 ?_)
      case c1 => exact cell_one_new _ _ _
      case c2 => intro u hu; simp at hu; subst hu; rfl
      case c3 => unfold maxLen; omega
      case c4 => omega
      case c5 => have := hb.size; simp; omega
      intro v' w1 hown' hgrow _
      go_wp2
      have hk2 : 1 ≤ k := by
        rcases Nat.eq_zero_or_pos k with h0 | h0
        · subst h0; simp at hmk; omega
        · exact h0
      have e2 : (UInt8.ofNat (128 + m % 128)).toNat = 128 + m % 128 := by simp [UInt8.toNat_ofNat']; omega
      have hstep : encF (k + 1) m = UInt8.ofNat (128 + m % 128) :: encF k (m / 128) := by simp [encF, h]
      refine ⟨⟨k, m / 128, d ++ [UInt8.ofNat (128 + m % 128)], by simp, by omega, hk2, by simp; omega, ?_, ?_, ?_, ?_, (hkp.trans (Kp.of_below ((Below.refl _ _).alloc (Nat.le_refl _) _))).trans (Kp.of_grown hgrow (ho.alloc _))⟩, by simp [intOf]; omega⟩
      · rw [Nat.pow_succ] at hmk; omega
      · have hR' := hR.out
        rw [hstep] at hR'
        show _ = _
        rw [hR']; simp
      · rw [byteCells_snoc d _ e2, List.length_append]
        simpa [Nat.add_assoc] using hown'
      · have hz := hb.size
        exact (hb.alloc (by omega) _).grown hgrow (by simp; omega) (fun k hk => (ho.lt k hk).1)

theorem encF_le (k : Nat) : ∀ n, (encF k n).length ≤ k := by
  induction k with
  | zero => intro n; simp [encF]
  | succ k ih => intro n; simp only [encF]; split <;> simp; exact ih _
theorem enc_le (n : Nat) : (enc n).length ≤ 10 := encF_le 10 n

/-- A row of bytes as a string. -/
theorem own_convert {base n : Nat} {v : Value} {l : List UInt8} {w : World} (h : w.ownsRow base 5 1 v n (Lib.byteCells l)) :
    (convert 85 9 v).run Tryz.prog w = .ok (.string ⟨l.toArray⟩) w := by
  have hl : l.length = n := by have := h.1; simpa [Lib.byteCells] using this
  obtain ⟨_, h2⟩ := id h
  rcases h2 with ⟨rfl, rfl⟩ | ⟨g, cap, cur, rfl, h3⟩
  · have e : l = [] := List.eq_nil_of_length_eq_zero hl
    subst e
    rw [run_convert_bytes_string w 85 9 5 none 0 0 Tryz.underlying85 Tryz.underlying5 Tryz.underlying9]
    simp [Conv.bytesToString]
    rfl
  · subst hl
    refine run_convert_bytes_back w 85 9 5 ⟨g, 0, none⟩ cap l Tryz.underlying85 Tryz.underlying5 Tryz.underlying9 ?_
    intro j hj
    refine h.cells rfl j _ ?_
    simp [Lib.byteCells, hj]

end Go.Proofs.YtpekfpfhonechaaGreat

namespace Go.Proofs.YtpekfpfhonechaaGreat
open Go.RowKit
set_option linter.unusedVariables false
set_option linter.unusedSimpArgs false

theorem withinP_calls (n m : Int) (w : World) :
    Calls Tryz.prog 42 #[.int .i64 n, .int .i64 m] w fun e w' => e = .returned (.bool (decide (0 ≤ n ∧ n ≤ m))) ∧ w' = w := by
  by_cases h0 : 0 ≤ n
  · go_enter Tryz.func42, Tryz.ntmps42
    go_wp2
    go_ret
    exact ⟨by simp [h0], rfl⟩
  · have h1 : decide (0 ≤ n) = false := by simpa using h0
    go_enter Tryz.func42, Tryz.ntmps42
    go_wp2
    go_ret
    exact ⟨by simp, rfl⟩

theorem isNumber_calls (n : Int) (w : World) :
    Calls Tryz.prog 30 #[.int .i64 n] w fun e w' => e = .returned (.bool (decide (0 ≤ n ∧ n ≤ 9007199254740992))) ∧ w' = w := by
  go_enter Tryz.func30, Tryz.ntmps30
  go_wp2_with fail
  refine (withinP_calls n 9007199254740992 w).mono ?_
  rintro e w1 ⟨rfl, rfl⟩
  go_wp2
  go_ret
  exact ⟨by simp, rfl⟩

theorem putInt_ok (n : Nat) (w : World) (h : n ≤ 9007199254740992) :
    Calls Tryz.prog 26 #[.int .i64 n] w fun e w' => e = .returned (.tuple #[.string ⟨(enc n).toArray⟩, .int .i64 0]) ∧ Below w.heap.size w w' := by
  have hnot : ∀ (x : Bool) (w : World), (Op.unary .not (.bool x)).run Tryz.prog w = .ok (.bool (!x)) w := fun _ _ => rfl
  have hi := isNumber_calls n w
  have e : decide (0 ≤ (n : Int) ∧ (n : Int) ≤ 9007199254740992) = true := by simp only [decide_eq_true_eq]; omega
  rw [e] at hi
  have hl := layInt_calls w.heap.size (.slice none 0 0) 0 [] n w (by omega) (World.ownsRow_nil _ _ _ _) (by omega) (Nat.le_refl _)
  go_enter Tryz.func26, Tryz.ntmps26
  go_wp2_with fail
  refine hi.mono ?_
  rintro e w1 ⟨rfl, rfl⟩
  go_wp2_with fail
  refine hl.mono ?_
  rintro e w2 ⟨v, rfl, ho, hb, _⟩
  rw [List.nil_append] at ho
  have hcv := own_convert ho
  go_wp2
  go_ret2
  exact ⟨rfl, hb⟩

end Go.Proofs.YtpekfpfhonechaaGreat

namespace Go.Proofs.YtpekfpfhonechaaGreat
open Go.RowKit
set_option linter.unusedSimpArgs false
set_option linter.unusedVariables false

theorem reason_calls (e0 : Int) (w : World) :
    Calls Tryz.prog 50 #[.iface 132 (.agg #[.int .i64 e0])] w fun e w' => e = .returned (.int .i64 e0) ∧ Below w.heap.size w w' := by
  have hta : ∀ w, (Instr.typeAssert (.iface 132 (.agg #[.int .i64 e0])) 20 132 true).run Tryz.prog w = .ok (.tuple #[.agg #[.int .i64 e0], .bool true]) w := fun _ => by kernel_rfl
  go_enter Tryz.func50, Tryz.ntmps50
  go_wp2
  go_ret
  exact ⟨rfl, (Below.refl _ _).alloc (Nat.le_refl _) _⟩

theorem readerOf_ok (s : ByteArray) (m : Int) (w : World) (ha : (s.size : Int) ≤ m) :
    Calls Tryz.prog 51 #[.string s, .int .i64 m] w fun e w' => e = .returned (.pointer (some ⟨w.heap.size, 0, none⟩)) ∧ w' = w.alloc (.cells #[.string s, .int .i64 0] 136) := by
  have hd : decide (m < (s.size : Int)) = false := by simpa using ha
  go_enter Tryz.func51, Tryz.ntmps51
  go_wp2
  go_ret
  exact ⟨rfl, rfl⟩

theorem readerOf_bad (s : ByteArray) (m : Int) (w : World) (ha : m < (s.size : Int)) :
    Calls Tryz.prog 51 #[.string s, .int .i64 m] w fun e w' => e = .panicked (gu 4) ∧ w' = w := by
  go_enter Tryz.func51, Tryz.ntmps51
  go_wp2
  exact ⟨rfl, rfl, rfl, rfl⟩

theorem rdr_new (s : ByteArray) (a : Int) (w : World) (t : TypeId) (b : Nat) (hb : b = w.heap.size) : Rdr (w.alloc (.cells #[.string s, .int .i64 a] t)) b s a := by
  subst hb
  refine ⟨?_, ?_, ?_, ?_⟩
  · simp [go_sem]
  · simp [go_sem]
  · simp [go_sem]
  · simp

theorem end_calls (b : Nat) (s : ByteArray) (a : Nat) (w : World) (hr : Rdr w b s a) :
    Calls Tryz.prog 53 #[.pointer (some ⟨b, 0, none⟩)] w fun e w' => (if a < s.size then e = .panicked (gu 12) else e = .returned (.tuple #[])) ∧ Off b w w' ∧ Rdr w' b s a := by
  obtain ⟨h1, h2, h3, h4⟩ := id hr
  by_cases h : a < s.size
  · have hd : decide ((a : Int) < s.size) = true := by simpa using h
    go_enter Tryz.func53, Tryz.ntmps53
    go_wp2
    go_region
    go_wp2
    exact ⟨rfl, rfl, by rw [if_pos h]; rfl, (Off.refl _ _).drew, hr.drew⟩
  · have hd : decide ((a : Int) < s.size) = false := by simpa using h
    go_enter Tryz.func53, Tryz.ntmps53
    go_wp2
    go_region
    go_wp2
    go_end0
    exact ⟨rfl, (Off.refl _ _).drew, hr.drew⟩

theorem rdF_le (s : ByteArray) (a : Nat) : ∀ (k i n m nx : Nat), rdF s a k i n = .ok (m, nx) → a ≤ nx ∧ nx ≤ s.size ∧ m ≤ 9007199254740992 := by
  intro k
  induction k with
  | zero => intro i n m nx h; simp [rdF] at h
  | succ k ih =>
    intro i n m nx h
    simp only [rdF] at h
    split at h
    · split at h
      · exact ih _ _ _ _ h
      · split at h
        · cases h
        · simp only [Except.ok.injEq, Prod.mk.injEq] at h; omega
    · cases h

theorem rdInt_le {s : ByteArray} {a m nx : Nat} (h : rdInt s a = .ok (m, nx)) : a ≤ nx ∧ nx ≤ s.size ∧ m ≤ 9007199254740992 := rdF_le s a 8 0 0 m nx h

end Go.Proofs.YtpekfpfhonechaaGreat

namespace Go.Proofs.YtpekfpfhonechaaGreat
open Go.RowKit
set_option linter.unusedVariables false
set_option linter.unusedSimpArgs false

/-- As rdF, over a list: the number and how many bytes in all. -/
def rdP : Nat → Nat → Nat → List UInt8 → Except Int (Nat × Nat)
  | 0, _, _, _ => .error 11
  | k + 1, _, _, [] => .error 10
  | k + 1, i, n, c :: l =>
    if 128 ≤ c.toNat then rdP k (i + 1) (n + c.toNat % 128 * 128 ^ i) l
    else if (c.toNat = 0 ∧ 0 < i) ∨ 9007199254740992 < n + c.toNat % 128 * 128 ^ i then .error 11
    else .ok (n + c.toNat % 128 * 128 ^ i, i + 1)

/-- A reading at a place, out of one over a list. -/
def shiftR {α : Type} (a : Nat) : Except Int (α × Nat) → Except Int (α × Nat)
  | .ok (x, c) => .ok (x, a + c)
  | .error e => .error e

theorem drop_at (s : ByteArray) (j : Nat) (h : j < s.size) : s.data.toList.drop j = s[j] :: s.data.toList.drop (j + 1) := by
  have h' : j < s.data.toList.length := by rw [Array.length_toList]; exact h
  rw [List.drop_eq_getElem_cons h']; rfl

theorem rdF_list (s : ByteArray) (a : Nat) : ∀ (k i n : Nat), rdF s a k i n = shiftR a (rdP k i n (s.data.toList.drop (a + i))) := by
  intro k
  induction k with
  | zero => intro i n; rfl
  | succ k ih =>
    intro i n
    by_cases h : a + i < s.size
    · rw [drop_at s (a + i) h]
      simp only [rdF, h, dite_true, rdP]
      split
      · rw [ih]; rfl
      · split
        · rfl
        · simp [shiftR]; omega
    · have e : s.data.toList.drop (a + i) = [] := List.drop_of_length_le (by rw [Array.length_toList]; show s.size ≤ _; omega)
      rw [e]
      simp only [rdF, h, dite_false, rdP, shiftR]

theorem rdInt_list (s : ByteArray) (a : Nat) : rdInt s a = shiftR a (rdP 8 0 0 (s.data.toList.drop a)) := rdF_list s a 8 0 0

theorem byte_small (m : Nat) (h : m < 256) : (UInt8.ofNat m).toNat = m := by simp [UInt8.toNat_ofNat']; omega

/-- What was laid is read again, whatever stands behind. -/
theorem rdP_enc (post : List UInt8) : ∀ (k K i n m : Nat), k ≤ K → m < 128 ^ k → 1 ≤ k → (0 < i → 0 < m) → n + m * 128 ^ i ≤ 9007199254740992 →
    rdP K i n (encF k m ++ post) = .ok (n + m * 128 ^ i, i + (encF k m).length) := by
  intro k
  induction k with
  | zero => intro K i n m _ _ h; omega
  | succ k ih =>
    intro K i n m hK hm _ hi hn
    obtain ⟨K', rfl⟩ : ∃ K', K = K' + 1 := ⟨K - 1, by omega⟩
    by_cases h : m < 128
    · have e : encF (k + 1) m = [UInt8.ofNat m] := by simp [encF, h]
      rw [e]
      have e2 := byte_small m (by omega)
      have e3 : m % 128 = m := Nat.mod_eq_of_lt h
      simp only [List.cons_append, List.nil_append, rdP, e2, e3]
      rw [if_neg (by omega), if_neg (by omega)]
      simp
    · have e : encF (k + 1) m = UInt8.ofNat (128 + m % 128) :: encF k (m / 128) := by simp [encF, h]
      rw [e]
      have e2 := byte_small (128 + m % 128) (by omega)
      have e3 : (128 + m % 128) % 128 = m % 128 := by omega
      simp only [List.cons_append, rdP, e2, e3]
      rw [if_pos (by omega)]
      have hk : 1 ≤ k := by
        rcases Nat.eq_zero_or_pos k with h0 | h0
        · subst h0; simp at hm; omega
        · exact h0
      have hsplit : m % 128 * 128 ^ i + m / 128 * 128 ^ (i + 1) = m * 128 ^ i := by
        rw [Nat.pow_succ, Nat.mul_comm (128 ^ i) 128, ← Nat.mul_assoc, ← Nat.add_mul]
        congr 1; omega
      have hr := ih K' (i + 1) (n + m % 128 * 128 ^ i) (m / 128) (by omega) (by rw [Nat.pow_succ] at hm; omega) hk (fun _ => by omega) (by omega)
      rw [hr]
      simp only [List.length_cons, Except.ok.injEq, Prod.mk.injEq]
      omega

theorem encF_more : ∀ (k K m : Nat), 1 ≤ k → k ≤ K → m < 128 ^ k → encF K m = encF k m := by
  intro k
  induction k with
  | zero => intro K m h; omega
  | succ k ih =>
    intro K m _ hK hm
    obtain ⟨K', rfl⟩ : ∃ K', K = K' + 1 := ⟨K - 1, by omega⟩
    by_cases h : m < 128
    · simp [encF, h]
    · have hk : 1 ≤ k := by
        rcases Nat.eq_zero_or_pos k with h0 | h0
        · subst h0; simp at hm; omega
        · exact h0
      simp only [encF, h, if_false]
      rw [ih K' (m / 128) hk (by omega) (by rw [Nat.pow_succ] at hm; omega)]

theorem enc8 {m : Nat} (h : m ≤ 9007199254740992) : enc m = encF 8 m := by
  have e : (9007199254740992 : Nat) < 128 ^ 8 := by decide
  exact encF_more 8 10 m (by decide) (by decide) (by omega)

theorem rdP_enc0 (m : Nat) (post : List UInt8) (h : m ≤ 9007199254740992) : rdP 8 0 0 (enc m ++ post) = .ok (m, (enc m).length) := by
  have e : (9007199254740992 : Nat) < 128 ^ 8 := by decide
  rw [enc8 h]
  have hr := rdP_enc post 8 8 0 0 m (Nat.le_refl _) (by omega) (by decide) (fun h => by omega) (by simpa using h)
  simpa using hr

end Go.Proofs.YtpekfpfhonechaaGreat
