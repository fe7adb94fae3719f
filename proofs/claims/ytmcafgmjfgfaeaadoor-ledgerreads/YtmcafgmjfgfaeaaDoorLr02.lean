/- What layer 1 reads and lays, as plain functions on bytes and numbers; no program is named here. -/
import Derived.WalkKit
import Derived.ProofKit
import Derived.OpenShut
import Derived.Defers
import Derived.Recover
import Derived.Test.YtmcafgmjfgfaeaaDoorLr01
import Derived.Test.YtmcafgmjfgfaeaaDoorRows
import Derived.Handy
import Derived.WalkLawsBesides
import Derived.Deep.QuietTactic
import Derived.BigQuiet
namespace Go.Proofs.YtmcafgmjfgfaeaaDoor
open Go.RowKit
set_option linter.unusedSimpArgs false
set_option linter.unusedVariables false

/-- A number read at a place, k rounds left, i rounds done, n so far: why not, or the number and the place behind it. -/
def rdF (s : ByteArray) (a : Nat) : Nat → Nat → Nat → Except Int (Nat × Nat)
  | 0, _, _ => .error 11
  | k + 1, i, n =>
    if h : a + i < s.size then
      if 128 ≤ s[a + i].toNat then rdF s a k (i + 1) (n + s[a + i].toNat % 128 * 128 ^ i)
      else if (s[a + i].toNat = 0 ∧ 0 < i) ∨ 9007199254740992 < n + s[a + i].toNat % 128 * 128 ^ i then .error 11
      else .ok (n + s[a + i].toNat % 128 * 128 ^ i, a + i + 1)
    else .error 10

def rdInt (s : ByteArray) (a : Nat) : Except Int (Nat × Nat) := rdF s a 8 0 0

/-- The reader's cells: the text, the place. -/
structure Rdr (w : World) (b : Nat) (s : ByteArray) (a : Int) : Prop where
  s : w.cell? ⟨b, 0, none⟩ = some (.string s)
  a : w.cell? ⟨b, 1, none⟩ = some (.int .i64 a)
  f : w.frozen? ⟨b, 1, none⟩ = false
  lt : b < w.heap.size

/-- A reader that a call of something else leaves alone. -/
theorem Rdr.below {w w' : World} {b : Nat} {s : ByteArray} {a : Int} (r : Rdr w b s a) (h : Below w.heap.size w w') : Rdr w' b s a :=
  ⟨by rw [h.cell (p := ⟨b, 0, none⟩) r.lt]; exact r.s, by rw [h.cell (p := ⟨b, 1, none⟩) r.lt]; exact r.a, by rw [h.frozen (p := ⟨b, 1, none⟩) r.lt]; exact r.f, Nat.lt_of_lt_of_le r.lt h.size⟩
theorem Rdr.drew {w : World} {b : Nat} {s : ByteArray} {a : Int} (r : Rdr w b s a) : Rdr w.drew b s a := r.below (Below.refl _ _).drew
theorem Rdr.alloc {w : World} {b : Nat} {s : ByteArray} {a : Int} (r : Rdr w b s a) (o : Obj) : Rdr (w.alloc o) b s a := r.below ((Below.refl _ _).alloc (Nat.le_refl _) o)
theorem Rdr.set {w : World} {b : Nat} {s : ByteArray} {a : Int} (r : Rdr w b s a) (x : Int) : Rdr (w.setCell ⟨b, 1, none⟩ (.int .i64 x)) b s x :=
  ⟨by rw [World.cell?_setCell_other _ _ _ _ (by simp)]; exact r.s, by rw [World.cell?_setCell_same _ _ _ r.a], by rw [World.frozen?_setCell]; exact r.f, by simpa [World.setCell] using r.lt⟩
theorem Rdr.setOther {w : World} {b : Nat} {s : ByteArray} {a : Int} (r : Rdr w b s a) {p : Addr} (hp : p.block ≠ b) (u : Value) : Rdr (w.setCell p u) b s a :=
  ⟨by rw [World.cell?_setCell_other _ _ _ _ (by intro e; subst e; exact hp rfl)]; exact r.s, by rw [World.cell?_setCell_other _ _ _ _ (by intro e; subst e; exact hp rfl)]; exact r.a, by rw [World.frozen?_setCell]; exact r.f, by simpa [World.setCell] using r.lt⟩
end Go.Proofs.YtmcafgmjfgfaeaaDoor

namespace Go.Proofs.YtmcafgmjfgfaeaaDoor
open Go.RowKit
set_option linter.unusedSimpArgs false
set_option linter.unusedVariables false

def gu (e : Int) : List PanicEntry := [{ v := .iface 124 (.agg #[.int .i64 e]), recovered := false }]

theorem next_ok (b : Nat) (s : ByteArray) (a : Nat) (w : World) (hr : Rdr w b s a) (hs : s.size ≤ maxLen) (ha : a < s.size) :
    Calls Tryd.prog 84 #[.pointer (some ⟨b, 0, none⟩)] w fun e w' => e = .returned (.int .u8 s[a].toNat) ∧ Off b w w' ∧ Rdr w' b s ((a + 1 : Nat) : Int) := by
  unfold maxLen at hs
  obtain ⟨h1, h2, h3, h4⟩ := id hr
  have hd : decide (s.size ≤ a) = false := by simpa using ha
  go_enter Tryd.func84, Tryd.ntmps84
  go_wp2
  go_region
  go_wp2
  go_region
  go_wp2
  go_ret
  exact ⟨rfl, ((Off.refl b w).setCell (p := ⟨b, 1, none⟩) rfl _).drew.drew, (hr.set _).drew.drew⟩

theorem next_short (b : Nat) (s : ByteArray) (a : Nat) (w : World) (hr : Rdr w b s a) (ha : ¬ a < s.size) :
    Calls Tryd.prog 84 #[.pointer (some ⟨b, 0, none⟩)] w fun e w' => e = .panicked (gu 10) ∧ Off b w w' := by
  obtain ⟨h1, h2, h3, h4⟩ := hr
  have hd : decide (s.size ≤ a) = true := by simpa using ha
  go_enter Tryd.func84, Tryd.ntmps84
  go_wp2
  go_region
  go_wp2
  exact ⟨rfl, rfl, rfl, Off.drew (Off.refl _ _)⟩
end Go.Proofs.YtmcafgmjfgfaeaaDoor

namespace Go.Proofs.YtmcafgmjfgfaeaaDoor
open Go.RowKit
set_option linter.unusedSimpArgs false
set_option linter.unusedVariables false

theorem pow128 (k : Nat) : (128 : Nat) ^ k = 2 ^ (7 * k) := by
  rw [Nat.pow_mul]

theorem wraps_i64 (n : Int) (h₀ : 0 ≤ n) (h₁ : n < 2 ^ 63) : IntKind.i64.wrap n = n := by rw [IntKind.wrap_i64]; omega

theorem and127 (c : Nat) (hc : c < 256) : bits .and .u8 (c : Int) 127 = ((c % 128 : Nat) : Int) := by
  have h := bits_mask .u8 8 (by decide) wraps_u8 7 (by decide) (c : Int) (by omega) (by omega)
  have e : (2 : Int) ^ 7 - 1 = 127 := by decide
  rw [e] at h
  rw [h]; simp

theorem and127i (n : Nat) (hn : n < 9223372036854775808) : bits .and .i64 (n : Int) 127 = ((n % 128 : Nat) : Int) := by
  have h := bits_mask .i64 63 (by decide) wraps_i64 7 (by decide) (n : Int) (by omega) (by omega)
  have e : (2 : Int) ^ 7 - 1 = 127 := by decide
  rw [e] at h
  rw [h]; simp

theorem or128 (c : Nat) (hc : c < 128) : bits .or .u8 (c : Int) 128 = ((128 + c : Nat) : Int) := by
  have h := u8_or_nat c 128 (by omega) (by omega)
  have e : c ||| 128 = 128 + c := by
    rw [Nat.or_comm]; exact nat_join 7 128 c (by decide) hc
  rw [e] at h
  exact h

theorem small128 (c k : Nat) (hk : k ≤ 7) (hc : c < 128) : c * 128 ^ k < 72057594037927936 := by
  have h1 : (128 : Nat) ^ k ≤ 128 ^ 7 := Nat.pow_le_pow_right (by decide) hk
  have h2 : c * 128 ^ k ≤ 127 * 128 ^ 7 := Nat.mul_le_mul (by omega) h1
  have e : (127 : Nat) * 128 ^ 7 < 72057594037927936 := by decide
  omega

theorem or7 (m c k : Nat) (hk : k ≤ 7) (hm : m < 128 ^ k) (hc : c < 256) :
    bits .or .i64 (m : Int) (wrap64 (wrap64 (bits .and .u8 (c : Int) 127) * 2 ^ (7 * k))) = ((m + c % 128 * 128 ^ k : Nat) : Int) := by
  have hs := small128 (c % 128) k hk (by omega)
  have hm7 : m < 72057594037927936 := by
    have h1 : (128 : Nat) ^ k ≤ 128 ^ 7 := Nat.pow_le_pow_right (by decide) hk
    have e : (128 : Nat) ^ 7 < 72057594037927936 := by decide
    omega
  rw [and127 c hc]
  have e1 : wrap64 ((c % 128 : Nat) : Int) = ((c % 128 : Nat) : Int) := by unfold wrap64; omega
  rw [e1]
  have e2 : ((c % 128 : Nat) : Int) * 2 ^ (7 * k) = ((c % 128 * 128 ^ k : Nat) : Int) := by
    rw [pow128]; simp
  rw [e2]
  have e3 : wrap64 ((c % 128 * 128 ^ k : Nat) : Int) = ((c % 128 * 128 ^ k : Nat) : Int) := by unfold wrap64; omega
  rw [e3, (bits_nat .i64 63 (by decide) wraps_i64 m _ (by omega) (by omega)).2, Nat.or_comm]
  have hmod : (c % 128 * 128 ^ k) % 2 ^ (7 * k) = 0 := by rw [pow128]; exact Nat.mul_mod_left _ _
  rw [nat_join (7 * k) _ m hmod (by rw [← pow128]; exact hm)]
  congr 1; omega

theorem lt128 (m c k : Nat) (hm : m < 128 ^ k) : m + c % 128 * 128 ^ k < 128 ^ (k + 1) := by
  have h : c % 128 ≤ 127 := by omega
  have h2 : c % 128 * 128 ^ k ≤ 127 * 128 ^ k := Nat.mul_le_mul_right _ h
  rw [Nat.pow_succ]; omega
end Go.Proofs.YtmcafgmjfgfaeaaDoor

namespace Go.Proofs.YtmcafgmjfgfaeaaDoor
open Go.RowKit
set_option linter.unusedSimpArgs false
set_option linter.unusedVariables false

/-- What reading gives: the value and the place behind it, or a panic of the reader's own. -/
def Reads {α : Type} (r : Except Int (α × Nat)) (val : α → Value) (b : Nat) (s : ByteArray) (w : World) (e : Ending) (w' : World) : Prop :=
  match r with
  | .ok (x, nx) => e = .returned (val x) ∧ Off b w w' ∧ Rdr w' b s nx
  | .error er => e = .panicked (gu er) ∧ Off b w w'

theorem rdF_step (s : ByteArray) (a k m : Nat) (hk : k ≤ 7) (hlt : a + k < s.size) :
    rdF s a (8 - k) k m = if 128 ≤ s[a + k].toNat then rdF s a (7 - k) (k + 1) (m + s[a + k].toNat % 128 * 128 ^ k)
      else if (s[a + k].toNat = 0 ∧ 0 < k) ∨ 9007199254740992 < m + s[a + k].toNat % 128 * 128 ^ k then .error 11
      else .ok (m + s[a + k].toNat % 128 * 128 ^ k, a + k + 1) := by
  have e : 8 - k = (7 - k) + 1 := by omega
  rw [e]
  simp only [rdF, hlt, dite_true]

set_option maxRecDepth 100000 in
theorem number_calls (b : Nat) (s : ByteArray) (a : Nat) (w : World) (hr : Rdr w b s a) (hs : s.size ≤ maxLen) (ha : a ≤ s.size) :
    Calls Tryd.prog 77 #[.pointer (some ⟨b, 0, none⟩)] w (Reads (rdInt s a) (fun n => .int .i64 n) b s w) := by
  have hs' := hs
  unfold maxLen at hs
  go_enter Tryd.func77, Tryd.ntmps77
  go_wp2
  go_loopw [3, 4] (fun n i w1 => ∃ k m : Nat, k ≤ 7 ∧ i = .int .i64 k ∧ n = .int .i64 m ∧ m < 128 ^ k ∧ Hid (rdF s a (8 - k) k m = rdInt s a) ∧ a + k ≤ s.size ∧ Off b w w1 ∧ Rdr w1 b s ((a + k : Nat) : Int)) (fun _ i _ => 8 - (intOf i).toNat)
  case atStart => exact ⟨0, 0, by omega, rfl, rfl, by simp, rfl, by omega, Off.refl _ _, hr⟩
  case round =>
    obtain ⟨k, m, hk, rfl, rfl, hm, hR, hak, ho, hrd⟩ := hrel
    by_cases hlt : a + k < s.size
    · have hc : s[a + k].toNat < 256 := s[a + k].toNat_lt
      have hstep : Hid (_ = _) := (rdF_step s a k m hk hlt).symm.trans hR.out
      obtain ⟨c, hcc⟩ : ∃ c, s[a + k].toNat = c := ⟨_, rfl⟩
      have hj := or7 m _ k hk hm hc
      have hm' := lt128 m (s[a + k].toNat) k hm
      have hnx := next_ok b s (a + k) wr hrd hs' hlt
      have hsm := small128 (s[a + k].toNat % 128) k hk (by omega)
      rw [hcc] at hc hstep hj hm' hnx hsm
      have HN := hnx
      clear hnx hR hcc
      generalize m + c % 128 * 128 ^ k = m' at *
      have hm7 : m' < 9223372036854775808 := by
        have h1 : (128 : Nat) ^ (k + 1) ≤ 128 ^ 8 := Nat.pow_le_pow_right (by decide) (by omega)
        have e : (128 : Nat) ^ 8 < 9223372036854775808 := by decide
        omega
      by_cases h128 : 128 ≤ c
      · rw [if_pos h128] at hstep
        by_cases hk7 : k < 7
        · go_wp2_with fail
          refine HN.mono ?_
          rintro e w1 ⟨rfl, ho1, hr1⟩
          go_wp2
          go_roundw
          case rel => exact ⟨k + 1, m', by omega, by go_num, rfl, hm', (by rw [show 8 - (k + 1) = 7 - k by omega]; exact hstep), by omega, ho.trans ho1, hr1⟩
          case measure => simp [intOf]; omega
        · have e7 : k = 7 := by omega
          subst e7
          have hfin : rdInt s a = .error 11 := hstep.out.symm
          go_wp2_with fail
          refine HN.mono ?_
          rintro e w1 ⟨rfl, ho1, hr1⟩
          go_wp2
          exact ⟨rfl, rfl, by unfold Reads; rw [hfin]; exact ⟨rfl, ho.trans ho1⟩⟩
      · rw [if_neg h128] at hstep
        have hcn : (c : Int) < 128 := by omega
        by_cases hbad : (c = 0 ∧ 0 < k) ∨ 9007199254740992 < m'
        · rw [if_pos hbad] at hstep
          by_cases h1 : c = 0
          · have h2 : 0 < (k : Int) := by
              rcases hbad with h | h
              · omega
              · by_cases hk0 : k = 0
                · subst hk0; have : m' < 128 := hm'; omega
                · omega
            subst h1
            clear hbad
            go_wp2_with fail
            refine HN.mono ?_
            rintro e w1 ⟨rfl, ho1, hr1⟩
            go_wp2
            all_goals exact ⟨rfl, rfl, by unfold Reads; rw [← hstep.out]; exact ⟨rfl, ho.trans ho1⟩⟩
          · have h2 : 9007199254740992 < (m' : Int) := by
              rcases hbad with h | h
              · exact absurd h.1 h1
              · omega
            have hc0' : ((c : Int) == 0) = false := by simpa using h1
            clear hbad h1
            go_wp2_with fail
            refine HN.mono ?_
            rintro e w1 ⟨rfl, ho1, hr1⟩
            go_wp2
            all_goals exact ⟨rfl, rfl, by unfold Reads; rw [← hstep.out]; exact ⟨rfl, ho.trans ho1⟩⟩
        · rw [if_neg hbad] at hstep
          have hm53 : ¬ 9007199254740992 < (m' : Int) := by omega
          have hz : c = 0 → k = 0 := fun h => by omega
          by_cases hc0 : c = 0
          · have hk0 := hz hc0
            subst hc0 hk0
            clear hbad hz
            have hj' : bits .or .i64 (m : Int) (wrap64 (wrap64 (bits .and .u8 0 127))) = (m' : Int) := by simpa using hj
            go_wp2_with fail
            refine HN.mono ?_
            rintro e w1 ⟨rfl, ho1, hr1⟩
            go_wp2
            go_ret
            unfold Reads; rw [← hstep.out]; exact ⟨rfl, ho.trans ho1, hr1⟩
          · clear hbad hz
            have hc0' : ((c : Int) == 0) = false := by simpa using hc0
            go_wp2_with fail
            refine HN.mono ?_
            rintro e w1 ⟨rfl, ho1, hr1⟩
            go_wp2
            go_ret
            unfold Reads; rw [← hstep.out]; exact ⟨rfl, ho.trans ho1, hr1⟩
    · have hfin : rdInt s a = .error 10 := by
        rw [← hR.out]
        have e : 8 - k = (7 - k) + 1 := by omega
        rw [e]; simp [rdF, hlt]
      have HF : Hid (rdInt s a = .error 10) := hfin
      clear hfin hR
      go_wp2_with fail
      refine (next_short b s (a + k) _ hrd hlt).mono ?_
      rintro e w1 ⟨rfl, ho1⟩
      exact ⟨rfl, by unfold Reads; rw [HF.out]; exact ⟨rfl, ho.trans ho1⟩⟩
end Go.Proofs.YtmcafgmjfgfaeaaDoor
