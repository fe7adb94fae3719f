/- What layer 1 reads and lays, as plain functions on bytes and numbers; no program is named here. -/
import Derived.WalkKit
import Derived.ProofKit
import Derived.OpenShut
import Derived.Defers
import Derived.Recover
import Derived.Test.YtlhfdgeknpmdfaaMem
namespace Go.Proofs.Ytlhfdgeknpmdfaa
open Go.RowKit
set_option linter.unusedSimpArgs false
set_option linter.unusedVariables false

/-- A number read at a place, k rounds left, i rounds done, n so far: why not, or the number and the place behind it. -/
def rdF (s : ByteArray) (a : Nat) : Nat → Nat → Nat → Except Int (Nat × Nat)
  | 0, _, _ => .error 11
  | k + 1, i, n =>
    if h : a + i < s.size then
      if 128 ≤ s[a + i].toNat then rdF s a k (i + 1) (n + s[a + i].toNat % 128 * 128 ^ i)
      else if (s[a + i].toNat = 0 ∧ 0 < i) ∨ 9007199254740992 < n + s[a + i].toNat % 128 * 128 ^ i then .error 11
      else .ok (n + s[a + i].toNat % 128 * 128 ^ i, a + i + 1)
    else .error 10

def rdInt (s : ByteArray) (a : Nat) : Except Int (Nat × Nat) := rdF s a 8 0 0

/-- The reader's cells: the text, the place. -/
structure Rdr (w : World) (b : Nat) (s : ByteArray) (a : Int) : Prop where
  s : w.cell? ⟨b, 0, none⟩ = some (.string s)
  a : w.cell? ⟨b, 1, none⟩ = some (.int .i64 a)
  f : w.frozen? ⟨b, 1, none⟩ = false
  lt : b < w.heap.size

/-- A reader that a call of something else leaves alone. -/
theorem Rdr.below {w w' : World} {b : Nat} {s : ByteArray} {a : Int} (r : Rdr w b s a) (h : Below w.heap.size w w') : Rdr w' b s a :=
  ⟨by rw [h.cell (p := ⟨b, 0, none⟩) r.lt]; exact r.s, by rw [h.cell (p := ⟨b, 1, none⟩) r.lt]; exact r.a, by rw [h.frozen (p := ⟨b, 1, none⟩) r.lt]; exact r.f, Nat.lt_of_lt_of_le r.lt h.size⟩
theorem Rdr.drew {w : World} {b : Nat} {s : ByteArray} {a : Int} (r : Rdr w b s a) : Rdr w.drew b s a := r.below (Below.refl _ _).drew
theorem Rdr.alloc {w : World} {b : Nat} {s : ByteArray} {a : Int} (r : Rdr w b s a) (o : Obj) : Rdr (w.alloc o) b s a := r.below ((Below.refl _ _).alloc (Nat.le_refl _) o)
theorem Rdr.set {w : World} {b : Nat} {s : ByteArray} {a : Int} (r : Rdr w b s a) (x : Int) : Rdr (w.setCell ⟨b, 1, none⟩ (.int .i64 x)) b s x :=
  ⟨by rw [World.cell?_setCell_other _ _ _ _ (by simp)]; exact r.s, by rw [World.cell?_setCell_same _ _ _ r.a], by rw [World.frozen?_setCell]; exact r.f, by simpa [World.setCell] using r.lt⟩
theorem Rdr.setOther {w : World} {b : Nat} {s : ByteArray} {a : Int} (r : Rdr w b s a) {p : Addr} (hp : p.block ≠ b) (u : Value) : Rdr (w.setCell p u) b s a :=
  ⟨by rw [World.cell?_setCell_other _ _ _ _ (by intro e; subst e; exact hp rfl)]; exact r.s, by rw [World.cell?_setCell_other _ _ _ _ (by intro e; subst e; exact hp rfl)]; exact r.a, by rw [World.frozen?_setCell]; exact r.f, by simpa [World.setCell] using r.lt⟩
end Go.Proofs.Ytlhfdgeknpmdfaa
