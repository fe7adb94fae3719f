/- Records as plain data. -/
import Derived.Test.YtlnlagmobgkblaaGreatTxB
namespace Go.Proofs.YtlnlagmobgkblaaGreat
open Go.RowKit
set_option linter.unusedVariables false
set_option linter.unusedSimpArgs false

structure Rc where
  key : ByteArray
  dat : ByteArray

def Rc.val (m : Rc) : Value := .agg #[.string m.key, .string m.dat]
def rcCells (l : List Rc) : List Value := l.flatMap fun m => [.string m.key, .string m.dat]
def rcB (m : Rc) : List UInt8 := txtB m.key ++ txtB m.dat
def rcsB (l : List Rc) : List UInt8 := enc l.length ++ l.flatMap rcB

/-- One text below another. -/
def lsB (a b : ByteArray) : Bool := Op.bytesLess a.toList b.toList
theorem bytesLess_flip : ∀ (x y : List UInt8), (Op.bytesLess x y || x == y) = !Op.bytesLess y x
  | [], [] => rfl
  | [], b :: y => by simp [Op.bytesLess]
  | a :: x, [] => by simp [Op.bytesLess]
  | a :: x, b :: y => by
    have ih := bytesLess_flip x y
    simp only [Op.bytesLess, List.cons_beq_cons]
    by_cases h1 : a < b
    · have h2 : ¬ b < a := by rw [UInt8.lt_iff_toNat_lt] at *; omega
      have h3 : (b == a) = false := by
        rw [beq_eq_false_iff_ne]; rintro rfl; exact absurd h1 h2
      simp [h1, h2, h3]
    · by_cases h2 : a = b
      · subst h2
        have h3 : ¬ a < a := by rw [UInt8.lt_iff_toNat_lt]; omega
        simp [h3, ih]
      · have h3 : b < a := by
          have h4 : a.toNat ≠ b.toNat := fun e => h2 (UInt8.toNat_inj.1 e)
          rw [UInt8.lt_iff_toNat_lt] at *; omega
        have h5 : (a == b) = false := by rw [beq_eq_false_iff_ne]; exact h2
        simp [h1, h3, h5]
theorem lsB_flip (a b : ByteArray) : (Op.bytesLess a.toList b.toList || a.toList == b.toList) = !lsB b a := bytesLess_flip _ _

def rcBad (m : Rc) : Bool := decide (m.key.size = 0) || decide (64 < m.key.size) || decide (4096 < m.dat.size)
/-- Why records may not be, the key ahead given. -/
def riseF (last : ByteArray) : List Rc → Int
  | [] => 0
  | m :: l => if rcBad m = true then 14 else if lsB last m.key = true then riseF m.key l else 15
def riseR (l : List Rc) : Int := if 4096 < l.length then 2 else riseF ⟨#[]⟩ l

theorem riseF_ok : ∀ (l : List Rc) (last : ByteArray), riseF last l = 0 → ∀ m ∈ l, m.key.size ≤ 64 ∧ m.dat.size ≤ 4096 := by
  intro l
  induction l with
  | nil => intro last h m hm; cases hm
  | cons x l ih =>
    intro last h m hm
    simp only [riseF] at h
    split at h
    · omega
    · rename_i hb
      split at h
      · rcases List.mem_cons.1 hm with rfl | hm
        · simp only [rcBad, Bool.or_eq_true, decide_eq_true_eq] at hb; omega
        · exact ih _ h m hm
      · omega
theorem rcB_len (m : Rc) (h : m.key.size ≤ 64 ∧ m.dat.size ≤ 4096) : (rcB m).length ≤ 4180 := by
  have h1 := txtB_len m.key
  have h2 := txtB_len m.dat
  unfold rcB
  rw [List.length_append]; omega
theorem flatMap_len {α : Type} (f : α → List UInt8) (n : Nat) : ∀ (l : List α), (∀ m ∈ l, (f m).length ≤ n) → (l.flatMap f).length ≤ n * l.length
  | [], _ => by simp
  | x :: l, h => by
    have h1 := flatMap_len f n l (fun m hm => h m (by simp [hm]))
    have h2 := h x (by simp)
    rw [List.flatMap_cons, List.length_append, List.length_cons, Nat.mul_add, Nat.mul_one]; omega
theorem take_flat {α : Type} (f : α → List UInt8) (l : List α) (k : Nat) (h : k < l.length) : (l.take (k + 1)).flatMap f = (l.take k).flatMap f ++ f l[k] := by
  rw [List.take_succ_eq_append_getElem h, List.flatMap_append]; simp
end Go.Proofs.YtlnlagmobgkblaaGreat
