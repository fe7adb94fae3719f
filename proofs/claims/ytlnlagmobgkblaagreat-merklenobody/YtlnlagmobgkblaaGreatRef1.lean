/- The document's answer for numbers and texts. -/
import Derived.Test.YtlnlagmobgkblaaGreatLay
namespace Go.Proofs.YtlnlagmobgkblaaGreat
open Go.RowKit
set_option linter.unusedVariables false
set_option linter.unusedSimpArgs false

theorem rdF_err (s : ByteArray) (a : Nat) : ∀ (k i n : Nat) (er : Int), rdF s a k i n = .error er → er ≠ 0 := by
  intro k
  induction k with
  | zero => intro i n er h; simp [rdF] at h; omega
  | succ k ih =>
    intro i n er h
    simp only [rdF] at h
    split at h
    · split at h
      · exact ih _ _ _ h
      · split at h
        · simp at h; omega
        · cases h
    · simp at h; omega
theorem rdInt_err {s : ByteArray} {a : Nat} {er : Int} (h : rdInt s a = .error er) : er ≠ 0 := rdF_err s a 8 0 0 er h

theorem cat_bytes (a : List UInt8) (t : ByteArray) : (⟨a.toArray⟩ : ByteArray) ++ t = ⟨(a ++ t.data.toList).toArray⟩ := by
  apply ByteArray.ext
  simp [ByteArray.data_append]

end Go.Proofs.YtlnlagmobgkblaaGreat
