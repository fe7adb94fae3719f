/- Texts and acts that come in as arguments. -/
import Derived.Test.YtipjlonnllcfbaaVlN
import Derived.Test.YtipjlonnllcfbaaOpS
import Derived.Lib.ConvBytes
namespace Go.Proofs.Ytipjlonnllcfbaa
open Go.ChangeShapes Go.WideShapes Go.ChangeAt Go.RowKit Go.Deep
set_option linter.unusedSimpArgs false
set_option linter.unusedVariables false

section
variable {H : Type} {enc : TypeId × Value → H} {w : World} {base : Nat} {spare : Nat → Bool} {held : Bool}
theorem open_txs {v : Value} {d : DataW H} {p : List MemPlace} (hv : v.cells = #[v]) (h : DataW.Trod enc Try.prog w base spare held 22 v d p) (hsz : (d.weights Try.prog 22).all (· ≤ reachBytes) = true) (hlt : ∀ x ∈ p, x.block < w.heap.size) :
    ∃ l : List ByteArray, Elems 1 (fun s : ByteArray => [.string s]) (fun s => s.size ≤ 140737488351232) w v l ∧ l.length * 16 ≤ 140737488351232 := by
  haveI : Nonempty ByteArray := ⟨.empty⟩
  refine open_elems (fun s : ByteArray => [.string s]) (fun s => s.size ≤ 140737488351232) Try.underlying22 cells_Str (fun _ => rfl) (by decide) bytes_Str ?_ hv h hsz hlt
  intro fuel cs x hx hw
  obtain ⟨s, e, hd, _⟩ := DataW.trod_string Try.underlying9 hx
  refine ⟨s, e, ?_⟩
  rw [hd] at hw
  have := List.all_eq_true.1 hw s.data.toList.length (by simp [DataW.weights])
  have h2 := of_decide_eq_true this
  rw [← Lib.size_eq] at h2
  exact Nat.le_trans h2 (by unfold reachBytes; decide)
end
end Go.Proofs.Ytipjlonnllcfbaa
