/- The document's ledger: a copy, and an empty one. -/
import Derived.Test.YtmcafgmjfgfaeaaDoorLr33
import Derived.Test.YtmcafgmjfgfaeaaDoorLr17
namespace Go.Proofs.YtmcafgmjfgfaeaaDoor
open Go.RowKit
set_option linter.unusedSimpArgs false
set_option linter.unusedVariables false
variable {g base : Nat} {m l : List Kt}

theorem infoRa : (Tryd.prog.info? 50).map (fun i => (i.zero, i.size, i.bytes)) = some (some (.agg Kt.zero.cells.toArray), 12, 104) := by kernel_rfl
def rlA (g : Int) (v : Value) : Array Value := #[.int .i64 g, v]
theorem rlA_info (g : Int) (v : Value) : (Tryd.prog.info? 29).map (·.size) = some (rlA g v).size := by kernel_rfl
theorem rlA_same (g g' : Int) (v v' : Value) : (rlA g v).size = (rlA g' v').size := rfl
theorem rlA_one (g : Int) (p : Option Addr) (n c : Nat) : (rlA g (.slice p n c)).all (·.oneCell') = true := by kernel_rfl
theorem kt_one (k : Kt) : ∀ u ∈ k.cells, u.oneCell' = true := by
  intro u hu
  simp only [Kt.cells, List.mem_cons, List.not_mem_nil, or_false] at hu
  rcases hu with rfl | rfl | rfl | rfl | rfl | rfl | rfl | rfl | rfl | rfl | rfl | rfl <;> rfl
theorem own_slice {w : World} {b : Nat} {t : TypeId} {z : Nat} {v : Value} {n : Nat} {xs : List Value} (h : w.ownsRow b t z v n xs) : ∃ p c, v = .slice p n c := by
  rcases h.2 with ⟨rfl, h0⟩ | ⟨q, cap, cur, rfl, _⟩
  · exact ⟨none, 0, by rw [h0]⟩
  · exact ⟨_, _, rfl⟩

end Go.Proofs.YtmcafgmjfgfaeaaDoor
