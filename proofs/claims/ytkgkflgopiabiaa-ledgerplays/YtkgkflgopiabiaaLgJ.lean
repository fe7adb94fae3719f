/- How many clients there are stays. No program is named here. -/
import Derived.Test.YtkgkflgopiabiaaLgI
namespace Go.Proofs.Ytkgkflgopiabiaa
open Go.RowKit
set_option linter.unusedSimpArgs false
set_option linter.unusedVariables false
theorem gate_len {e : Int} {l : List Kt} {r : Int × List Kt} (h : r.2.length = l.length) : (gate e l r).2.length = l.length := by
  unfold gate; split
  · exact h
  · rfl
theorem act_len (g : Nat) (l : List Kt) (a : Ac) : (act g l a).2.length = l.length := by
  unfold act
  split
  all_goals first | (refine gate_len ?_) | skip
  all_goals first | unfold inR | unfold outR | unfold keepR | unfold looseR | unfold overR | unfold markR
  all_goals (repeat' split)
  all_goals first | rfl | exact upd_len _ _ _ _ | exact over3_len | exact markL_len _ _ _ _
theorem foldl_len (g : Nat) (ls : List Ac) (l : List Kt) : (ls.foldl (fun l a => (act g l a).2) l).length = l.length := by
  induction ls generalizing l with
  | nil => rfl
  | cons a ls ih => rw [List.foldl_cons, ih, act_len]
end Go.Proofs.Ytkgkflgopiabiaa
