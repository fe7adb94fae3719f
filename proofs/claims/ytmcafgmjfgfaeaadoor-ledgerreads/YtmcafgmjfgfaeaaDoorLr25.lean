/- A client's own value tells what is kept of it: pure. -/
import Derived.Test.YtmcafgmjfgfaeaaDoorLr24
namespace Go.Proofs.YtmcafgmjfgfaeaaDoor
open Go.RowKit
set_option linter.unusedSimpArgs false
set_option linter.unusedVariables false

/-- The numbers of an account, in the order in which they are laid. -/
def nums (k : Kt) (g : Nat) : List Int := k.n 10 :: k.n 0 :: k.n 1 :: ((List.range g).map (fun i => k.n (2 + i)) ++ (List.range g).map (fun i => k.n (6 + i)))
theorem valB_nums (k : Kt) (g : Nat) : valB k g = encs (nums k g) ++ (enc k.reply.size ++ k.reply.data.toList) := by
  unfold valB nums encs
  simp
end Go.Proofs.YtmcafgmjfgfaeaaDoor
