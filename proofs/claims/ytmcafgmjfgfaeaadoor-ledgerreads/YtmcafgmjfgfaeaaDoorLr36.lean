/- The document: what is free is held, what is held goes over, a stamp. -/
import Derived.Test.YtmcafgmjfgfaeaaDoorLr35
namespace Go.Proofs.YtmcafgmjfgfaeaaDoor
open Go.RowKit
set_option linter.unusedSimpArgs false
set_option linter.unusedVariables false
variable {g base : Nat} {m l : List Kt}

end Go.Proofs.YtmcafgmjfgfaeaaDoor
