/- The document: what is held is free, and a stamp. -/
import Derived.Test.YtmcafgmjfgfaeaaDoorLr36
namespace Go.Proofs.YtmcafgmjfgfaeaaDoor
open Go.RowKit
set_option linter.unusedSimpArgs false
set_option linter.unusedVariables false
variable {g base : Nat} {m l : List Kt}

end Go.Proofs.YtmcafgmjfgfaeaaDoor
