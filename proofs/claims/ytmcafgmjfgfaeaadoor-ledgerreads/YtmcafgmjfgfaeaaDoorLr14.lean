/- Fetch, Lock, Unlock: free and locked goods of one client. -/
import Derived.Test.YtmcafgmjfgfaeaaDoorLr11
import Derived.Test.YtmcafgmjfgfaeaaDoorLr12
namespace Go.Proofs.YtmcafgmjfgfaeaaDoor
open Go.RowKit
set_option linter.unusedSimpArgs false
set_option linter.unusedVariables false
variable {p b g : Nat} {l : List Kt}

end Go.Proofs.YtmcafgmjfgfaeaaDoor
