/- around and done: which call is meant, and the call. -/
import Derived.Test.YtmcafgmjfgfaeaaDoorLr13
import Derived.Test.YtmcafgmjfgfaeaaDoorLr14
import Derived.Test.YtmcafgmjfgfaeaaDoorLr15
import Derived.Test.YtmcafgmjfgfaeaaDoorLr16
import Derived.Test.YtmcafgmjfgfaeaaDoorLr17
namespace Go.Proofs.YtmcafgmjfgfaeaaDoor
open Go.RowKit
set_option linter.unusedSimpArgs false
set_option linter.unusedVariables false
variable {p b g : Nat} {l : List Kt}

/-- A call as a value. -/
def Ac.val (a : Ac) : Value := .agg #[.int .i64 a.kind, .int .i64 a.who, .int .i64 a.dst, .int .i64 a.good, .int .i64 a.n, .string a.text]

end Go.Proofs.YtmcafgmjfgfaeaaDoor
