/- The document's laying of numbers and texts, over LayL. (The same as Ref1's beginning: never both in one seat.) -/
import Derived.Test.YtmcafgmjfgfaeaaDoorLr06
namespace Go.Proofs.YtmcafgmjfgfaeaaDoor
open Go.RowKit
set_option linter.unusedVariables false
set_option linter.unusedSimpArgs false

end Go.Proofs.YtmcafgmjfgfaeaaDoor
