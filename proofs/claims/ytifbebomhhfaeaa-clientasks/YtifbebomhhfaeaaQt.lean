/- (As QtS; kept for its name.) -/
import Derived.Test.YtifbebomhhfaeaaQtS
import Derived.Test.YtifbebomhhfaeaaRdB
