/- (As QtS; kept for its name.) -/
import Derived.Test.YtbfipafhmbgnnaaQtS
import Derived.Test.YtbfipafhmbgnnaaRdB
