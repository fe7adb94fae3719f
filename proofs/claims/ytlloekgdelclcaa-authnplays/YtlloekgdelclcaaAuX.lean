/- What the laws of layer 3 lean on. -/
import Derived.Test.YtlloekgdelclcaaAuW
import Derived.Test.YtlloekgdelclcaaAuO
