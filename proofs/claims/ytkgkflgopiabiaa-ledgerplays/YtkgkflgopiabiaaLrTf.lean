/- What the document makes of a call is what the program makes of it. -/
import Derived.Test.YtkgkflgopiabiaaLrTa
import Derived.Test.YtkgkflgopiabiaaLrTb
import Derived.Test.YtkgkflgopiabiaaLrTc
import Derived.Test.YtkgkflgopiabiaaLrTd
import Derived.Test.YtkgkflgopiabiaaLrTe
import Derived.Deep.RegionHeld
namespace Go.Proofs.Ytkgkflgopiabiaa
open Go.RowKit
set_option linter.unusedSimpArgs false
set_option linter.unusedVariables false
variable {g base : Nat} {m l : List Kt}
theorem told_ref (w : World) (v : Value) (a : Ac) (h : Rm w base v m) (S : Sim m l) (H : Inv g l) (hbase : base ≤ w.heap.size) :
    Calls Try.prog 10 #[.agg #[.int .i64 g, v], a.val] w (Told (act g l a) g base w) := by
  rcases kinds a with k | k | k | k | k | k | k | k | k | k | k
  · exact told_0 w v a h S H hbase k
  · exact told_1 w v a h S H hbase k
  · exact told_2 w v a h S H hbase k
  · exact told_3 w v a h S H hbase k
  · exact told_4 w v a h S H hbase k
  · exact told_5 w v a h S H hbase k
  · exact told_6 w v a h S H hbase k
  · exact told_7 w v a h S H hbase k
  · exact told_8 w v a h S H hbase k
  · exact told_9 w v a h S H hbase k
  · exact told_10 w v a h S H hbase k
end Go.Proofs.Ytkgkflgopiabiaa
