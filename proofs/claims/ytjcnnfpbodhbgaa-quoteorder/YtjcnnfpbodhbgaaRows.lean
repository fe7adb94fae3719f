/-
  No cell of these rows narrows 'for every input' (looked for: loops, veiled, ifaces, maps, wideKeys, modest, calm, conditions, laid).
  DERIVED. THE GIVEN ROWS OF THIS SEAT. 5 by the template 'for every input the law returns true; each argument reads behind the call as it read before'; 0 by the template 'total and deterministic' (their statements: YtjcnnfpbodhbgaaTotals.lean).
  GIVEN WITH THE SEED: the statements are not yours to turn. If you find one false, say at which input.
  Laid BY PROGRAM, IN A SANDBOX (cutbox-rows.mjs): the forced cells as the released guide's own fill.sh prints them over the translation fd9481d6526d7158… (all of the seat's roots in one cut). By AI agents, Wed Nov 11 2026. No macro, syntax, notation, axiom, sorry.
-/
import Derived.Test.YtjcnnfpbodhbgaaChecked
import GoSem.Claim
import GoSem.ClaimJoined
import GoSem.ClaimMapViews
import Derived.JoinedTies
import Derived.KernelRfl
namespace Go.Proofs.Ytjcnnfpbodhbgaa
/- THE CELL 'sum', in the pinned program and in every row, IS THE sha256 OF THE DUMP (.gsa) THAT YtjcnnfpbodhbgaaProg.lean LOADS. Nothing in Lean hashes anything: it is a label: what it is worth is what the hold of that sum in a sandbox is worth. -/
noncomputable def Try.pinned : Pinned := { name := "ytjcnnfpbodhbgaa", sum := "fd9481d6526d715827c3f2f2461b1d90d6e9d74875320f80db68add70b74ed19", checked := Try.checked }
namespace Rows
def none {H : Type} : Left H := { results := [], args := [] }

/-- 'gavellaw05.QuoteMids': WHATEVER THE INPUT: true; the input reads as it did. -/
def quoteMidsSpec : ChangeSpec := { name := "quoteMids", fn := fun _ => fun
  | [d1, d2] => { results := [.lit (.bool true)], args := [d1, d2] }
  | _ => none }
def quoteMidsRow : OpenClaim := { program := "ytjcnnfpbodhbgaa", sum := "fd9481d6526d715827c3f2f2461b1d90d6e9d74875320f80db68add70b74ed19", func := "gavel/gavellaw05.QuoteMids", spec := "quoteMids", inPlace := ["math.Float64frombits", "math.Float64bits"], apart := false }
def QuoteMidsSaid : Prop := quoteMidsRow.holds Try.pinned (OpenSpec.ofChange quoteMidsSpec)

/-- ITS FALSE NEIGHBOUR: 'it returns false'. Refute it at one input. -/
def quoteMidsWrong : ChangeSpec := { name := "quoteMids", fn := fun _ => fun
  | [d1, d2] => { results := [.lit (.bool false)], args := [d1, d2] }
  | _ => none }
def QuoteMidsWrongFalsely : Prop := quoteMidsRow.holds Try.pinned (OpenSpec.ofChange quoteMidsWrong)

/-- 'gavellaw05.QuoteBetween': WHATEVER THE INPUT: true; the input reads as it did. -/
def quoteBetweenSpec : ChangeSpec := { name := "quoteBetween", fn := fun _ => fun
  | [d1, d2] => { results := [.lit (.bool true)], args := [d1, d2] }
  | _ => none }
def quoteBetweenRow : OpenClaim := { program := "ytjcnnfpbodhbgaa", sum := "fd9481d6526d715827c3f2f2461b1d90d6e9d74875320f80db68add70b74ed19", func := "gavel/gavellaw05.QuoteBetween", spec := "quoteBetween", inPlace := ["math.Float64frombits", "math.Float64bits"], apart := false }
def QuoteBetweenSaid : Prop := quoteBetweenRow.holds Try.pinned (OpenSpec.ofChange quoteBetweenSpec)

/-- ITS FALSE NEIGHBOUR: 'it returns false'. Refute it at one input. -/
def quoteBetweenWrong : ChangeSpec := { name := "quoteBetween", fn := fun _ => fun
  | [d1, d2] => { results := [.lit (.bool false)], args := [d1, d2] }
  | _ => none }
def QuoteBetweenWrongFalsely : Prop := quoteBetweenRow.holds Try.pinned (OpenSpec.ofChange quoteBetweenWrong)

/-- 'gavellaw05.QuoteOrder': WHATEVER THE INPUT: true; the input reads as it did. -/
def quoteOrderSpec : ChangeSpec := { name := "quoteOrder", fn := fun _ => fun
  | [d1, d2, d3] => { results := [.lit (.bool true)], args := [d1, d2, d3] }
  | _ => none }
def quoteOrderRow : OpenClaim := { program := "ytjcnnfpbodhbgaa", sum := "fd9481d6526d715827c3f2f2461b1d90d6e9d74875320f80db68add70b74ed19", func := "gavel/gavellaw05.QuoteOrder", spec := "quoteOrder", inPlace := ["math.Float64bits", "math.Float64frombits"], apart := false }
def QuoteOrderSaid : Prop := quoteOrderRow.holds Try.pinned (OpenSpec.ofChange quoteOrderSpec)

/-- ITS FALSE NEIGHBOUR: 'it returns false'. Refute it at one input. -/
def quoteOrderWrong : ChangeSpec := { name := "quoteOrder", fn := fun _ => fun
  | [d1, d2, d3] => { results := [.lit (.bool false)], args := [d1, d2, d3] }
  | _ => none }
def QuoteOrderWrongFalsely : Prop := quoteOrderRow.holds Try.pinned (OpenSpec.ofChange quoteOrderWrong)

/-- 'gavellaw05.QuoteClamps': WHATEVER THE INPUT: true; the input reads as it did. -/
def quoteClampsSpec : ChangeSpec := { name := "quoteClamps", fn := fun _ => fun
  | [d1, d2, d3] => { results := [.lit (.bool true)], args := [d1, d2, d3] }
  | _ => none }
def quoteClampsRow : OpenClaim := { program := "ytjcnnfpbodhbgaa", sum := "fd9481d6526d715827c3f2f2461b1d90d6e9d74875320f80db68add70b74ed19", func := "gavel/gavellaw05.QuoteClamps", spec := "quoteClamps", inPlace := ["math.Float64bits", "math.Float64frombits"], apart := false }
def QuoteClampsSaid : Prop := quoteClampsRow.holds Try.pinned (OpenSpec.ofChange quoteClampsSpec)

/-- ITS FALSE NEIGHBOUR: 'it returns false'. Refute it at one input. -/
def quoteClampsWrong : ChangeSpec := { name := "quoteClamps", fn := fun _ => fun
  | [d1, d2, d3] => { results := [.lit (.bool false)], args := [d1, d2, d3] }
  | _ => none }
def QuoteClampsWrongFalsely : Prop := quoteClampsRow.holds Try.pinned (OpenSpec.ofChange quoteClampsWrong)

/-- 'gavellaw05.QuoteBytes': WHATEVER THE INPUT: true; the input reads as it did. -/
def quoteBytesSpec : ChangeSpec := { name := "quoteBytes", fn := fun _ => fun
  | [d1, d2] => { results := [.lit (.bool true)], args := [d1, d2] }
  | _ => none }
def quoteBytesRow : OpenClaim := { program := "ytjcnnfpbodhbgaa", sum := "fd9481d6526d715827c3f2f2461b1d90d6e9d74875320f80db68add70b74ed19", func := "gavel/gavellaw05.QuoteBytes", spec := "quoteBytes", inPlace := ["math.Float64frombits", "math.Float64bits"], apart := false }
def QuoteBytesSaid : Prop := quoteBytesRow.holds Try.pinned (OpenSpec.ofChange quoteBytesSpec)

/-- ITS FALSE NEIGHBOUR: 'it returns false'. Refute it at one input. -/
def quoteBytesWrong : ChangeSpec := { name := "quoteBytes", fn := fun _ => fun
  | [d1, d2] => { results := [.lit (.bool false)], args := [d1, d2] }
  | _ => none }
def QuoteBytesWrongFalsely : Prop := quoteBytesRow.holds Try.pinned (OpenSpec.ofChange quoteBytesWrong)

/- THE SECOND FORM. 'bulk': how many values and letters a reading holds, each counted each time it is reached (what is shared counts as often as it is met; a slice's spare places count too). A statement '..UptoSaid' is the law's where the arguments, and the package variables that the reading takes, are together of bulk at most 1048576: NARROWER than '..Said'. Prove '..Said' where nothing that the law and all that it calls make is longer than what came in: it says more and counts as full. Else prove '..UptoSaid'. A law counts once. -/
mutual
def uptoBulk {H : Type} : DataW H → Nat
  | .lit (.string bytes) => bytes.length + 1
  | .lit _ => 1
  | .nil => 1
  | .ptr d => uptoBulk d + 1
  | .slice elems spare => uptoBulkAll elems + uptoBulkAll spare + 1
  | .agg parts => uptoBulkAll parts + 1
  | .iface _ d => uptoBulk d + 1
  | .map entries => uptoBulkEntries entries + 1
  | .held _ => 1
def uptoBulkAll {H : Type} : List (DataW H) → Nat
  | [] => 0
  | d :: r => uptoBulk d + uptoBulkAll r
def uptoBulkEntries {H : Type} : List (Lit × DataW H) → Nat
  | [] => 0
  | x :: r => uptoBulkEntry x + uptoBulkEntries r
def uptoBulkEntry {H : Type} : Lit × DataW H → Nat
  | (.string bytes, d) => bytes.length + uptoBulk d + 1
  | (_, d) => uptoBulk d + 1
 end
def uptoSmall : (H : Type) → List (DataW H) → Bool := fun _ ds => decide (uptoBulkAll ds ≤ 1048576)
def OpenSpec.upto (s : _root_.Go.ChangeSpec) : _root_.Go.OpenSpec := { _root_.Go.OpenSpec.ofChange s with cond := some uptoSmall }

/-- 'gavellaw05.QuoteMids', WHERE WHAT IT READS IS OF BULK AT MOST 1048576: true; the input reads as it did. -/
def quoteMidsUptoRow : OpenClaim := { program := "ytjcnnfpbodhbgaa", sum := "fd9481d6526d715827c3f2f2461b1d90d6e9d74875320f80db68add70b74ed19", func := "gavel/gavellaw05.QuoteMids", spec := "quoteMids", inPlace := ["math.Float64frombits", "math.Float64bits"], apart := false, narrowed := true }
def QuoteMidsUptoSaid : Prop := quoteMidsUptoRow.holds Try.pinned (OpenSpec.upto quoteMidsSpec)

/-- 'gavellaw05.QuoteBetween', WHERE WHAT IT READS IS OF BULK AT MOST 1048576: true; the input reads as it did. -/
def quoteBetweenUptoRow : OpenClaim := { program := "ytjcnnfpbodhbgaa", sum := "fd9481d6526d715827c3f2f2461b1d90d6e9d74875320f80db68add70b74ed19", func := "gavel/gavellaw05.QuoteBetween", spec := "quoteBetween", inPlace := ["math.Float64frombits", "math.Float64bits"], apart := false, narrowed := true }
def QuoteBetweenUptoSaid : Prop := quoteBetweenUptoRow.holds Try.pinned (OpenSpec.upto quoteBetweenSpec)

/-- 'gavellaw05.QuoteOrder', WHERE WHAT IT READS IS OF BULK AT MOST 1048576: true; the input reads as it did. -/
def quoteOrderUptoRow : OpenClaim := { program := "ytjcnnfpbodhbgaa", sum := "fd9481d6526d715827c3f2f2461b1d90d6e9d74875320f80db68add70b74ed19", func := "gavel/gavellaw05.QuoteOrder", spec := "quoteOrder", inPlace := ["math.Float64bits", "math.Float64frombits"], apart := false, narrowed := true }
def QuoteOrderUptoSaid : Prop := quoteOrderUptoRow.holds Try.pinned (OpenSpec.upto quoteOrderSpec)

/-- 'gavellaw05.QuoteClamps', WHERE WHAT IT READS IS OF BULK AT MOST 1048576: true; the input reads as it did. -/
def quoteClampsUptoRow : OpenClaim := { program := "ytjcnnfpbodhbgaa", sum := "fd9481d6526d715827c3f2f2461b1d90d6e9d74875320f80db68add70b74ed19", func := "gavel/gavellaw05.QuoteClamps", spec := "quoteClamps", inPlace := ["math.Float64bits", "math.Float64frombits"], apart := false, narrowed := true }
def QuoteClampsUptoSaid : Prop := quoteClampsUptoRow.holds Try.pinned (OpenSpec.upto quoteClampsSpec)

/-- 'gavellaw05.QuoteBytes', WHERE WHAT IT READS IS OF BULK AT MOST 1048576: true; the input reads as it did. -/
def quoteBytesUptoRow : OpenClaim := { program := "ytjcnnfpbodhbgaa", sum := "fd9481d6526d715827c3f2f2461b1d90d6e9d74875320f80db68add70b74ed19", func := "gavel/gavellaw05.QuoteBytes", spec := "quoteBytes", inPlace := ["math.Float64frombits", "math.Float64bits"], apart := false, narrowed := true }
def QuoteBytesUptoSaid : Prop := quoteBytesUptoRow.holds Try.pinned (OpenSpec.upto quoteBytesSpec)

end Rows
end Go.Proofs.Ytjcnnfpbodhbgaa
