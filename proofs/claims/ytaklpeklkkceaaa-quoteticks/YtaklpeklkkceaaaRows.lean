/-
  No cell of these rows narrows 'for every input' (looked for: loops, veiled, ifaces, maps, wideKeys, modest, calm, conditions, laid).
  DERIVED. THE GIVEN ROWS OF THIS SEAT. 4 by the template 'for every input the law returns true; each argument reads behind the call as it read before'; 0 by the template 'total and deterministic' (their statements: YtaklpeklkkceaaaTotals.lean).
  GIVEN WITH THE SEED: the statements are not yours to turn. If you find one false, say at which input.
  Laid BY PROGRAM, IN A SANDBOX (cutbox-rows.mjs): the forced cells as the released guide's own fill.sh prints them over the translation 965a69e71b598a29… (all of the seat's roots in one cut). By AI agents, Wed Nov 11 2026. No macro, syntax, notation, axiom, sorry.
-/
import Derived.Test.YtaklpeklkkceaaaChecked
import GoSem.Claim
import GoSem.ClaimJoined
import GoSem.ClaimMapViews
import Derived.JoinedTies
import Derived.KernelRfl
namespace Go.Proofs.Ytaklpeklkkceaaa
/- THE CELL 'sum', in the pinned program and in every row, IS THE sha256 OF THE DUMP (.gsa) THAT YtaklpeklkkceaaaProg.lean LOADS. Nothing in Lean hashes anything: it is a label: what it is worth is what the hold of that sum in a sandbox is worth. -/
noncomputable def Try.pinned : Pinned := { name := "ytaklpeklkkceaaa", sum := "965a69e71b598a2986b05b72182e5eab0ffc6695c2395fcf139a34bbed82fa8e", checked := Try.checked }
namespace Rows
def none {H : Type} : Left H := { results := [], args := [] }

/-- 'gavellaw05.QuoteTicks': WHATEVER THE INPUT: true; the input reads as it did. -/
def quoteTicksSpec : ChangeSpec := { name := "quoteTicks", fn := fun _ => fun
  | [d1, d2] => { results := [.lit (.bool true)], args := [d1, d2] }
  | _ => none }
def quoteTicksRow : OpenClaim := { program := "ytaklpeklkkceaaa", sum := "965a69e71b598a2986b05b72182e5eab0ffc6695c2395fcf139a34bbed82fa8e", func := "gavel/gavellaw05.QuoteTicks", spec := "quoteTicks", inPlace := ["math.Float64bits", "math.Float64frombits"], apart := false }
def QuoteTicksSaid : Prop := quoteTicksRow.holds Try.pinned (OpenSpec.ofChange quoteTicksSpec)

/-- ITS FALSE NEIGHBOUR: 'it returns false'. Refute it at one input. -/
def quoteTicksWrong : ChangeSpec := { name := "quoteTicks", fn := fun _ => fun
  | [d1, d2] => { results := [.lit (.bool false)], args := [d1, d2] }
  | _ => none }
def QuoteTicksWrongFalsely : Prop := quoteTicksRow.holds Try.pinned (OpenSpec.ofChange quoteTicksWrong)

/-- 'gavellaw05.QuotePrices': WHATEVER THE INPUT: true; the input reads as it did. -/
def quotePricesSpec : ChangeSpec := { name := "quotePrices", fn := fun _ => fun
  | [d1, d2] => { results := [.lit (.bool true)], args := [d1, d2] }
  | _ => none }
def quotePricesRow : OpenClaim := { program := "ytaklpeklkkceaaa", sum := "965a69e71b598a2986b05b72182e5eab0ffc6695c2395fcf139a34bbed82fa8e", func := "gavel/gavellaw05.QuotePrices", spec := "quotePrices", inPlace := ["math.Float64bits", "math.Float64frombits"], apart := false }
def QuotePricesSaid : Prop := quotePricesRow.holds Try.pinned (OpenSpec.ofChange quotePricesSpec)

/-- ITS FALSE NEIGHBOUR: 'it returns false'. Refute it at one input. -/
def quotePricesWrong : ChangeSpec := { name := "quotePrices", fn := fun _ => fun
  | [d1, d2] => { results := [.lit (.bool false)], args := [d1, d2] }
  | _ => none }
def QuotePricesWrongFalsely : Prop := quotePricesRow.holds Try.pinned (OpenSpec.ofChange quotePricesWrong)

/-- 'gavellaw05.QuoteExact': WHATEVER THE INPUT: true; the input reads as it did. -/
def quoteExactSpec : ChangeSpec := { name := "quoteExact", fn := fun _ => fun
  | [d1, d2] => { results := [.lit (.bool true)], args := [d1, d2] }
  | _ => none }
def quoteExactRow : OpenClaim := { program := "ytaklpeklkkceaaa", sum := "965a69e71b598a2986b05b72182e5eab0ffc6695c2395fcf139a34bbed82fa8e", func := "gavel/gavellaw05.QuoteExact", spec := "quoteExact", inPlace := ["math.Float64bits", "math.Float64frombits"], apart := false }
def QuoteExactSaid : Prop := quoteExactRow.holds Try.pinned (OpenSpec.ofChange quoteExactSpec)

/-- ITS FALSE NEIGHBOUR: 'it returns false'. Refute it at one input. -/
def quoteExactWrong : ChangeSpec := { name := "quoteExact", fn := fun _ => fun
  | [d1, d2] => { results := [.lit (.bool false)], args := [d1, d2] }
  | _ => none }
def QuoteExactWrongFalsely : Prop := quoteExactRow.holds Try.pinned (OpenSpec.ofChange quoteExactWrong)

/-- 'gavellaw05.QuoteWhole': WHATEVER THE INPUT: true; the input reads as it did. -/
def quoteWholeSpec : ChangeSpec := { name := "quoteWhole", fn := fun _ => fun
  | [d] => { results := [.lit (.bool true)], args := [d] }
  | _ => none }
def quoteWholeRow : OpenClaim := { program := "ytaklpeklkkceaaa", sum := "965a69e71b598a2986b05b72182e5eab0ffc6695c2395fcf139a34bbed82fa8e", func := "gavel/gavellaw05.QuoteWhole", spec := "quoteWhole", inPlace := ["math.Float64bits", "math.Float64frombits", "math.RoundToEven"], apart := false }
def QuoteWholeSaid : Prop := quoteWholeRow.holds Try.pinned (OpenSpec.ofChange quoteWholeSpec)

/-- ITS FALSE NEIGHBOUR: 'it returns false'. Refute it at one input. -/
def quoteWholeWrong : ChangeSpec := { name := "quoteWhole", fn := fun _ => fun
  | [d] => { results := [.lit (.bool false)], args := [d] }
  | _ => none }
def QuoteWholeWrongFalsely : Prop := quoteWholeRow.holds Try.pinned (OpenSpec.ofChange quoteWholeWrong)

/- THE SECOND FORM. 'bulk': how many values and letters a reading holds, each counted each time it is reached (what is shared counts as often as it is met; a slice's spare places count too). A statement '..UptoSaid' is the law's where the arguments, and the package variables that the reading takes, are together of bulk at most 1048576: NARROWER than '..Said'. Prove '..Said' where nothing that the law and all that it calls make is longer than what came in: it says more and counts as full. Else prove '..UptoSaid'. A law counts once. -/
mutual
def uptoBulk {H : Type} : DataW H → Nat
  | .lit (.string bytes) => bytes.length + 1
  | .lit _ => 1
  | .nil => 1
  | .ptr d => uptoBulk d + 1
  | .slice elems spare => uptoBulkAll elems + uptoBulkAll spare + 1
  | .agg parts => uptoBulkAll parts + 1
  | .iface _ d => uptoBulk d + 1
  | .map entries => uptoBulkEntries entries + 1
  | .held _ => 1
def uptoBulkAll {H : Type} : List (DataW H) → Nat
  | [] => 0
  | d :: r => uptoBulk d + uptoBulkAll r
def uptoBulkEntries {H : Type} : List (Lit × DataW H) → Nat
  | [] => 0
  | x :: r => uptoBulkEntry x + uptoBulkEntries r
def uptoBulkEntry {H : Type} : Lit × DataW H → Nat
  | (.string bytes, d) => bytes.length + uptoBulk d + 1
  | (_, d) => uptoBulk d + 1
 end
def uptoSmall : (H : Type) → List (DataW H) → Bool := fun _ ds => decide (uptoBulkAll ds ≤ 1048576)
def OpenSpec.upto (s : _root_.Go.ChangeSpec) : _root_.Go.OpenSpec := { _root_.Go.OpenSpec.ofChange s with cond := some uptoSmall }

/-- 'gavellaw05.QuoteTicks', WHERE WHAT IT READS IS OF BULK AT MOST 1048576: true; the input reads as it did. -/
def quoteTicksUptoRow : OpenClaim := { program := "ytaklpeklkkceaaa", sum := "965a69e71b598a2986b05b72182e5eab0ffc6695c2395fcf139a34bbed82fa8e", func := "gavel/gavellaw05.QuoteTicks", spec := "quoteTicks", inPlace := ["math.Float64bits", "math.Float64frombits"], apart := false, narrowed := true }
def QuoteTicksUptoSaid : Prop := quoteTicksUptoRow.holds Try.pinned (OpenSpec.upto quoteTicksSpec)

/-- 'gavellaw05.QuotePrices', WHERE WHAT IT READS IS OF BULK AT MOST 1048576: true; the input reads as it did. -/
def quotePricesUptoRow : OpenClaim := { program := "ytaklpeklkkceaaa", sum := "965a69e71b598a2986b05b72182e5eab0ffc6695c2395fcf139a34bbed82fa8e", func := "gavel/gavellaw05.QuotePrices", spec := "quotePrices", inPlace := ["math.Float64bits", "math.Float64frombits"], apart := false, narrowed := true }
def QuotePricesUptoSaid : Prop := quotePricesUptoRow.holds Try.pinned (OpenSpec.upto quotePricesSpec)

/-- 'gavellaw05.QuoteExact', WHERE WHAT IT READS IS OF BULK AT MOST 1048576: true; the input reads as it did. -/
def quoteExactUptoRow : OpenClaim := { program := "ytaklpeklkkceaaa", sum := "965a69e71b598a2986b05b72182e5eab0ffc6695c2395fcf139a34bbed82fa8e", func := "gavel/gavellaw05.QuoteExact", spec := "quoteExact", inPlace := ["math.Float64bits", "math.Float64frombits"], apart := false, narrowed := true }
def QuoteExactUptoSaid : Prop := quoteExactUptoRow.holds Try.pinned (OpenSpec.upto quoteExactSpec)

/-- 'gavellaw05.QuoteWhole', WHERE WHAT IT READS IS OF BULK AT MOST 1048576: true; the input reads as it did. -/
def quoteWholeUptoRow : OpenClaim := { program := "ytaklpeklkkceaaa", sum := "965a69e71b598a2986b05b72182e5eab0ffc6695c2395fcf139a34bbed82fa8e", func := "gavel/gavellaw05.QuoteWhole", spec := "quoteWhole", inPlace := ["math.Float64bits", "math.Float64frombits", "math.RoundToEven"], apart := false, narrowed := true }
def QuoteWholeUptoSaid : Prop := quoteWholeUptoRow.holds Try.pinned (OpenSpec.upto quoteWholeSpec)

end Rows
end Go.Proofs.Ytaklpeklkkceaaa
