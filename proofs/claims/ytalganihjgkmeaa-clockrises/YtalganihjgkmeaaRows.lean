/-
  No cell of these rows narrows 'for every input' (looked for: loops, veiled, ifaces, maps, wideKeys, modest, calm, conditions, laid).
  DERIVED. THE GIVEN ROWS OF THIS SEAT. 4 by the template 'for every input the law returns true; each argument reads behind the call as it read before'; 0 by the template 'total and deterministic' (their statements: YtalganihjgkmeaaTotals.lean).
  GIVEN WITH THE SEED: the statements are not yours to turn. If you find one false, say at which input.
  Laid BY PROGRAM, IN A SANDBOX (cutbox-rows.mjs): the forced cells as the released guide's own fill.sh prints them over the translation 53efb2c3623e5df5… (all of the seat's roots in one cut). By AI agents, Wed Nov 11 2026. No macro, syntax, notation, axiom, sorry.
-/
import Derived.Test.YtalganihjgkmeaaChecked
import GoSem.Claim
import GoSem.ClaimJoined
import GoSem.ClaimMapViews
import Derived.JoinedTies
import Derived.KernelRfl
namespace Go.Proofs.Ytalganihjgkmeaa
/- THE CELL 'sum', in the pinned program and in every row, IS THE sha256 OF THE DUMP (.gsa) THAT YtalganihjgkmeaaProg.lean LOADS. Nothing in Lean hashes anything: it is a label: what it is worth is what the hold of that sum in a sandbox is worth. -/
noncomputable def Try.pinned : Pinned := { name := "ytalganihjgkmeaa", sum := "53efb2c3623e5df5fbef49f4696a9cbfcb154b3219c3c54cdf455767ce726735", checked := Try.checked }
namespace Rows
def none {H : Type} : Left H := { results := [], args := [] }

/-- 'gavellaw07.ClockCloses': WHATEVER THE INPUT: true; the input reads as it did. -/
def clockClosesSpec : ChangeSpec := { name := "clockCloses", fn := fun _ => fun
  | [d1, d2, d3, d4] => { results := [.lit (.bool true)], args := [d1, d2, d3, d4] }
  | _ => none }
def clockClosesRow : OpenClaim := { program := "ytalganihjgkmeaa", sum := "53efb2c3623e5df5fbef49f4696a9cbfcb154b3219c3c54cdf455767ce726735", func := "gavel/gavellaw07.ClockCloses", spec := "clockCloses", apart := false }
def ClockClosesSaid : Prop := clockClosesRow.holds Try.pinned (OpenSpec.ofChange clockClosesSpec)

/-- ITS FALSE NEIGHBOUR: 'it returns false'. Refute it at one input. -/
def clockClosesWrong : ChangeSpec := { name := "clockCloses", fn := fun _ => fun
  | [d1, d2, d3, d4] => { results := [.lit (.bool false)], args := [d1, d2, d3, d4] }
  | _ => none }
def ClockClosesWrongFalsely : Prop := clockClosesRow.holds Try.pinned (OpenSpec.ofChange clockClosesWrong)

/-- 'gavellaw07.ClockRises': WHATEVER THE INPUT: true; the input reads as it did. -/
def clockRisesSpec : ChangeSpec := { name := "clockRises", fn := fun _ => fun
  | [d1, d2] => { results := [.lit (.bool true)], args := [d1, d2] }
  | _ => none }
def clockRisesRow : OpenClaim := { program := "ytalganihjgkmeaa", sum := "53efb2c3623e5df5fbef49f4696a9cbfcb154b3219c3c54cdf455767ce726735", func := "gavel/gavellaw07.ClockRises", spec := "clockRises", apart := false }
def ClockRisesSaid : Prop := clockRisesRow.holds Try.pinned (OpenSpec.ofChange clockRisesSpec)

/-- ITS FALSE NEIGHBOUR: 'it returns false'. Refute it at one input. -/
def clockRisesWrong : ChangeSpec := { name := "clockRises", fn := fun _ => fun
  | [d1, d2] => { results := [.lit (.bool false)], args := [d1, d2] }
  | _ => none }
def ClockRisesWrongFalsely : Prop := clockRisesRow.holds Try.pinned (OpenSpec.ofChange clockRisesWrong)

/-- 'gavellaw07.ClockSells': WHATEVER THE INPUT: true; the input reads as it did. -/
def clockSellsSpec : ChangeSpec := { name := "clockSells", fn := fun _ => fun
  | [d1, d2] => { results := [.lit (.bool true)], args := [d1, d2] }
  | _ => none }
def clockSellsRow : OpenClaim := { program := "ytalganihjgkmeaa", sum := "53efb2c3623e5df5fbef49f4696a9cbfcb154b3219c3c54cdf455767ce726735", func := "gavel/gavellaw07.ClockSells", spec := "clockSells", apart := false }
def ClockSellsSaid : Prop := clockSellsRow.holds Try.pinned (OpenSpec.ofChange clockSellsSpec)

/-- ITS FALSE NEIGHBOUR: 'it returns false'. Refute it at one input. -/
def clockSellsWrong : ChangeSpec := { name := "clockSells", fn := fun _ => fun
  | [d1, d2] => { results := [.lit (.bool false)], args := [d1, d2] }
  | _ => none }
def ClockSellsWrongFalsely : Prop := clockSellsRow.holds Try.pinned (OpenSpec.ofChange clockSellsWrong)

/-- 'gavellaw07.ClockShares': WHATEVER THE INPUT: true; the input reads as it did. -/
def clockSharesSpec : ChangeSpec := { name := "clockShares", fn := fun _ => fun
  | [d1, d2] => { results := [.lit (.bool true)], args := [d1, d2] }
  | _ => none }
def clockSharesRow : OpenClaim := { program := "ytalganihjgkmeaa", sum := "53efb2c3623e5df5fbef49f4696a9cbfcb154b3219c3c54cdf455767ce726735", func := "gavel/gavellaw07.ClockShares", spec := "clockShares", apart := false }
def ClockSharesSaid : Prop := clockSharesRow.holds Try.pinned (OpenSpec.ofChange clockSharesSpec)

/-- ITS FALSE NEIGHBOUR: 'it returns false'. Refute it at one input. -/
def clockSharesWrong : ChangeSpec := { name := "clockShares", fn := fun _ => fun
  | [d1, d2] => { results := [.lit (.bool false)], args := [d1, d2] }
  | _ => none }
def ClockSharesWrongFalsely : Prop := clockSharesRow.holds Try.pinned (OpenSpec.ofChange clockSharesWrong)

/- THE SECOND FORM. 'bulk': how many values and letters a reading holds, each counted each time it is reached (what is shared counts as often as it is met; a slice's spare places count too). A statement '..UptoSaid' is the law's where the arguments, and the package variables that the reading takes, are together of bulk at most 1048576: NARROWER than '..Said'. Prove '..Said' where nothing that the law and all that it calls make is longer than what came in: it says more and counts as full. Else prove '..UptoSaid'. A law counts once. -/
mutual
def uptoBulk {H : Type} : DataW H → Nat
  | .lit (.string bytes) => bytes.length + 1
  | .lit _ => 1
  | .nil => 1
  | .ptr d => uptoBulk d + 1
  | .slice elems spare => uptoBulkAll elems + uptoBulkAll spare + 1
  | .agg parts => uptoBulkAll parts + 1
  | .iface _ d => uptoBulk d + 1
  | .map entries => uptoBulkEntries entries + 1
  | .held _ => 1
def uptoBulkAll {H : Type} : List (DataW H) → Nat
  | [] => 0
  | d :: r => uptoBulk d + uptoBulkAll r
def uptoBulkEntries {H : Type} : List (Lit × DataW H) → Nat
  | [] => 0
  | x :: r => uptoBulkEntry x + uptoBulkEntries r
def uptoBulkEntry {H : Type} : Lit × DataW H → Nat
  | (.string bytes, d) => bytes.length + uptoBulk d + 1
  | (_, d) => uptoBulk d + 1
 end
def uptoSmall : (H : Type) → List (DataW H) → Bool := fun _ ds => decide (uptoBulkAll ds ≤ 1048576)
def OpenSpec.upto (s : _root_.Go.ChangeSpec) : _root_.Go.OpenSpec := { _root_.Go.OpenSpec.ofChange s with cond := some uptoSmall }

/-- 'gavellaw07.ClockCloses', WHERE WHAT IT READS IS OF BULK AT MOST 1048576: true; the input reads as it did. -/
def clockClosesUptoRow : OpenClaim := { program := "ytalganihjgkmeaa", sum := "53efb2c3623e5df5fbef49f4696a9cbfcb154b3219c3c54cdf455767ce726735", func := "gavel/gavellaw07.ClockCloses", spec := "clockCloses", apart := false, narrowed := true }
def ClockClosesUptoSaid : Prop := clockClosesUptoRow.holds Try.pinned (OpenSpec.upto clockClosesSpec)

/-- 'gavellaw07.ClockRises', WHERE WHAT IT READS IS OF BULK AT MOST 1048576: true; the input reads as it did. -/
def clockRisesUptoRow : OpenClaim := { program := "ytalganihjgkmeaa", sum := "53efb2c3623e5df5fbef49f4696a9cbfcb154b3219c3c54cdf455767ce726735", func := "gavel/gavellaw07.ClockRises", spec := "clockRises", apart := false, narrowed := true }
def ClockRisesUptoSaid : Prop := clockRisesUptoRow.holds Try.pinned (OpenSpec.upto clockRisesSpec)

/-- 'gavellaw07.ClockSells', WHERE WHAT IT READS IS OF BULK AT MOST 1048576: true; the input reads as it did. -/
def clockSellsUptoRow : OpenClaim := { program := "ytalganihjgkmeaa", sum := "53efb2c3623e5df5fbef49f4696a9cbfcb154b3219c3c54cdf455767ce726735", func := "gavel/gavellaw07.ClockSells", spec := "clockSells", apart := false, narrowed := true }
def ClockSellsUptoSaid : Prop := clockSellsUptoRow.holds Try.pinned (OpenSpec.upto clockSellsSpec)

/-- 'gavellaw07.ClockShares', WHERE WHAT IT READS IS OF BULK AT MOST 1048576: true; the input reads as it did. -/
def clockSharesUptoRow : OpenClaim := { program := "ytalganihjgkmeaa", sum := "53efb2c3623e5df5fbef49f4696a9cbfcb154b3219c3c54cdf455767ce726735", func := "gavel/gavellaw07.ClockShares", spec := "clockShares", apart := false, narrowed := true }
def ClockSharesUptoSaid : Prop := clockSharesUptoRow.holds Try.pinned (OpenSpec.upto clockSharesSpec)

end Rows
end Go.Proofs.Ytalganihjgkmeaa
