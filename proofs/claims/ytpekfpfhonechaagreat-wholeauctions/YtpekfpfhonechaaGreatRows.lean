/-
  No cell of these rows narrows 'for every input' (looked for: loops, veiled, ifaces, maps, wideKeys, modest, calm, conditions, laid).
  DERIVED. THE GIVEN ROWS OF THIS SEAT. 3 by the template 'for every input the law returns true; each argument reads behind the call as it read before'; 0 by the template 'total and deterministic' (their statements: YtpekfpfhonechaaGreatTotals.lean).
  GIVEN WITH THE SEED: the statements are not yours to turn. If you find one false, say at which input.
  Laid BY PROGRAM, IN A SANDBOX (cutbox-rows.mjs): the forced cells as the released guide's own fill.sh prints them over the translation 27ecbde201af6862… (all of the seat's roots in one cut). By AI agents, Wed Nov 11 2026. No macro, syntax, notation, axiom, sorry.
-/
import Derived.Test.YtpekfpfhonechaaGreatChecked
import GoSem.Claim
import GoSem.ClaimJoined
import GoSem.ClaimMapViews
import Derived.JoinedTies
import Derived.KernelRfl
namespace Go.Proofs.YtpekfpfhonechaaGreat
/- THE CELL 'sum', in the pinned program and in every row, IS THE sha256 OF THE DUMP (.gsa) THAT YtpekfpfhonechaaGreatProg.lean LOADS. Nothing in Lean hashes anything: it is a label: what it is worth is what the hold of that sum in a sandbox is worth. -/
noncomputable def Tryz.pinned : Pinned := { name := "ytpekfpfhonechaagreat", sum := "27ecbde201af68621ff365274c08223d2cddaae77f43a4ca0461658c50965a35", checked := Tryz.checked }
namespace Rows
def none {H : Type} : Left H := { results := [], args := [] }

/-- 'gaveltop.WholeMarkets': WHATEVER THE INPUT: true; the input reads as it did. -/
def wholeMarketsSpec : ChangeSpec := { name := "wholeMarkets", fn := fun _ => fun
  | [d1, d2] => { results := [.lit (.bool true)], args := [d1, d2] }
  | _ => none }
def wholeMarketsRow : OpenClaim := { program := "ytpekfpfhonechaagreat", sum := "27ecbde201af68621ff365274c08223d2cddaae77f43a4ca0461658c50965a35", func := "gavel/gaveltop.WholeMarkets", spec := "wholeMarkets", inPlace := ["math.Float64bits", "math.Float64frombits", "internal/abi.NoEscape"], unfollowed := true, recurses := true, apart := false }
def WholeMarketsSaid : Prop := wholeMarketsRow.holds Tryz.pinned (OpenSpec.ofChange wholeMarketsSpec)

/-- ITS FALSE NEIGHBOUR: 'it returns false'. Refute it at one input. -/
def wholeMarketsWrong : ChangeSpec := { name := "wholeMarkets", fn := fun _ => fun
  | [d1, d2] => { results := [.lit (.bool false)], args := [d1, d2] }
  | _ => none }
def WholeMarketsWrongFalsely : Prop := wholeMarketsRow.holds Tryz.pinned (OpenSpec.ofChange wholeMarketsWrong)

/-- 'gaveltop.WholeAuctions': WHATEVER THE INPUT: true; the input reads as it did. -/
def wholeAuctionsSpec : ChangeSpec := { name := "wholeAuctions", fn := fun _ => fun
  | [d1, d2, d3, d4] => { results := [.lit (.bool true)], args := [d1, d2, d3, d4] }
  | _ => none }
def wholeAuctionsRow : OpenClaim := { program := "ytpekfpfhonechaagreat", sum := "27ecbde201af68621ff365274c08223d2cddaae77f43a4ca0461658c50965a35", func := "gavel/gaveltop.WholeAuctions", spec := "wholeAuctions", inPlace := ["math.Float64bits", "math.Float64frombits", "internal/abi.NoEscape"], unfollowed := true, recurses := true, apart := false }
def WholeAuctionsSaid : Prop := wholeAuctionsRow.holds Tryz.pinned (OpenSpec.ofChange wholeAuctionsSpec)

/-- ITS FALSE NEIGHBOUR: 'it returns false'. Refute it at one input. -/
def wholeAuctionsWrong : ChangeSpec := { name := "wholeAuctions", fn := fun _ => fun
  | [d1, d2, d3, d4] => { results := [.lit (.bool false)], args := [d1, d2, d3, d4] }
  | _ => none }
def WholeAuctionsWrongFalsely : Prop := wholeAuctionsRow.holds Tryz.pinned (OpenSpec.ofChange wholeAuctionsWrong)

/-- 'gaveltop.WholeEnds': WHATEVER THE INPUT: true; the input reads as it did. -/
def wholeEndsSpec : ChangeSpec := { name := "wholeEnds", fn := fun _ => fun
  | [d] => { results := [.lit (.bool true)], args := [d] }
  | _ => none }
def wholeEndsRow : OpenClaim := { program := "ytpekfpfhonechaagreat", sum := "27ecbde201af68621ff365274c08223d2cddaae77f43a4ca0461658c50965a35", func := "gavel/gaveltop.WholeEnds", spec := "wholeEnds", inPlace := ["math.Float64bits", "math.Float64frombits", "internal/abi.NoEscape"], unfollowed := true, recurses := true, apart := false }
def WholeEndsSaid : Prop := wholeEndsRow.holds Tryz.pinned (OpenSpec.ofChange wholeEndsSpec)

/-- ITS FALSE NEIGHBOUR: 'it returns false'. Refute it at one input. -/
def wholeEndsWrong : ChangeSpec := { name := "wholeEnds", fn := fun _ => fun
  | [d] => { results := [.lit (.bool false)], args := [d] }
  | _ => none }
def WholeEndsWrongFalsely : Prop := wholeEndsRow.holds Tryz.pinned (OpenSpec.ofChange wholeEndsWrong)

/- THE SECOND FORM. 'bulk': how many values and letters a reading holds, each counted each time it is reached (what is shared counts as often as it is met; a slice's spare places count too). A statement '..UptoSaid' is the law's where the arguments, and the package variables that the reading takes, are together of bulk at most 1048576: NARROWER than '..Said'. Prove '..Said' where nothing that the law and all that it calls make is longer than what came in: it says more and counts as full. Else prove '..UptoSaid'. A law counts once. -/
mutual
def uptoBulk {H : Type} : DataW H → Nat
  | .lit (.string bytes) => bytes.length + 1
  | .lit _ => 1
  | .nil => 1
  | .ptr d => uptoBulk d + 1
  | .slice elems spare => uptoBulkAll elems + uptoBulkAll spare + 1
  | .agg parts => uptoBulkAll parts + 1
  | .iface _ d => uptoBulk d + 1
  | .map entries => uptoBulkEntries entries + 1
  | .held _ => 1
def uptoBulkAll {H : Type} : List (DataW H) → Nat
  | [] => 0
  | d :: r => uptoBulk d + uptoBulkAll r
def uptoBulkEntries {H : Type} : List (Lit × DataW H) → Nat
  | [] => 0
  | x :: r => uptoBulkEntry x + uptoBulkEntries r
def uptoBulkEntry {H : Type} : Lit × DataW H → Nat
  | (.string bytes, d) => bytes.length + uptoBulk d + 1
  | (_, d) => uptoBulk d + 1
 end
def uptoSmall : (H : Type) → List (DataW H) → Bool := fun _ ds => decide (uptoBulkAll ds ≤ 1048576)
def OpenSpec.upto (s : _root_.Go.ChangeSpec) : _root_.Go.OpenSpec := { _root_.Go.OpenSpec.ofChange s with cond := some uptoSmall }

/-- 'gaveltop.WholeMarkets', WHERE WHAT IT READS IS OF BULK AT MOST 1048576: true; the input reads as it did. -/
def wholeMarketsUptoRow : OpenClaim := { program := "ytpekfpfhonechaagreat", sum := "27ecbde201af68621ff365274c08223d2cddaae77f43a4ca0461658c50965a35", func := "gavel/gaveltop.WholeMarkets", spec := "wholeMarkets", inPlace := ["math.Float64bits", "math.Float64frombits", "internal/abi.NoEscape"], unfollowed := true, recurses := true, apart := false, narrowed := true }
def WholeMarketsUptoSaid : Prop := wholeMarketsUptoRow.holds Tryz.pinned (OpenSpec.upto wholeMarketsSpec)

/-- 'gaveltop.WholeAuctions', WHERE WHAT IT READS IS OF BULK AT MOST 1048576: true; the input reads as it did. -/
def wholeAuctionsUptoRow : OpenClaim := { program := "ytpekfpfhonechaagreat", sum := "27ecbde201af68621ff365274c08223d2cddaae77f43a4ca0461658c50965a35", func := "gavel/gaveltop.WholeAuctions", spec := "wholeAuctions", inPlace := ["math.Float64bits", "math.Float64frombits", "internal/abi.NoEscape"], unfollowed := true, recurses := true, apart := false, narrowed := true }
def WholeAuctionsUptoSaid : Prop := wholeAuctionsUptoRow.holds Tryz.pinned (OpenSpec.upto wholeAuctionsSpec)

/-- 'gaveltop.WholeEnds', WHERE WHAT IT READS IS OF BULK AT MOST 1048576: true; the input reads as it did. -/
def wholeEndsUptoRow : OpenClaim := { program := "ytpekfpfhonechaagreat", sum := "27ecbde201af68621ff365274c08223d2cddaae77f43a4ca0461658c50965a35", func := "gavel/gaveltop.WholeEnds", spec := "wholeEnds", inPlace := ["math.Float64bits", "math.Float64frombits", "internal/abi.NoEscape"], unfollowed := true, recurses := true, apart := false, narrowed := true }
def WholeEndsUptoSaid : Prop := wholeEndsUptoRow.holds Tryz.pinned (OpenSpec.upto wholeEndsSpec)

end Rows
end Go.Proofs.YtpekfpfhonechaaGreat
