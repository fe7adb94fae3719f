/-
  No cell of these rows narrows 'for every input' (looked for: loops, veiled, ifaces, maps, wideKeys, modest, calm, conditions, laid).
  DERIVED. THE GIVEN ROWS OF THIS SEAT. 3 by the template 'for every input the law returns true; each argument reads behind the call as it read before'; 0 by the template 'total and deterministic' (their statements: YtpcafjbebhcilaaGreatTotals.lean).
  GIVEN WITH THE SEED: the statements are not yours to turn. If you find one false, say at which input.
  Laid BY PROGRAM, IN A SANDBOX (cutbox-rows.mjs): the forced cells as the released guide's own fill.sh prints them over the translation 1b0095aa19cffe1b… (all of the seat's roots in one cut). By AI agents, Wed Nov 11 2026. No macro, syntax, notation, axiom, sorry.
-/
import Derived.Test.YtpcafjbebhcilaaGreatChecked
import GoSem.Claim
import GoSem.ClaimJoined
import GoSem.ClaimMapViews
import Derived.JoinedTies
import Derived.KernelRfl
namespace Go.Proofs.YtpcafjbebhcilaaGreat
/- THE CELL 'sum', in the pinned program and in every row, IS THE sha256 OF THE DUMP (.gsa) THAT YtpcafjbebhcilaaGreatProg.lean LOADS. Nothing in Lean hashes anything: it is a label: what it is worth is what the hold of that sum in a sandbox is worth. -/
noncomputable def Tryz.pinned : Pinned := { name := "ytpcafjbebhcilaagreat", sum := "1b0095aa19cffe1b7d7db4bc3b47d654db86dce6d3bdbeda7694987ef611a736", checked := Tryz.checked }
namespace Rows
def none {H : Type} : Left H := { results := [], args := [] }

/-- 'gavellaw04.MerkleGrows': WHATEVER THE INPUT: true; the input reads as it did. -/
def merkleGrowsSpec : ChangeSpec := { name := "merkleGrows", fn := fun _ => fun
  | [d1, d2] => { results := [.lit (.bool true)], args := [d1, d2] }
  | _ => none }
def merkleGrowsRow : OpenClaim := { program := "ytpcafjbebhcilaagreat", sum := "1b0095aa19cffe1b7d7db4bc3b47d654db86dce6d3bdbeda7694987ef611a736", func := "gavel/gavellaw04.MerkleGrows", spec := "merkleGrows", inPlace := ["slices.overlaps[gavel/api.Record]", "slices.overlaps[string]"], unfollowed := true, recurses := true, plainKeys := false, apart := false }
def MerkleGrowsSaid : Prop := merkleGrowsRow.holds Tryz.pinned (OpenSpec.ofChange merkleGrowsSpec)

/-- ITS FALSE NEIGHBOUR: 'it returns false'. Refute it at one input. -/
def merkleGrowsWrong : ChangeSpec := { name := "merkleGrows", fn := fun _ => fun
  | [d1, d2] => { results := [.lit (.bool false)], args := [d1, d2] }
  | _ => none }
def MerkleGrowsWrongFalsely : Prop := merkleGrowsRow.holds Tryz.pinned (OpenSpec.ofChange merkleGrowsWrong)

/-- 'gavellaw04.MerkleOrder': WHATEVER THE INPUT: true; the input reads as it did. -/
def merkleOrderSpec : ChangeSpec := { name := "merkleOrder", fn := fun _ => fun
  | [d] => { results := [.lit (.bool true)], args := [d] }
  | _ => none }
def merkleOrderRow : OpenClaim := { program := "ytpcafjbebhcilaagreat", sum := "1b0095aa19cffe1b7d7db4bc3b47d654db86dce6d3bdbeda7694987ef611a736", func := "gavel/gavellaw04.MerkleOrder", spec := "merkleOrder", inPlace := ["slices.overlaps[gavel/api.Record]", "slices.overlaps[string]"], unfollowed := true, recurses := true, plainKeys := false, apart := false }
def MerkleOrderSaid : Prop := merkleOrderRow.holds Tryz.pinned (OpenSpec.ofChange merkleOrderSpec)

/-- ITS FALSE NEIGHBOUR: 'it returns false'. Refute it at one input. -/
def merkleOrderWrong : ChangeSpec := { name := "merkleOrder", fn := fun _ => fun
  | [d] => { results := [.lit (.bool false)], args := [d] }
  | _ => none }
def MerkleOrderWrongFalsely : Prop := merkleOrderRow.holds Tryz.pinned (OpenSpec.ofChange merkleOrderWrong)

/-- 'gavellaw04.MerkleBack': WHATEVER THE INPUT: true; the input reads as it did. -/
def merkleBackSpec : ChangeSpec := { name := "merkleBack", fn := fun _ => fun
  | [d1, d2, d3] => { results := [.lit (.bool true)], args := [d1, d2, d3] }
  | _ => none }
def merkleBackRow : OpenClaim := { program := "ytpcafjbebhcilaagreat", sum := "1b0095aa19cffe1b7d7db4bc3b47d654db86dce6d3bdbeda7694987ef611a736", func := "gavel/gavellaw04.MerkleBack", spec := "merkleBack", inPlace := ["slices.overlaps[gavel/api.Record]", "slices.overlaps[string]"], unfollowed := true, recurses := true, plainKeys := false, apart := false }
def MerkleBackSaid : Prop := merkleBackRow.holds Tryz.pinned (OpenSpec.ofChange merkleBackSpec)

/-- ITS FALSE NEIGHBOUR: 'it returns false'. Refute it at one input. -/
def merkleBackWrong : ChangeSpec := { name := "merkleBack", fn := fun _ => fun
  | [d1, d2, d3] => { results := [.lit (.bool false)], args := [d1, d2, d3] }
  | _ => none }
def MerkleBackWrongFalsely : Prop := merkleBackRow.holds Tryz.pinned (OpenSpec.ofChange merkleBackWrong)

/- THE SECOND FORM. 'bulk': how many values and letters a reading holds, each counted each time it is reached (what is shared counts as often as it is met; a slice's spare places count too). A statement '..UptoSaid' is the law's where the arguments, and the package variables that the reading takes, are together of bulk at most 1048576: NARROWER than '..Said'. Prove '..Said' where nothing that the law and all that it calls make is longer than what came in: it says more and counts as full. Else prove '..UptoSaid'. A law counts once. -/
mutual
def uptoBulk {H : Type} : DataW H → Nat
  | .lit (.string bytes) => bytes.length + 1
  | .lit _ => 1
  | .nil => 1
  | .ptr d => uptoBulk d + 1
  | .slice elems spare => uptoBulkAll elems + uptoBulkAll spare + 1
  | .agg parts => uptoBulkAll parts + 1
  | .iface _ d => uptoBulk d + 1
  | .map entries => uptoBulkEntries entries + 1
  | .held _ => 1
def uptoBulkAll {H : Type} : List (DataW H) → Nat
  | [] => 0
  | d :: r => uptoBulk d + uptoBulkAll r
def uptoBulkEntries {H : Type} : List (Lit × DataW H) → Nat
  | [] => 0
  | x :: r => uptoBulkEntry x + uptoBulkEntries r
def uptoBulkEntry {H : Type} : Lit × DataW H → Nat
  | (.string bytes, d) => bytes.length + uptoBulk d + 1
  | (_, d) => uptoBulk d + 1
 end
def uptoSmall : (H : Type) → List (DataW H) → Bool := fun _ ds => decide (uptoBulkAll ds ≤ 1048576)
def OpenSpec.upto (s : _root_.Go.ChangeSpec) : _root_.Go.OpenSpec := { _root_.Go.OpenSpec.ofChange s with cond := some uptoSmall }

/-- 'gavellaw04.MerkleGrows', WHERE WHAT IT READS IS OF BULK AT MOST 1048576: true; the input reads as it did. -/
def merkleGrowsUptoRow : OpenClaim := { program := "ytpcafjbebhcilaagreat", sum := "1b0095aa19cffe1b7d7db4bc3b47d654db86dce6d3bdbeda7694987ef611a736", func := "gavel/gavellaw04.MerkleGrows", spec := "merkleGrows", inPlace := ["slices.overlaps[gavel/api.Record]", "slices.overlaps[string]"], unfollowed := true, recurses := true, plainKeys := false, apart := false, narrowed := true }
def MerkleGrowsUptoSaid : Prop := merkleGrowsUptoRow.holds Tryz.pinned (OpenSpec.upto merkleGrowsSpec)

/-- 'gavellaw04.MerkleOrder', WHERE WHAT IT READS IS OF BULK AT MOST 1048576: true; the input reads as it did. -/
def merkleOrderUptoRow : OpenClaim := { program := "ytpcafjbebhcilaagreat", sum := "1b0095aa19cffe1b7d7db4bc3b47d654db86dce6d3bdbeda7694987ef611a736", func := "gavel/gavellaw04.MerkleOrder", spec := "merkleOrder", inPlace := ["slices.overlaps[gavel/api.Record]", "slices.overlaps[string]"], unfollowed := true, recurses := true, plainKeys := false, apart := false, narrowed := true }
def MerkleOrderUptoSaid : Prop := merkleOrderUptoRow.holds Tryz.pinned (OpenSpec.upto merkleOrderSpec)

/-- 'gavellaw04.MerkleBack', WHERE WHAT IT READS IS OF BULK AT MOST 1048576: true; the input reads as it did. -/
def merkleBackUptoRow : OpenClaim := { program := "ytpcafjbebhcilaagreat", sum := "1b0095aa19cffe1b7d7db4bc3b47d654db86dce6d3bdbeda7694987ef611a736", func := "gavel/gavellaw04.MerkleBack", spec := "merkleBack", inPlace := ["slices.overlaps[gavel/api.Record]", "slices.overlaps[string]"], unfollowed := true, recurses := true, plainKeys := false, apart := false, narrowed := true }
def MerkleBackUptoSaid : Prop := merkleBackUptoRow.holds Tryz.pinned (OpenSpec.upto merkleBackSpec)

end Rows
end Go.Proofs.YtpcafjbebhcilaaGreat
