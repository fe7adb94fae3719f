/-
  No cell of these rows narrows 'for every input' (looked for: loops, veiled, ifaces, maps, wideKeys, modest, calm, conditions, laid).
  DERIVED. THE GIVEN ROWS OF THIS SEAT. 3 by the template 'for every input the law returns true; each argument reads behind the call as it read before'; 0 by the template 'total and deterministic' (their statements: YtiabobmfknekkaaTotals.lean).
  GIVEN WITH THE SEED: the statements are not yours to turn. If you find one false, say at which input.
  Laid BY PROGRAM, IN A SANDBOX (cutbox-rows.mjs): the forced cells as the released guide's own fill.sh prints them over the translation e3d1720a4e232fb3… (all of the seat's roots in one cut). By AI agents, Wed Nov 11 2026. No macro, syntax, notation, axiom, sorry.
-/
import Derived.Test.YtiabobmfknekkaaChecked
import GoSem.Claim
import GoSem.ClaimJoined
import GoSem.ClaimMapViews
import Derived.JoinedTies
import Derived.KernelRfl
namespace Go.Proofs.Ytiabobmfknekkaa
/- THE CELL 'sum', in the pinned program and in every row, IS THE sha256 OF THE DUMP (.gsa) THAT YtiabobmfknekkaaProg.lean LOADS. Nothing in Lean hashes anything: it is a label: what it is worth is what the hold of that sum in a sandbox is worth. -/
noncomputable def Try.pinned : Pinned := { name := "ytiabobmfknekkaa", sum := "e3d1720a4e232fb342005c36ecb020507032546310e3e08f5f4f696b54c02f7f", checked := Try.checked }
namespace Rows
def none {H : Type} : Left H := { results := [], args := [] }

/-- 'gavellaw08.CallPlaces': WHATEVER THE INPUT: true; the input reads as it did. -/
def callPlacesSpec : ChangeSpec := { name := "callPlaces", fn := fun _ => fun
  | [d1, d2, d3, d4] => { results := [.lit (.bool true)], args := [d1, d2, d3, d4] }
  | _ => none }
def callPlacesRow : OpenClaim := { program := "ytiabobmfknekkaa", sum := "e3d1720a4e232fb342005c36ecb020507032546310e3e08f5f4f696b54c02f7f", func := "gavel/gavellaw08.CallPlaces", spec := "callPlaces", unfollowed := true, recurses := true, apart := false }
def CallPlacesSaid : Prop := callPlacesRow.holds Try.pinned (OpenSpec.ofChange callPlacesSpec)

/-- ITS FALSE NEIGHBOUR: 'it returns false'. Refute it at one input. -/
def callPlacesWrong : ChangeSpec := { name := "callPlaces", fn := fun _ => fun
  | [d1, d2, d3, d4] => { results := [.lit (.bool false)], args := [d1, d2, d3, d4] }
  | _ => none }
def CallPlacesWrongFalsely : Prop := callPlacesRow.holds Try.pinned (OpenSpec.ofChange callPlacesWrong)

/-- 'gavellaw08.CallBalanced': WHATEVER THE INPUT: true; the input reads as it did. -/
def callBalancedSpec : ChangeSpec := { name := "callBalanced", fn := fun _ => fun
  | [d] => { results := [.lit (.bool true)], args := [d] }
  | _ => none }
def callBalancedRow : OpenClaim := { program := "ytiabobmfknekkaa", sum := "e3d1720a4e232fb342005c36ecb020507032546310e3e08f5f4f696b54c02f7f", func := "gavel/gavellaw08.CallBalanced", spec := "callBalanced", unfollowed := true, recurses := true, apart := false }
def CallBalancedSaid : Prop := callBalancedRow.holds Try.pinned (OpenSpec.ofChange callBalancedSpec)

/-- ITS FALSE NEIGHBOUR: 'it returns false'. Refute it at one input. -/
def callBalancedWrong : ChangeSpec := { name := "callBalanced", fn := fun _ => fun
  | [d] => { results := [.lit (.bool false)], args := [d] }
  | _ => none }
def CallBalancedWrongFalsely : Prop := callBalancedRow.holds Try.pinned (OpenSpec.ofChange callBalancedWrong)

/-- 'gavellaw08.CallFirst': WHATEVER THE INPUT: true; the input reads as it did. -/
def callFirstSpec : ChangeSpec := { name := "callFirst", fn := fun _ => fun
  | [d] => { results := [.lit (.bool true)], args := [d] }
  | _ => none }
def callFirstRow : OpenClaim := { program := "ytiabobmfknekkaa", sum := "e3d1720a4e232fb342005c36ecb020507032546310e3e08f5f4f696b54c02f7f", func := "gavel/gavellaw08.CallFirst", spec := "callFirst", unfollowed := true, recurses := true, apart := false }
def CallFirstSaid : Prop := callFirstRow.holds Try.pinned (OpenSpec.ofChange callFirstSpec)

/-- ITS FALSE NEIGHBOUR: 'it returns false'. Refute it at one input. -/
def callFirstWrong : ChangeSpec := { name := "callFirst", fn := fun _ => fun
  | [d] => { results := [.lit (.bool false)], args := [d] }
  | _ => none }
def CallFirstWrongFalsely : Prop := callFirstRow.holds Try.pinned (OpenSpec.ofChange callFirstWrong)

/- THE SECOND FORM. 'bulk': how many values and letters a reading holds, each counted each time it is reached (what is shared counts as often as it is met; a slice's spare places count too). A statement '..UptoSaid' is the law's where the arguments, and the package variables that the reading takes, are together of bulk at most 1048576: NARROWER than '..Said'. Prove '..Said' where nothing that the law and all that it calls make is longer than what came in: it says more and counts as full. Else prove '..UptoSaid'. A law counts once. -/
mutual
def uptoBulk {H : Type} : DataW H → Nat
  | .lit (.string bytes) => bytes.length + 1
  | .lit _ => 1
  | .nil => 1
  | .ptr d => uptoBulk d + 1
  | .slice elems spare => uptoBulkAll elems + uptoBulkAll spare + 1
  | .agg parts => uptoBulkAll parts + 1
  | .iface _ d => uptoBulk d + 1
  | .map entries => uptoBulkEntries entries + 1
  | .held _ => 1
def uptoBulkAll {H : Type} : List (DataW H) → Nat
  | [] => 0
  | d :: r => uptoBulk d + uptoBulkAll r
def uptoBulkEntries {H : Type} : List (Lit × DataW H) → Nat
  | [] => 0
  | x :: r => uptoBulkEntry x + uptoBulkEntries r
def uptoBulkEntry {H : Type} : Lit × DataW H → Nat
  | (.string bytes, d) => bytes.length + uptoBulk d + 1
  | (_, d) => uptoBulk d + 1
 end
def uptoSmall : (H : Type) → List (DataW H) → Bool := fun _ ds => decide (uptoBulkAll ds ≤ 1048576)
def OpenSpec.upto (s : _root_.Go.ChangeSpec) : _root_.Go.OpenSpec := { _root_.Go.OpenSpec.ofChange s with cond := some uptoSmall }

/-- 'gavellaw08.CallPlaces', WHERE WHAT IT READS IS OF BULK AT MOST 1048576: true; the input reads as it did. -/
def callPlacesUptoRow : OpenClaim := { program := "ytiabobmfknekkaa", sum := "e3d1720a4e232fb342005c36ecb020507032546310e3e08f5f4f696b54c02f7f", func := "gavel/gavellaw08.CallPlaces", spec := "callPlaces", unfollowed := true, recurses := true, apart := false, narrowed := true }
def CallPlacesUptoSaid : Prop := callPlacesUptoRow.holds Try.pinned (OpenSpec.upto callPlacesSpec)

/-- 'gavellaw08.CallBalanced', WHERE WHAT IT READS IS OF BULK AT MOST 1048576: true; the input reads as it did. -/
def callBalancedUptoRow : OpenClaim := { program := "ytiabobmfknekkaa", sum := "e3d1720a4e232fb342005c36ecb020507032546310e3e08f5f4f696b54c02f7f", func := "gavel/gavellaw08.CallBalanced", spec := "callBalanced", unfollowed := true, recurses := true, apart := false, narrowed := true }
def CallBalancedUptoSaid : Prop := callBalancedUptoRow.holds Try.pinned (OpenSpec.upto callBalancedSpec)

/-- 'gavellaw08.CallFirst', WHERE WHAT IT READS IS OF BULK AT MOST 1048576: true; the input reads as it did. -/
def callFirstUptoRow : OpenClaim := { program := "ytiabobmfknekkaa", sum := "e3d1720a4e232fb342005c36ecb020507032546310e3e08f5f4f696b54c02f7f", func := "gavel/gavellaw08.CallFirst", spec := "callFirst", unfollowed := true, recurses := true, apart := false, narrowed := true }
def CallFirstUptoSaid : Prop := callFirstUptoRow.holds Try.pinned (OpenSpec.upto callFirstSpec)

end Rows
end Go.Proofs.Ytiabobmfknekkaa
