/-
  No cell of these rows narrows 'for every input' (looked for: loops, veiled, ifaces, maps, wideKeys, modest, calm, conditions, laid).
  DERIVED. THE GIVEN ROWS OF THIS SEAT. 4 by the template 'for every input the law returns true; each argument reads behind the call as it read before'; 0 by the template 'total and deterministic' (their statements: YtgofjheoebabeaaGreatTotals.lean).
  GIVEN WITH THE SEED: the statements are not yours to turn. If you find one false, say at which input.
  Laid BY PROGRAM, IN A SANDBOX (cutbox-rows.mjs): the forced cells as the released guide's own fill.sh prints them over the translation e2ed1ec6b0874344… (all of the seat's roots in one cut). By AI agents, Wed Nov 11 2026. No macro, syntax, notation, axiom, sorry.
-/
import Derived.Test.YtgofjheoebabeaaGreatChecked
import GoSem.Claim
import GoSem.ClaimJoined
import GoSem.ClaimMapViews
import Derived.JoinedTies
import Derived.KernelRfl
namespace Go.Proofs.YtgofjheoebabeaaGreat
/- THE CELL 'sum', in the pinned program and in every row, IS THE sha256 OF THE DUMP (.gsa) THAT YtgofjheoebabeaaGreatProg.lean LOADS. Nothing in Lean hashes anything: it is a label: what it is worth is what the hold of that sum in a sandbox is worth. -/
noncomputable def Tryz.pinned : Pinned := { name := "ytgofjheoebabeaagreat", sum := "e2ed1ec6b08743441c7061b0c719e96bdaea34f270d76ea5ac016d7fad456300", checked := Tryz.checked }
namespace Rows
def none {H : Type} : Left H := { results := [], args := [] }

/-- 'gavellaw09.HouseConserves': WHATEVER THE INPUT: true; the input reads as it did. -/
def houseConservesSpec : ChangeSpec := { name := "houseConserves", fn := fun _ => fun
  | [d1, d2] => { results := [.lit (.bool true)], args := [d1, d2] }
  | _ => none }
def houseConservesRow : OpenClaim := { program := "ytgofjheoebabeaagreat", sum := "e2ed1ec6b08743441c7061b0c719e96bdaea34f270d76ea5ac016d7fad456300", func := "gavel/gavellaw09.HouseConserves", spec := "houseConserves", inPlace := ["math.Float64bits", "math.Float64frombits"], unfollowed := true, recurses := true, apart := false }
def HouseConservesSaid : Prop := houseConservesRow.holds Tryz.pinned (OpenSpec.ofChange houseConservesSpec)

/-- ITS FALSE NEIGHBOUR: 'it returns false'. Refute it at one input. -/
def houseConservesWrong : ChangeSpec := { name := "houseConserves", fn := fun _ => fun
  | [d1, d2] => { results := [.lit (.bool false)], args := [d1, d2] }
  | _ => none }
def HouseConservesWrongFalsely : Prop := houseConservesRow.holds Tryz.pinned (OpenSpec.ofChange houseConservesWrong)

/-- 'gavellaw09.HouseSound': WHATEVER THE INPUT: true; the input reads as it did. -/
def houseSoundSpec : ChangeSpec := { name := "houseSound", fn := fun _ => fun
  | [d] => { results := [.lit (.bool true)], args := [d] }
  | _ => none }
def houseSoundRow : OpenClaim := { program := "ytgofjheoebabeaagreat", sum := "e2ed1ec6b08743441c7061b0c719e96bdaea34f270d76ea5ac016d7fad456300", func := "gavel/gavellaw09.HouseSound", spec := "houseSound", inPlace := ["math.Float64bits", "math.Float64frombits"], unfollowed := true, recurses := true, apart := false }
def HouseSoundSaid : Prop := houseSoundRow.holds Tryz.pinned (OpenSpec.ofChange houseSoundSpec)

/-- ITS FALSE NEIGHBOUR: 'it returns false'. Refute it at one input. -/
def houseSoundWrong : ChangeSpec := { name := "houseSound", fn := fun _ => fun
  | [d] => { results := [.lit (.bool false)], args := [d] }
  | _ => none }
def HouseSoundWrongFalsely : Prop := houseSoundRow.holds Tryz.pinned (OpenSpec.ofChange houseSoundWrong)

/-- 'gavellaw09.HouseClears': WHATEVER THE INPUT: true; the input reads as it did. -/
def houseClearsSpec : ChangeSpec := { name := "houseClears", fn := fun _ => fun
  | [d1, d2] => { results := [.lit (.bool true)], args := [d1, d2] }
  | _ => none }
def houseClearsRow : OpenClaim := { program := "ytgofjheoebabeaagreat", sum := "e2ed1ec6b08743441c7061b0c719e96bdaea34f270d76ea5ac016d7fad456300", func := "gavel/gavellaw09.HouseClears", spec := "houseClears", inPlace := ["math.Float64bits", "math.Float64frombits"], unfollowed := true, recurses := true, apart := false }
def HouseClearsSaid : Prop := houseClearsRow.holds Tryz.pinned (OpenSpec.ofChange houseClearsSpec)

/-- ITS FALSE NEIGHBOUR: 'it returns false'. Refute it at one input. -/
def houseClearsWrong : ChangeSpec := { name := "houseClears", fn := fun _ => fun
  | [d1, d2] => { results := [.lit (.bool false)], args := [d1, d2] }
  | _ => none }
def HouseClearsWrongFalsely : Prop := houseClearsRow.holds Tryz.pinned (OpenSpec.ofChange houseClearsWrong)

/-- 'gavellaw09.HouseTime': WHATEVER THE INPUT: true; the input reads as it did. -/
def houseTimeSpec : ChangeSpec := { name := "houseTime", fn := fun _ => fun
  | [d] => { results := [.lit (.bool true)], args := [d] }
  | _ => none }
def houseTimeRow : OpenClaim := { program := "ytgofjheoebabeaagreat", sum := "e2ed1ec6b08743441c7061b0c719e96bdaea34f270d76ea5ac016d7fad456300", func := "gavel/gavellaw09.HouseTime", spec := "houseTime", inPlace := ["math.Float64bits", "math.Float64frombits"], unfollowed := true, recurses := true, apart := false }
def HouseTimeSaid : Prop := houseTimeRow.holds Tryz.pinned (OpenSpec.ofChange houseTimeSpec)

/-- ITS FALSE NEIGHBOUR: 'it returns false'. Refute it at one input. -/
def houseTimeWrong : ChangeSpec := { name := "houseTime", fn := fun _ => fun
  | [d] => { results := [.lit (.bool false)], args := [d] }
  | _ => none }
def HouseTimeWrongFalsely : Prop := houseTimeRow.holds Tryz.pinned (OpenSpec.ofChange houseTimeWrong)

/- THE SECOND FORM. 'bulk': how many values and letters a reading holds, each counted each time it is reached (what is shared counts as often as it is met; a slice's spare places count too). A statement '..UptoSaid' is the law's where the arguments, and the package variables that the reading takes, are together of bulk at most 1048576: NARROWER than '..Said'. Prove '..Said' where nothing that the law and all that it calls make is longer than what came in: it says more and counts as full. Else prove '..UptoSaid'. A law counts once. -/
mutual
def uptoBulk {H : Type} : DataW H → Nat
  | .lit (.string bytes) => bytes.length + 1
  | .lit _ => 1
  | .nil => 1
  | .ptr d => uptoBulk d + 1
  | .slice elems spare => uptoBulkAll elems + uptoBulkAll spare + 1
  | .agg parts => uptoBulkAll parts + 1
  | .iface _ d => uptoBulk d + 1
  | .map entries => uptoBulkEntries entries + 1
  | .held _ => 1
def uptoBulkAll {H : Type} : List (DataW H) → Nat
  | [] => 0
  | d :: r => uptoBulk d + uptoBulkAll r
def uptoBulkEntries {H : Type} : List (Lit × DataW H) → Nat
  | [] => 0
  | x :: r => uptoBulkEntry x + uptoBulkEntries r
def uptoBulkEntry {H : Type} : Lit × DataW H → Nat
  | (.string bytes, d) => bytes.length + uptoBulk d + 1
  | (_, d) => uptoBulk d + 1
 end
def uptoSmall : (H : Type) → List (DataW H) → Bool := fun _ ds => decide (uptoBulkAll ds ≤ 1048576)
def OpenSpec.upto (s : _root_.Go.ChangeSpec) : _root_.Go.OpenSpec := { _root_.Go.OpenSpec.ofChange s with cond := some uptoSmall }

/-- 'gavellaw09.HouseConserves', WHERE WHAT IT READS IS OF BULK AT MOST 1048576: true; the input reads as it did. -/
def houseConservesUptoRow : OpenClaim := { program := "ytgofjheoebabeaagreat", sum := "e2ed1ec6b08743441c7061b0c719e96bdaea34f270d76ea5ac016d7fad456300", func := "gavel/gavellaw09.HouseConserves", spec := "houseConserves", inPlace := ["math.Float64bits", "math.Float64frombits"], unfollowed := true, recurses := true, apart := false, narrowed := true }
def HouseConservesUptoSaid : Prop := houseConservesUptoRow.holds Tryz.pinned (OpenSpec.upto houseConservesSpec)

/-- 'gavellaw09.HouseSound', WHERE WHAT IT READS IS OF BULK AT MOST 1048576: true; the input reads as it did. -/
def houseSoundUptoRow : OpenClaim := { program := "ytgofjheoebabeaagreat", sum := "e2ed1ec6b08743441c7061b0c719e96bdaea34f270d76ea5ac016d7fad456300", func := "gavel/gavellaw09.HouseSound", spec := "houseSound", inPlace := ["math.Float64bits", "math.Float64frombits"], unfollowed := true, recurses := true, apart := false, narrowed := true }
def HouseSoundUptoSaid : Prop := houseSoundUptoRow.holds Tryz.pinned (OpenSpec.upto houseSoundSpec)

/-- 'gavellaw09.HouseClears', WHERE WHAT IT READS IS OF BULK AT MOST 1048576: true; the input reads as it did. -/
def houseClearsUptoRow : OpenClaim := { program := "ytgofjheoebabeaagreat", sum := "e2ed1ec6b08743441c7061b0c719e96bdaea34f270d76ea5ac016d7fad456300", func := "gavel/gavellaw09.HouseClears", spec := "houseClears", inPlace := ["math.Float64bits", "math.Float64frombits"], unfollowed := true, recurses := true, apart := false, narrowed := true }
def HouseClearsUptoSaid : Prop := houseClearsUptoRow.holds Tryz.pinned (OpenSpec.upto houseClearsSpec)

/-- 'gavellaw09.HouseTime', WHERE WHAT IT READS IS OF BULK AT MOST 1048576: true; the input reads as it did. -/
def houseTimeUptoRow : OpenClaim := { program := "ytgofjheoebabeaagreat", sum := "e2ed1ec6b08743441c7061b0c719e96bdaea34f270d76ea5ac016d7fad456300", func := "gavel/gavellaw09.HouseTime", spec := "houseTime", inPlace := ["math.Float64bits", "math.Float64frombits"], unfollowed := true, recurses := true, apart := false, narrowed := true }
def HouseTimeUptoSaid : Prop := houseTimeUptoRow.holds Tryz.pinned (OpenSpec.upto houseTimeSpec)

end Rows
end Go.Proofs.YtgofjheoebabeaaGreat
