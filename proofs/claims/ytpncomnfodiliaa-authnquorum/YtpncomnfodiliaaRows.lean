/-
  No cell of these rows narrows 'for every input' (looked for: loops, veiled, ifaces, maps, wideKeys, modest, calm, conditions, laid).
  DERIVED. THE GIVEN ROWS OF THIS SEAT. 6 by the template 'for every input the law returns true; each argument reads behind the call as it read before'; 0 by the template 'total and deterministic' (their statements: YtpncomnfodiliaaTotals.lean).
  GIVEN WITH THE SEED: the statements are not yours to turn. If you find one false, say at which input.
  Laid BY PROGRAM, IN A SANDBOX (cutbox-rows.mjs): the forced cells as the released guide's own fill.sh prints them over the translation cf5064b85f1dd347… (all of the seat's roots in one cut). By AI agents, Wed Nov 11 2026. No macro, syntax, notation, axiom, sorry.
-/
import Derived.Test.YtpncomnfodiliaaChecked
import GoSem.Claim
import GoSem.ClaimJoined
import GoSem.ClaimMapViews
import Derived.JoinedTies
import Derived.KernelRfl
namespace Go.Proofs.Ytpncomnfodiliaa
/- THE CELL 'sum', in the pinned program and in every row, IS THE sha256 OF THE DUMP (.gsa) THAT YtpncomnfodiliaaProg.lean LOADS. Nothing in Lean hashes anything: it is a label: what it is worth is what the hold of that sum in a sandbox is worth. -/
noncomputable def Try.pinned : Pinned := { name := "ytpncomnfodiliaa", sum := "cf5064b85f1dd347a353fdce586462539f76bfbada8763f8eff9cf08e9fda995", checked := Try.checked }
namespace Rows
def none {H : Type} : Left H := { results := [], args := [] }

/-- 'gavellaw03.AuthnPlays': WHATEVER THE INPUT: true; the input reads as it did. -/
def authnPlaysSpec : ChangeSpec := { name := "authnPlays", fn := fun _ => fun
  | [d] => { results := [.lit (.bool true)], args := [d] }
  | _ => none }
def authnPlaysRow : OpenClaim := { program := "ytpncomnfodiliaa", sum := "cf5064b85f1dd347a353fdce586462539f76bfbada8763f8eff9cf08e9fda995", func := "gavel/gavellaw03.AuthnPlays", spec := "authnPlays", unfollowed := true, recurses := true, plainKeys := false, apart := false }
def AuthnPlaysSaid : Prop := authnPlaysRow.holds Try.pinned (OpenSpec.ofChange authnPlaysSpec)

/-- ITS FALSE NEIGHBOUR: 'it returns false'. Refute it at one input. -/
def authnPlaysWrong : ChangeSpec := { name := "authnPlays", fn := fun _ => fun
  | [d] => { results := [.lit (.bool false)], args := [d] }
  | _ => none }
def AuthnPlaysWrongFalsely : Prop := authnPlaysRow.holds Try.pinned (OpenSpec.ofChange authnPlaysWrong)

/-- 'gavellaw03.AuthnApart': WHATEVER THE INPUT: true; the input reads as it did. -/
def authnApartSpec : ChangeSpec := { name := "authnApart", fn := fun _ => fun
  | [d] => { results := [.lit (.bool true)], args := [d] }
  | _ => none }
def authnApartRow : OpenClaim := { program := "ytpncomnfodiliaa", sum := "cf5064b85f1dd347a353fdce586462539f76bfbada8763f8eff9cf08e9fda995", func := "gavel/gavellaw03.AuthnApart", spec := "authnApart", unfollowed := true, recurses := true, plainKeys := false, apart := false }
def AuthnApartSaid : Prop := authnApartRow.holds Try.pinned (OpenSpec.ofChange authnApartSpec)

/-- ITS FALSE NEIGHBOUR: 'it returns false'. Refute it at one input. -/
def authnApartWrong : ChangeSpec := { name := "authnApart", fn := fun _ => fun
  | [d] => { results := [.lit (.bool false)], args := [d] }
  | _ => none }
def AuthnApartWrongFalsely : Prop := authnApartRow.holds Try.pinned (OpenSpec.ofChange authnApartWrong)

/-- 'gavellaw03.AuthnForged': WHATEVER THE INPUT: true; the input reads as it did. -/
def authnForgedSpec : ChangeSpec := { name := "authnForged", fn := fun _ => fun
  | [d1, d2, d3, d4] => { results := [.lit (.bool true)], args := [d1, d2, d3, d4] }
  | _ => none }
def authnForgedRow : OpenClaim := { program := "ytpncomnfodiliaa", sum := "cf5064b85f1dd347a353fdce586462539f76bfbada8763f8eff9cf08e9fda995", func := "gavel/gavellaw03.AuthnForged", spec := "authnForged", unfollowed := true, recurses := true, plainKeys := false, apart := false }
def AuthnForgedSaid : Prop := authnForgedRow.holds Try.pinned (OpenSpec.ofChange authnForgedSpec)

/-- ITS FALSE NEIGHBOUR: 'it returns false'. Refute it at one input. -/
def authnForgedWrong : ChangeSpec := { name := "authnForged", fn := fun _ => fun
  | [d1, d2, d3, d4] => { results := [.lit (.bool false)], args := [d1, d2, d3, d4] }
  | _ => none }
def AuthnForgedWrongFalsely : Prop := authnForgedRow.holds Try.pinned (OpenSpec.ofChange authnForgedWrong)

/-- 'gavellaw03.AuthnUnlike': WHATEVER THE INPUT: true; the input reads as it did. -/
def authnUnlikeSpec : ChangeSpec := { name := "authnUnlike", fn := fun _ => fun
  | [d] => { results := [.lit (.bool true)], args := [d] }
  | _ => none }
def authnUnlikeRow : OpenClaim := { program := "ytpncomnfodiliaa", sum := "cf5064b85f1dd347a353fdce586462539f76bfbada8763f8eff9cf08e9fda995", func := "gavel/gavellaw03.AuthnUnlike", spec := "authnUnlike", unfollowed := true, recurses := true, plainKeys := false, apart := false }
def AuthnUnlikeSaid : Prop := authnUnlikeRow.holds Try.pinned (OpenSpec.ofChange authnUnlikeSpec)

/-- ITS FALSE NEIGHBOUR: 'it returns false'. Refute it at one input. -/
def authnUnlikeWrong : ChangeSpec := { name := "authnUnlike", fn := fun _ => fun
  | [d] => { results := [.lit (.bool false)], args := [d] }
  | _ => none }
def AuthnUnlikeWrongFalsely : Prop := authnUnlikeRow.holds Try.pinned (OpenSpec.ofChange authnUnlikeWrong)

/-- 'gavellaw03.AuthnNobody': WHATEVER THE INPUT: true; the input reads as it did. -/
def authnNobodySpec : ChangeSpec := { name := "authnNobody", fn := fun _ => fun
  | [d1, d2, d3] => { results := [.lit (.bool true)], args := [d1, d2, d3] }
  | _ => none }
def authnNobodyRow : OpenClaim := { program := "ytpncomnfodiliaa", sum := "cf5064b85f1dd347a353fdce586462539f76bfbada8763f8eff9cf08e9fda995", func := "gavel/gavellaw03.AuthnNobody", spec := "authnNobody", unfollowed := true, recurses := true, plainKeys := false, apart := false }
def AuthnNobodySaid : Prop := authnNobodyRow.holds Try.pinned (OpenSpec.ofChange authnNobodySpec)

/-- ITS FALSE NEIGHBOUR: 'it returns false'. Refute it at one input. -/
def authnNobodyWrong : ChangeSpec := { name := "authnNobody", fn := fun _ => fun
  | [d1, d2, d3] => { results := [.lit (.bool false)], args := [d1, d2, d3] }
  | _ => none }
def AuthnNobodyWrongFalsely : Prop := authnNobodyRow.holds Try.pinned (OpenSpec.ofChange authnNobodyWrong)

/-- 'gavellaw03.AuthnQuorum': WHATEVER THE INPUT: true; the input reads as it did. -/
def authnQuorumSpec : ChangeSpec := { name := "authnQuorum", fn := fun _ => fun
  | [d1, d2, d3, d4, d5, d6] => { results := [.lit (.bool true)], args := [d1, d2, d3, d4, d5, d6] }
  | _ => none }
def authnQuorumRow : OpenClaim := { program := "ytpncomnfodiliaa", sum := "cf5064b85f1dd347a353fdce586462539f76bfbada8763f8eff9cf08e9fda995", func := "gavel/gavellaw03.AuthnQuorum", spec := "authnQuorum", unfollowed := true, recurses := true, plainKeys := false, apart := false }
def AuthnQuorumSaid : Prop := authnQuorumRow.holds Try.pinned (OpenSpec.ofChange authnQuorumSpec)

/-- ITS FALSE NEIGHBOUR: 'it returns false'. Refute it at one input. -/
def authnQuorumWrong : ChangeSpec := { name := "authnQuorum", fn := fun _ => fun
  | [d1, d2, d3, d4, d5, d6] => { results := [.lit (.bool false)], args := [d1, d2, d3, d4, d5, d6] }
  | _ => none }
def AuthnQuorumWrongFalsely : Prop := authnQuorumRow.holds Try.pinned (OpenSpec.ofChange authnQuorumWrong)

/- THE SECOND FORM. 'bulk': how many values and letters a reading holds, each counted each time it is reached (what is shared counts as often as it is met; a slice's spare places count too). A statement '..UptoSaid' is the law's where the arguments, and the package variables that the reading takes, are together of bulk at most 1048576: NARROWER than '..Said'. Prove '..Said' where nothing that the law and all that it calls make is longer than what came in: it says more and counts as full. Else prove '..UptoSaid'. A law counts once. -/
mutual
def uptoBulk {H : Type} : DataW H → Nat
  | .lit (.string bytes) => bytes.length + 1
  | .lit _ => 1
  | .nil => 1
  | .ptr d => uptoBulk d + 1
  | .slice elems spare => uptoBulkAll elems + uptoBulkAll spare + 1
  | .agg parts => uptoBulkAll parts + 1
  | .iface _ d => uptoBulk d + 1
  | .map entries => uptoBulkEntries entries + 1
  | .held _ => 1
def uptoBulkAll {H : Type} : List (DataW H) → Nat
  | [] => 0
  | d :: r => uptoBulk d + uptoBulkAll r
def uptoBulkEntries {H : Type} : List (Lit × DataW H) → Nat
  | [] => 0
  | x :: r => uptoBulkEntry x + uptoBulkEntries r
def uptoBulkEntry {H : Type} : Lit × DataW H → Nat
  | (.string bytes, d) => bytes.length + uptoBulk d + 1
  | (_, d) => uptoBulk d + 1
 end
def uptoSmall : (H : Type) → List (DataW H) → Bool := fun _ ds => decide (uptoBulkAll ds ≤ 1048576)
def OpenSpec.upto (s : _root_.Go.ChangeSpec) : _root_.Go.OpenSpec := { _root_.Go.OpenSpec.ofChange s with cond := some uptoSmall }

/-- 'gavellaw03.AuthnPlays', WHERE WHAT IT READS IS OF BULK AT MOST 1048576: true; the input reads as it did. -/
def authnPlaysUptoRow : OpenClaim := { program := "ytpncomnfodiliaa", sum := "cf5064b85f1dd347a353fdce586462539f76bfbada8763f8eff9cf08e9fda995", func := "gavel/gavellaw03.AuthnPlays", spec := "authnPlays", unfollowed := true, recurses := true, plainKeys := false, apart := false, narrowed := true }
def AuthnPlaysUptoSaid : Prop := authnPlaysUptoRow.holds Try.pinned (OpenSpec.upto authnPlaysSpec)

/-- 'gavellaw03.AuthnApart', WHERE WHAT IT READS IS OF BULK AT MOST 1048576: true; the input reads as it did. -/
def authnApartUptoRow : OpenClaim := { program := "ytpncomnfodiliaa", sum := "cf5064b85f1dd347a353fdce586462539f76bfbada8763f8eff9cf08e9fda995", func := "gavel/gavellaw03.AuthnApart", spec := "authnApart", unfollowed := true, recurses := true, plainKeys := false, apart := false, narrowed := true }
def AuthnApartUptoSaid : Prop := authnApartUptoRow.holds Try.pinned (OpenSpec.upto authnApartSpec)

/-- 'gavellaw03.AuthnForged', WHERE WHAT IT READS IS OF BULK AT MOST 1048576: true; the input reads as it did. -/
def authnForgedUptoRow : OpenClaim := { program := "ytpncomnfodiliaa", sum := "cf5064b85f1dd347a353fdce586462539f76bfbada8763f8eff9cf08e9fda995", func := "gavel/gavellaw03.AuthnForged", spec := "authnForged", unfollowed := true, recurses := true, plainKeys := false, apart := false, narrowed := true }
def AuthnForgedUptoSaid : Prop := authnForgedUptoRow.holds Try.pinned (OpenSpec.upto authnForgedSpec)

/-- 'gavellaw03.AuthnUnlike', WHERE WHAT IT READS IS OF BULK AT MOST 1048576: true; the input reads as it did. -/
def authnUnlikeUptoRow : OpenClaim := { program := "ytpncomnfodiliaa", sum := "cf5064b85f1dd347a353fdce586462539f76bfbada8763f8eff9cf08e9fda995", func := "gavel/gavellaw03.AuthnUnlike", spec := "authnUnlike", unfollowed := true, recurses := true, plainKeys := false, apart := false, narrowed := true }
def AuthnUnlikeUptoSaid : Prop := authnUnlikeUptoRow.holds Try.pinned (OpenSpec.upto authnUnlikeSpec)

/-- 'gavellaw03.AuthnNobody', WHERE WHAT IT READS IS OF BULK AT MOST 1048576: true; the input reads as it did. -/
def authnNobodyUptoRow : OpenClaim := { program := "ytpncomnfodiliaa", sum := "cf5064b85f1dd347a353fdce586462539f76bfbada8763f8eff9cf08e9fda995", func := "gavel/gavellaw03.AuthnNobody", spec := "authnNobody", unfollowed := true, recurses := true, plainKeys := false, apart := false, narrowed := true }
def AuthnNobodyUptoSaid : Prop := authnNobodyUptoRow.holds Try.pinned (OpenSpec.upto authnNobodySpec)

/-- 'gavellaw03.AuthnQuorum', WHERE WHAT IT READS IS OF BULK AT MOST 1048576: true; the input reads as it did. -/
def authnQuorumUptoRow : OpenClaim := { program := "ytpncomnfodiliaa", sum := "cf5064b85f1dd347a353fdce586462539f76bfbada8763f8eff9cf08e9fda995", func := "gavel/gavellaw03.AuthnQuorum", spec := "authnQuorum", unfollowed := true, recurses := true, plainKeys := false, apart := false, narrowed := true }
def AuthnQuorumUptoSaid : Prop := authnQuorumUptoRow.holds Try.pinned (OpenSpec.upto authnQuorumSpec)

end Rows
end Go.Proofs.Ytpncomnfodiliaa
