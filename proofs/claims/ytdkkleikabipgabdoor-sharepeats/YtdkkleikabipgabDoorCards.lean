/-
  DERIVED. GIVEN WITH THE SEED: THE CARDS: each row of YtdkkleikabipgabDoorRows.lean that lists a variable, with what it lists TIED to the program's text (the seventh form; the later family's looks); each row that meets fmt, with fmt's text TOLD by the authors' own Lean function (tested against real Go, not proved from fmt's source: count such statements apart). THE CARD IS WHAT COUNTS. Prove the row's statement (the work); the ties are given (YtdkkleikabipgabDoorTie.lean); close each card by the builder's one call (the guide's Derived/Test/ToyasCard.lean, 'card_holds'). Laid BY PROGRAM, IN A SANDBOX (cutbox-door.mjs). By AI agents, Wed Nov 11 2026. No macro, syntax, notation, axiom, sorry.
-/
import Derived.Test.YtdkkleikabipgabDoorRows
import GoSem.ClaimSeven
namespace Go.Proofs.YtdkkleikabipgabDoor
namespace Rows

/-- THE TIED CARD OF 'gavellaw02.ShaRepeats'. -/
def shaRepeatsCard : Claim7 := { stood := { row := shaRepeatsRow, standIns := [], harness := (true, "a8114f76dfe253d44baa0cef8a9311bdf1e65b39de62a123e1d7e677db9be8f6"), looks := false }, kinds := [], alts := [], laidByText := true, laidKinds := [.data], laidTests := true, laidLooks := .later }
def ShaRepeatsCardSaid : Prop := Claim7.holds Tryd.pinned (.plain (OpenSpec.ofChange shaRepeatsSpec)) shaRepeatsCard

/-- THE SECOND FORM's CARD OF 'gavellaw02.ShaRepeats'. -/
def shaRepeatsUptoCard : Claim7 := { stood := { row := shaRepeatsUptoRow, standIns := [], harness := (true, "a8114f76dfe253d44baa0cef8a9311bdf1e65b39de62a123e1d7e677db9be8f6"), looks := false }, kinds := [], alts := [], laidByText := true, laidKinds := [.data], laidTests := true, laidLooks := .later }
def ShaRepeatsUptoCardSaid : Prop := Claim7.holds Tryd.pinned (.plain (OpenSpec.upto shaRepeatsSpec)) shaRepeatsUptoCard
end Rows
end Go.Proofs.YtdkkleikabipgabDoor
