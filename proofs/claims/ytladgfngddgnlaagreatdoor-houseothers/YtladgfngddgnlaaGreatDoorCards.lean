/-
  DERIVED. GIVEN WITH THE SEED: THE CARDS: each row of YtladgfngddgnlaaGreatDoorRows.lean that lists a variable, with what it lists TIED to the program's text (the seventh form; the later family's looks); each row that meets fmt, with fmt's text TOLD by the authors' own Lean function (tested against real Go, not proved from fmt's source: count such statements apart). THE CARD IS WHAT COUNTS. Prove the row's statement (the work); the ties are given (YtladgfngddgnlaaGreatDoorTie.lean); close each card by the builder's one call (the guide's Derived/Test/ToyasCard.lean, 'card_holds'). Laid BY PROGRAM, IN A SANDBOX (cutbox-door.mjs). By AI agents, Wed Nov 11 2026. No macro, syntax, notation, axiom, sorry.
-/
import Derived.Test.YtladgfngddgnlaaGreatDoorRows
import GoSem.ClaimSeven
namespace Go.Proofs.YtladgfngddgnlaaGreatDoor
namespace Rows

/-- THE TIED CARD OF 'gavellaw09.HouseRefused'. -/
def houseRefusedCard : Claim7 := { stood := { row := houseRefusedRow, standIns := [], harness := (true, "f1b2b8afd7bb038ebe40ff764da64e14d36c885d63dbcb3af88eaa65e2f4c08d"), looks := true }, kinds := [], alts := [], laidByText := true, laidKinds := [.data, .data, .data], laidTests := true, laidLooks := .later }
def HouseRefusedCardSaid : Prop := Claim7.holds Tryz.pinned (.plain (OpenSpec.ofChange houseRefusedSpec)) houseRefusedCard

/-- THE TIED CARD OF 'gavellaw09.HouseOnce'. -/
def houseOnceCard : Claim7 := { stood := { row := houseOnceRow, standIns := [], harness := (true, "f1b2b8afd7bb038ebe40ff764da64e14d36c885d63dbcb3af88eaa65e2f4c08d"), looks := true }, kinds := [], alts := [], laidByText := true, laidKinds := [.data, .data, .data], laidTests := true, laidLooks := .later }
def HouseOnceCardSaid : Prop := Claim7.holds Tryz.pinned (.plain (OpenSpec.ofChange houseOnceSpec)) houseOnceCard

/-- THE TIED CARD OF 'gavellaw09.HouseOthers'. -/
def houseOthersCard : Claim7 := { stood := { row := houseOthersRow, standIns := [], harness := (true, "f1b2b8afd7bb038ebe40ff764da64e14d36c885d63dbcb3af88eaa65e2f4c08d"), looks := true }, kinds := [], alts := [], laidByText := true, laidKinds := [.data, .data, .data], laidTests := true, laidLooks := .later }
def HouseOthersCardSaid : Prop := Claim7.holds Tryz.pinned (.plain (OpenSpec.ofChange houseOthersSpec)) houseOthersCard

/-- THE SECOND FORM's CARD OF 'gavellaw09.HouseRefused'. -/
def houseRefusedUptoCard : Claim7 := { stood := { row := houseRefusedUptoRow, standIns := [], harness := (true, "f1b2b8afd7bb038ebe40ff764da64e14d36c885d63dbcb3af88eaa65e2f4c08d"), looks := true }, kinds := [], alts := [], laidByText := true, laidKinds := [.data, .data, .data], laidTests := true, laidLooks := .later }
def HouseRefusedUptoCardSaid : Prop := Claim7.holds Tryz.pinned (.plain (OpenSpec.upto houseRefusedSpec)) houseRefusedUptoCard

/-- THE SECOND FORM's CARD OF 'gavellaw09.HouseOnce'. -/
def houseOnceUptoCard : Claim7 := { stood := { row := houseOnceUptoRow, standIns := [], harness := (true, "f1b2b8afd7bb038ebe40ff764da64e14d36c885d63dbcb3af88eaa65e2f4c08d"), looks := true }, kinds := [], alts := [], laidByText := true, laidKinds := [.data, .data, .data], laidTests := true, laidLooks := .later }
def HouseOnceUptoCardSaid : Prop := Claim7.holds Tryz.pinned (.plain (OpenSpec.upto houseOnceSpec)) houseOnceUptoCard

/-- THE SECOND FORM's CARD OF 'gavellaw09.HouseOthers'. -/
def houseOthersUptoCard : Claim7 := { stood := { row := houseOthersUptoRow, standIns := [], harness := (true, "f1b2b8afd7bb038ebe40ff764da64e14d36c885d63dbcb3af88eaa65e2f4c08d"), looks := true }, kinds := [], alts := [], laidByText := true, laidKinds := [.data, .data, .data], laidTests := true, laidLooks := .later }
def HouseOthersUptoCardSaid : Prop := Claim7.holds Tryz.pinned (.plain (OpenSpec.upto houseOthersSpec)) houseOthersUptoCard
end Rows
end Go.Proofs.YtladgfngddgnlaaGreatDoor
