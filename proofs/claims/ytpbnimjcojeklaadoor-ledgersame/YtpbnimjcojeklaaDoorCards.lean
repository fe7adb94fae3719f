/-
  DERIVED. GIVEN WITH THE SEED: THE CARDS: each row of YtpbnimjcojeklaaDoorRows.lean that lists a variable, with what it lists TIED to the program's text (the seventh form; the later family's looks); each row that meets fmt, with fmt's text TOLD by the authors' own Lean function (tested against real Go, not proved from fmt's source: count such statements apart). THE CARD IS WHAT COUNTS. Prove the row's statement (the work); the ties are given (YtpbnimjcojeklaaDoorTie.lean); close each card by the builder's one call (the guide's Derived/Test/ToyasCard.lean, 'card_holds'). Laid BY PROGRAM, IN A SANDBOX (cutbox-door.mjs). By AI agents, Wed Nov 11 2026. No macro, syntax, notation, axiom, sorry.
-/
import Derived.Test.YtpbnimjcojeklaaDoorRows
import GoSem.ClaimSeven
namespace Go.Proofs.YtpbnimjcojeklaaDoor
namespace Rows

/-- THE TIED CARD OF 'gavellaw06.LedgerRefused'. -/
def ledgerRefusedCard : Claim7 := { stood := { row := ledgerRefusedRow, standIns := [], harness := (true, "e93bf0bbb64b712ffa6370717bec302fc09ca2cb36fdfbe2504ac0fe22ddb82c"), looks := false }, kinds := [], alts := [], laidByText := true, laidKinds := [.data, .data, .data], laidTests := true, laidLooks := .later }
def LedgerRefusedCardSaid : Prop := Claim7.holds Tryd.pinned (.plain (OpenSpec.ofChange ledgerRefusedSpec)) ledgerRefusedCard

/-- THE TIED CARD OF 'gavellaw06.LedgerBackwards'. -/
def ledgerBackwardsCard : Claim7 := { stood := { row := ledgerBackwardsRow, standIns := [], harness := (true, "e93bf0bbb64b712ffa6370717bec302fc09ca2cb36fdfbe2504ac0fe22ddb82c"), looks := false }, kinds := [], alts := [], laidByText := true, laidKinds := [.data, .data, .data], laidTests := true, laidLooks := .later }
def LedgerBackwardsCardSaid : Prop := Claim7.holds Tryd.pinned (.plain (OpenSpec.ofChange ledgerBackwardsSpec)) ledgerBackwardsCard

/-- THE TIED CARD OF 'gavellaw06.LedgerNobody'. -/
def ledgerNobodyCard : Claim7 := { stood := { row := ledgerNobodyRow, standIns := [], harness := (true, "e93bf0bbb64b712ffa6370717bec302fc09ca2cb36fdfbe2504ac0fe22ddb82c"), looks := false }, kinds := [], alts := [], laidByText := true, laidKinds := [.data, .data, .data], laidTests := true, laidLooks := .later }
def LedgerNobodyCardSaid : Prop := Claim7.holds Tryd.pinned (.plain (OpenSpec.ofChange ledgerNobodySpec)) ledgerNobodyCard

/-- THE TIED CARD OF 'gavellaw06.LedgerSame'. -/
def ledgerSameCard : Claim7 := { stood := { row := ledgerSameRow, standIns := [], harness := (true, "e93bf0bbb64b712ffa6370717bec302fc09ca2cb36fdfbe2504ac0fe22ddb82c"), looks := false }, kinds := [], alts := [], laidByText := true, laidKinds := [.data, .data, .data], laidTests := true, laidLooks := .later }
def LedgerSameCardSaid : Prop := Claim7.holds Tryd.pinned (.plain (OpenSpec.ofChange ledgerSameSpec)) ledgerSameCard

/-- THE SECOND FORM's CARD OF 'gavellaw06.LedgerRefused'. -/
def ledgerRefusedUptoCard : Claim7 := { stood := { row := ledgerRefusedUptoRow, standIns := [], harness := (true, "e93bf0bbb64b712ffa6370717bec302fc09ca2cb36fdfbe2504ac0fe22ddb82c"), looks := false }, kinds := [], alts := [], laidByText := true, laidKinds := [.data, .data, .data], laidTests := true, laidLooks := .later }
def LedgerRefusedUptoCardSaid : Prop := Claim7.holds Tryd.pinned (.plain (OpenSpec.upto ledgerRefusedSpec)) ledgerRefusedUptoCard

/-- THE SECOND FORM's CARD OF 'gavellaw06.LedgerBackwards'. -/
def ledgerBackwardsUptoCard : Claim7 := { stood := { row := ledgerBackwardsUptoRow, standIns := [], harness := (true, "e93bf0bbb64b712ffa6370717bec302fc09ca2cb36fdfbe2504ac0fe22ddb82c"), looks := false }, kinds := [], alts := [], laidByText := true, laidKinds := [.data, .data, .data], laidTests := true, laidLooks := .later }
def LedgerBackwardsUptoCardSaid : Prop := Claim7.holds Tryd.pinned (.plain (OpenSpec.upto ledgerBackwardsSpec)) ledgerBackwardsUptoCard

/-- THE SECOND FORM's CARD OF 'gavellaw06.LedgerNobody'. -/
def ledgerNobodyUptoCard : Claim7 := { stood := { row := ledgerNobodyUptoRow, standIns := [], harness := (true, "e93bf0bbb64b712ffa6370717bec302fc09ca2cb36fdfbe2504ac0fe22ddb82c"), looks := false }, kinds := [], alts := [], laidByText := true, laidKinds := [.data, .data, .data], laidTests := true, laidLooks := .later }
def LedgerNobodyUptoCardSaid : Prop := Claim7.holds Tryd.pinned (.plain (OpenSpec.upto ledgerNobodySpec)) ledgerNobodyUptoCard

/-- THE SECOND FORM's CARD OF 'gavellaw06.LedgerSame'. -/
def ledgerSameUptoCard : Claim7 := { stood := { row := ledgerSameUptoRow, standIns := [], harness := (true, "e93bf0bbb64b712ffa6370717bec302fc09ca2cb36fdfbe2504ac0fe22ddb82c"), looks := false }, kinds := [], alts := [], laidByText := true, laidKinds := [.data, .data, .data], laidTests := true, laidLooks := .later }
def LedgerSameUptoCardSaid : Prop := Claim7.holds Tryd.pinned (.plain (OpenSpec.upto ledgerSameSpec)) ledgerSameUptoCard
end Rows
end Go.Proofs.YtpbnimjcojeklaaDoor
