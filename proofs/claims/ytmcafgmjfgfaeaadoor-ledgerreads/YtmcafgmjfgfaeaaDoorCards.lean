/-
  DERIVED. GIVEN WITH THE SEED: THE CARDS: each row of YtmcafgmjfgfaeaaDoorRows.lean that lists a variable, with what it lists TIED to the program's text (the seventh form; the later family's looks); each row that meets fmt, with fmt's text TOLD by the authors' own Lean function (tested against real Go, not proved from fmt's source: count such statements apart). THE CARD IS WHAT COUNTS. Prove the row's statement (the work); the ties are given (YtmcafgmjfgfaeaaDoorTie.lean); close each card by the builder's one call (the guide's Derived/Test/ToyasCard.lean, 'card_holds'). Laid BY PROGRAM, IN A SANDBOX (cutbox-door.mjs). By AI agents, Wed Nov 11 2026. No macro, syntax, notation, axiom, sorry.
-/
import Derived.Test.YtmcafgmjfgfaeaaDoorRows
import GoSem.ClaimSeven
namespace Go.Proofs.YtmcafgmjfgfaeaaDoor
namespace Rows

/-- THE TIED CARD OF 'gavellaw06.LedgerRecords'. -/
def ledgerRecordsCard : Claim7 := { stood := { row := ledgerRecordsRow, standIns := [], harness := (true, "ab014becff09ab13d0f87e47005a83ae73e5f1080e14288eee43b6bbcfc04399"), looks := true }, kinds := [], alts := [], laidByText := true, laidKinds := [.data, .data, .data], laidTests := true, laidLooks := .later }
def LedgerRecordsCardSaid : Prop := Claim7.holds Tryd.pinned (.plain (OpenSpec.ofChange ledgerRecordsSpec)) ledgerRecordsCard

/-- THE TIED CARD OF 'gavellaw06.LedgerReads'. -/
def ledgerReadsCard : Claim7 := { stood := { row := ledgerReadsRow, standIns := [], harness := (true, "ab014becff09ab13d0f87e47005a83ae73e5f1080e14288eee43b6bbcfc04399"), looks := true }, kinds := [], alts := [], laidByText := true, laidKinds := [.data, .data, .data], laidTests := true, laidLooks := .later }
def LedgerReadsCardSaid : Prop := Claim7.holds Tryd.pinned (.plain (OpenSpec.ofChange ledgerReadsSpec)) ledgerReadsCard

/-- THE SECOND FORM's CARD OF 'gavellaw06.LedgerRecords'. -/
def ledgerRecordsUptoCard : Claim7 := { stood := { row := ledgerRecordsUptoRow, standIns := [], harness := (true, "ab014becff09ab13d0f87e47005a83ae73e5f1080e14288eee43b6bbcfc04399"), looks := true }, kinds := [], alts := [], laidByText := true, laidKinds := [.data, .data, .data], laidTests := true, laidLooks := .later }
def LedgerRecordsUptoCardSaid : Prop := Claim7.holds Tryd.pinned (.plain (OpenSpec.upto ledgerRecordsSpec)) ledgerRecordsUptoCard

/-- THE SECOND FORM's CARD OF 'gavellaw06.LedgerReads'. -/
def ledgerReadsUptoCard : Claim7 := { stood := { row := ledgerReadsUptoRow, standIns := [], harness := (true, "ab014becff09ab13d0f87e47005a83ae73e5f1080e14288eee43b6bbcfc04399"), looks := true }, kinds := [], alts := [], laidByText := true, laidKinds := [.data, .data, .data], laidTests := true, laidLooks := .later }
def LedgerReadsUptoCardSaid : Prop := Claim7.holds Tryd.pinned (.plain (OpenSpec.upto ledgerReadsSpec)) ledgerReadsUptoCard
end Rows
end Go.Proofs.YtmcafgmjfgfaeaaDoor
