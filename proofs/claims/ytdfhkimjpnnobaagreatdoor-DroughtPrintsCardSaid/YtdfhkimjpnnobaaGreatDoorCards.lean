/-
  DERIVED. GIVEN WITH THE SEED: THE CARDS: each row of YtdfhkimjpnnobaaGreatDoorRows.lean that lists a variable, with what it lists TIED to the program's text (the seventh form; the later family's looks); each row that meets fmt, with fmt's text TOLD by the authors' own Lean function (tested against real Go, not proved from fmt's source: count such statements apart). THE CARD IS WHAT COUNTS. Prove the row's statement (the work); the ties are given (YtdfhkimjpnnobaaGreatDoorTie.lean); close each card by the builder's one call (the guide's Derived/Test/ToyasCard.lean, 'card_holds'). Laid BY PROGRAM, IN A SANDBOX (cutbox-door.mjs). By AI agents, Wed Nov 11 2026. No macro, syntax, notation, axiom, sorry.
-/
import Derived.Test.YtdfhkimjpnnobaaGreatDoorRows
import GoSem.ClaimSeven
namespace Go.Proofs.YtdfhkimjpnnobaaGreatDoor
namespace Rows

/-- THE TIED CARD OF 'quinarialaw07.DroughtFits'. -/
def droughtFitsCard : Claim7 := { stood := { row := droughtFitsRow, standIns := [], harness := (true, "4e9aa672c9bf708f9c491fa46765fdddbd1808e930503c84af5cdb0b0471980b"), looks := true }, kinds := [], alts := [], laidByText := true, laidKinds := [.data, .data, .data, .data, .pinned], laidTests := true, laidLooks := .later }
def DroughtFitsCardSaid : Prop := Claim7.holds Tryz.pinned (.plain (OpenSpec.ofChange droughtFitsSpec)) droughtFitsCard

/-- THE TIED CARD OF 'quinarialaw07.DroughtShares'. -/
def droughtSharesCard : Claim7 := { stood := { row := droughtSharesRow, standIns := [], harness := (true, "4e9aa672c9bf708f9c491fa46765fdddbd1808e930503c84af5cdb0b0471980b"), looks := true }, kinds := [], alts := [], laidByText := true, laidKinds := [.data, .data, .data, .data, .pinned], laidTests := true, laidLooks := .later }
def DroughtSharesCardSaid : Prop := Claim7.holds Tryz.pinned (.plain (OpenSpec.ofChange droughtSharesSpec)) droughtSharesCard

/-- THE TIED CARD OF 'quinarialaw07.DroughtPrints'. -/
def droughtPrintsCard : Claim7 := { stood := { row := droughtPrintsRow, standIns := [], harness := (true, "4e9aa672c9bf708f9c491fa46765fdddbd1808e930503c84af5cdb0b0471980b"), looks := true }, kinds := [], alts := [], laidByText := true, laidKinds := [.data, .data, .data, .data, .pinned], laidTests := true, laidLooks := .later }
def DroughtPrintsCardSaid : Prop := Claim7.holds Tryz.pinned (.plain (OpenSpec.ofChange droughtPrintsSpec)) droughtPrintsCard

/-- THE TIED CARD OF 'quinarialaw07.DroughtSpoilt'. -/
def droughtSpoiltCard : Claim7 := { stood := { row := droughtSpoiltRow, standIns := [], harness := (true, "4e9aa672c9bf708f9c491fa46765fdddbd1808e930503c84af5cdb0b0471980b"), looks := true }, kinds := [], alts := [], laidByText := true, laidKinds := [.data, .data, .data, .data, .pinned], laidTests := true, laidLooks := .later }
def DroughtSpoiltCardSaid : Prop := Claim7.holds Tryz.pinned (.plain (OpenSpec.ofChange droughtSpoiltSpec)) droughtSpoiltCard

/-- THE TIED CARD OF 'quinarialaw07.DroughtReads'. -/
def droughtReadsCard : Claim7 := { stood := { row := droughtReadsRow, standIns := [], harness := (true, "4e9aa672c9bf708f9c491fa46765fdddbd1808e930503c84af5cdb0b0471980b"), looks := true }, kinds := [], alts := [], laidByText := true, laidKinds := [.data, .data, .data, .data, .pinned], laidTests := true, laidLooks := .later }
def DroughtReadsCardSaid : Prop := Claim7.holds Tryz.pinned (.plain (OpenSpec.ofChange droughtReadsSpec)) droughtReadsCard

/-- THE SECOND FORM's CARD OF 'quinarialaw07.DroughtFits'. -/
def droughtFitsUptoCard : Claim7 := { stood := { row := droughtFitsUptoRow, standIns := [], harness := (true, "4e9aa672c9bf708f9c491fa46765fdddbd1808e930503c84af5cdb0b0471980b"), looks := true }, kinds := [], alts := [], laidByText := true, laidKinds := [.data, .data, .data, .data, .pinned], laidTests := true, laidLooks := .later }
def DroughtFitsUptoCardSaid : Prop := Claim7.holds Tryz.pinned (.plain (OpenSpec.upto droughtFitsSpec)) droughtFitsUptoCard

/-- THE SECOND FORM's CARD OF 'quinarialaw07.DroughtShares'. -/
def droughtSharesUptoCard : Claim7 := { stood := { row := droughtSharesUptoRow, standIns := [], harness := (true, "4e9aa672c9bf708f9c491fa46765fdddbd1808e930503c84af5cdb0b0471980b"), looks := true }, kinds := [], alts := [], laidByText := true, laidKinds := [.data, .data, .data, .data, .pinned], laidTests := true, laidLooks := .later }
def DroughtSharesUptoCardSaid : Prop := Claim7.holds Tryz.pinned (.plain (OpenSpec.upto droughtSharesSpec)) droughtSharesUptoCard

/-- THE SECOND FORM's CARD OF 'quinarialaw07.DroughtPrints'. -/
def droughtPrintsUptoCard : Claim7 := { stood := { row := droughtPrintsUptoRow, standIns := [], harness := (true, "4e9aa672c9bf708f9c491fa46765fdddbd1808e930503c84af5cdb0b0471980b"), looks := true }, kinds := [], alts := [], laidByText := true, laidKinds := [.data, .data, .data, .data, .pinned], laidTests := true, laidLooks := .later }
def DroughtPrintsUptoCardSaid : Prop := Claim7.holds Tryz.pinned (.plain (OpenSpec.upto droughtPrintsSpec)) droughtPrintsUptoCard

/-- THE SECOND FORM's CARD OF 'quinarialaw07.DroughtSpoilt'. -/
def droughtSpoiltUptoCard : Claim7 := { stood := { row := droughtSpoiltUptoRow, standIns := [], harness := (true, "4e9aa672c9bf708f9c491fa46765fdddbd1808e930503c84af5cdb0b0471980b"), looks := true }, kinds := [], alts := [], laidByText := true, laidKinds := [.data, .data, .data, .data, .pinned], laidTests := true, laidLooks := .later }
def DroughtSpoiltUptoCardSaid : Prop := Claim7.holds Tryz.pinned (.plain (OpenSpec.upto droughtSpoiltSpec)) droughtSpoiltUptoCard

/-- THE SECOND FORM's CARD OF 'quinarialaw07.DroughtReads'. -/
def droughtReadsUptoCard : Claim7 := { stood := { row := droughtReadsUptoRow, standIns := [], harness := (true, "4e9aa672c9bf708f9c491fa46765fdddbd1808e930503c84af5cdb0b0471980b"), looks := true }, kinds := [], alts := [], laidByText := true, laidKinds := [.data, .data, .data, .data, .pinned], laidTests := true, laidLooks := .later }
def DroughtReadsUptoCardSaid : Prop := Claim7.holds Tryz.pinned (.plain (OpenSpec.upto droughtReadsSpec)) droughtReadsUptoCard
end Rows
end Go.Proofs.YtdfhkimjpnnobaaGreatDoor
