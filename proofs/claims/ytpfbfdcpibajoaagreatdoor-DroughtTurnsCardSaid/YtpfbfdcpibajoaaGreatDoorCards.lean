/-
  DERIVED. GIVEN WITH THE SEED: THE CARDS: each row of YtpfbfdcpibajoaaGreatDoorRows.lean that lists a variable, with what it lists TIED to the program's text (the seventh form; the later family's looks); each row that meets fmt, with fmt's text TOLD by the authors' own Lean function (tested against real Go, not proved from fmt's source: count such statements apart). THE CARD IS WHAT COUNTS. Prove the row's statement (the work); the ties are given (YtpfbfdcpibajoaaGreatDoorTie.lean); close each card by the builder's one call (the guide's Derived/Test/ToyasCard.lean, 'card_holds'). Laid BY PROGRAM, IN A SANDBOX (cutbox-door.mjs). By AI agents, Wed Nov 11 2026. No macro, syntax, notation, axiom, sorry.
-/
import Derived.Test.YtpfbfdcpibajoaaGreatDoorRows
import GoSem.ClaimSeven
namespace Go.Proofs.YtpfbfdcpibajoaaGreatDoor
namespace Rows

/-- THE TIED CARD OF 'quinarialaw07.DroughtFits'. -/
def droughtFitsCard : Claim7 := { stood := { row := droughtFitsRow, standIns := [], harness := (true, "4dcb92abeae176e3b737d9aced86d2e60fe2344eab3fb058c8c025f517a414b8"), looks := true }, kinds := [], alts := [], laidByText := true, laidKinds := [.data, .data, .data, .data, .pinned], laidTests := true, laidLooks := .later }
def DroughtFitsCardSaid : Prop := Claim7.holds Tryz.pinned (.plain (OpenSpec.ofChange droughtFitsSpec)) droughtFitsCard

/-- THE TIED CARD OF 'quinarialaw07.DroughtShares'. -/
def droughtSharesCard : Claim7 := { stood := { row := droughtSharesRow, standIns := [], harness := (true, "4dcb92abeae176e3b737d9aced86d2e60fe2344eab3fb058c8c025f517a414b8"), looks := true }, kinds := [], alts := [], laidByText := true, laidKinds := [.data, .data, .data, .data, .pinned], laidTests := true, laidLooks := .later }
def DroughtSharesCardSaid : Prop := Claim7.holds Tryz.pinned (.plain (OpenSpec.ofChange droughtSharesSpec)) droughtSharesCard

/-- THE TIED CARD OF 'quinarialaw07.DroughtWhole'. -/
def droughtWholeCard : Claim7 := { stood := { row := droughtWholeRow, standIns := [], harness := (true, "4dcb92abeae176e3b737d9aced86d2e60fe2344eab3fb058c8c025f517a414b8"), looks := true }, kinds := [], alts := [], laidByText := true, laidKinds := [.data, .data, .data, .data, .pinned], laidTests := true, laidLooks := .later }
def DroughtWholeCardSaid : Prop := Claim7.holds Tryz.pinned (.plain (OpenSpec.ofChange droughtWholeSpec)) droughtWholeCard

/-- THE TIED CARD OF 'quinarialaw07.DroughtCuts'. -/
def droughtCutsCard : Claim7 := { stood := { row := droughtCutsRow, standIns := [], harness := (true, "4dcb92abeae176e3b737d9aced86d2e60fe2344eab3fb058c8c025f517a414b8"), looks := true }, kinds := [], alts := [], laidByText := true, laidKinds := [.data, .data, .data, .data, .pinned], laidTests := true, laidLooks := .later }
def DroughtCutsCardSaid : Prop := Claim7.holds Tryz.pinned (.plain (OpenSpec.ofChange droughtCutsSpec)) droughtCutsCard

/-- THE TIED CARD OF 'quinarialaw07.DroughtWidened'. -/
def droughtWidenedCard : Claim7 := { stood := { row := droughtWidenedRow, standIns := [], harness := (true, "4dcb92abeae176e3b737d9aced86d2e60fe2344eab3fb058c8c025f517a414b8"), looks := true }, kinds := [], alts := [], laidByText := true, laidKinds := [.data, .data, .data, .data, .pinned], laidTests := true, laidLooks := .later }
def DroughtWidenedCardSaid : Prop := Claim7.holds Tryz.pinned (.plain (OpenSpec.ofChange droughtWidenedSpec)) droughtWidenedCard

/-- THE TIED CARD OF 'quinarialaw07.DroughtReads'. -/
def droughtReadsCard : Claim7 := { stood := { row := droughtReadsRow, standIns := [], harness := (true, "4dcb92abeae176e3b737d9aced86d2e60fe2344eab3fb058c8c025f517a414b8"), looks := true }, kinds := [], alts := [], laidByText := true, laidKinds := [.data, .data, .data, .data, .pinned], laidTests := true, laidLooks := .later }
def DroughtReadsCardSaid : Prop := Claim7.holds Tryz.pinned (.plain (OpenSpec.ofChange droughtReadsSpec)) droughtReadsCard

/-- THE TIED CARD OF 'quinarialaw07.DroughtTurns'. -/
def droughtTurnsCard : Claim7 := { stood := { row := droughtTurnsRow, standIns := [], harness := (true, "4dcb92abeae176e3b737d9aced86d2e60fe2344eab3fb058c8c025f517a414b8"), looks := true }, kinds := [], alts := [], laidByText := true, laidKinds := [.data, .data, .data, .data, .pinned], laidTests := true, laidLooks := .later }
def DroughtTurnsCardSaid : Prop := Claim7.holds Tryz.pinned (.plain (OpenSpec.ofChange droughtTurnsSpec)) droughtTurnsCard

/-- THE TIED CARD OF 'quinarialaw07.DroughtTurned'. -/
def droughtTurnedCard : Claim7 := { stood := { row := droughtTurnedRow, standIns := [], harness := (true, "4dcb92abeae176e3b737d9aced86d2e60fe2344eab3fb058c8c025f517a414b8"), looks := true }, kinds := [], alts := [], laidByText := true, laidKinds := [.data, .data, .data, .data, .pinned], laidTests := true, laidLooks := .later }
def DroughtTurnedCardSaid : Prop := Claim7.holds Tryz.pinned (.plain (OpenSpec.ofChange droughtTurnedSpec)) droughtTurnedCard

/-- THE TIED CARD OF 'quinarialaw07.DroughtSwaps'. -/
def droughtSwapsCard : Claim7 := { stood := { row := droughtSwapsRow, standIns := [], harness := (true, "4dcb92abeae176e3b737d9aced86d2e60fe2344eab3fb058c8c025f517a414b8"), looks := true }, kinds := [], alts := [], laidByText := true, laidKinds := [.data, .data, .data, .data, .pinned], laidTests := true, laidLooks := .later }
def DroughtSwapsCardSaid : Prop := Claim7.holds Tryz.pinned (.plain (OpenSpec.ofChange droughtSwapsSpec)) droughtSwapsCard

/-- THE TIED CARD OF 'quinarialaw07.DroughtSwapped'. -/
def droughtSwappedCard : Claim7 := { stood := { row := droughtSwappedRow, standIns := [], harness := (true, "4dcb92abeae176e3b737d9aced86d2e60fe2344eab3fb058c8c025f517a414b8"), looks := true }, kinds := [], alts := [], laidByText := true, laidKinds := [.data, .data, .data, .data, .pinned], laidTests := true, laidLooks := .later }
def DroughtSwappedCardSaid : Prop := Claim7.holds Tryz.pinned (.plain (OpenSpec.ofChange droughtSwappedSpec)) droughtSwappedCard

/-- THE SECOND FORM's CARD OF 'quinarialaw07.DroughtFits'. -/
def droughtFitsUptoCard : Claim7 := { stood := { row := droughtFitsUptoRow, standIns := [], harness := (true, "4dcb92abeae176e3b737d9aced86d2e60fe2344eab3fb058c8c025f517a414b8"), looks := true }, kinds := [], alts := [], laidByText := true, laidKinds := [.data, .data, .data, .data, .pinned], laidTests := true, laidLooks := .later }
def DroughtFitsUptoCardSaid : Prop := Claim7.holds Tryz.pinned (.plain (OpenSpec.upto droughtFitsSpec)) droughtFitsUptoCard

/-- THE SECOND FORM's CARD OF 'quinarialaw07.DroughtShares'. -/
def droughtSharesUptoCard : Claim7 := { stood := { row := droughtSharesUptoRow, standIns := [], harness := (true, "4dcb92abeae176e3b737d9aced86d2e60fe2344eab3fb058c8c025f517a414b8"), looks := true }, kinds := [], alts := [], laidByText := true, laidKinds := [.data, .data, .data, .data, .pinned], laidTests := true, laidLooks := .later }
def DroughtSharesUptoCardSaid : Prop := Claim7.holds Tryz.pinned (.plain (OpenSpec.upto droughtSharesSpec)) droughtSharesUptoCard

/-- THE SECOND FORM's CARD OF 'quinarialaw07.DroughtWhole'. -/
def droughtWholeUptoCard : Claim7 := { stood := { row := droughtWholeUptoRow, standIns := [], harness := (true, "4dcb92abeae176e3b737d9aced86d2e60fe2344eab3fb058c8c025f517a414b8"), looks := true }, kinds := [], alts := [], laidByText := true, laidKinds := [.data, .data, .data, .data, .pinned], laidTests := true, laidLooks := .later }
def DroughtWholeUptoCardSaid : Prop := Claim7.holds Tryz.pinned (.plain (OpenSpec.upto droughtWholeSpec)) droughtWholeUptoCard

/-- THE SECOND FORM's CARD OF 'quinarialaw07.DroughtCuts'. -/
def droughtCutsUptoCard : Claim7 := { stood := { row := droughtCutsUptoRow, standIns := [], harness := (true, "4dcb92abeae176e3b737d9aced86d2e60fe2344eab3fb058c8c025f517a414b8"), looks := true }, kinds := [], alts := [], laidByText := true, laidKinds := [.data, .data, .data, .data, .pinned], laidTests := true, laidLooks := .later }
def DroughtCutsUptoCardSaid : Prop := Claim7.holds Tryz.pinned (.plain (OpenSpec.upto droughtCutsSpec)) droughtCutsUptoCard

/-- THE SECOND FORM's CARD OF 'quinarialaw07.DroughtWidened'. -/
def droughtWidenedUptoCard : Claim7 := { stood := { row := droughtWidenedUptoRow, standIns := [], harness := (true, "4dcb92abeae176e3b737d9aced86d2e60fe2344eab3fb058c8c025f517a414b8"), looks := true }, kinds := [], alts := [], laidByText := true, laidKinds := [.data, .data, .data, .data, .pinned], laidTests := true, laidLooks := .later }
def DroughtWidenedUptoCardSaid : Prop := Claim7.holds Tryz.pinned (.plain (OpenSpec.upto droughtWidenedSpec)) droughtWidenedUptoCard

/-- THE SECOND FORM's CARD OF 'quinarialaw07.DroughtReads'. -/
def droughtReadsUptoCard : Claim7 := { stood := { row := droughtReadsUptoRow, standIns := [], harness := (true, "4dcb92abeae176e3b737d9aced86d2e60fe2344eab3fb058c8c025f517a414b8"), looks := true }, kinds := [], alts := [], laidByText := true, laidKinds := [.data, .data, .data, .data, .pinned], laidTests := true, laidLooks := .later }
def DroughtReadsUptoCardSaid : Prop := Claim7.holds Tryz.pinned (.plain (OpenSpec.upto droughtReadsSpec)) droughtReadsUptoCard

/-- THE SECOND FORM's CARD OF 'quinarialaw07.DroughtTurns'. -/
def droughtTurnsUptoCard : Claim7 := { stood := { row := droughtTurnsUptoRow, standIns := [], harness := (true, "4dcb92abeae176e3b737d9aced86d2e60fe2344eab3fb058c8c025f517a414b8"), looks := true }, kinds := [], alts := [], laidByText := true, laidKinds := [.data, .data, .data, .data, .pinned], laidTests := true, laidLooks := .later }
def DroughtTurnsUptoCardSaid : Prop := Claim7.holds Tryz.pinned (.plain (OpenSpec.upto droughtTurnsSpec)) droughtTurnsUptoCard

/-- THE SECOND FORM's CARD OF 'quinarialaw07.DroughtTurned'. -/
def droughtTurnedUptoCard : Claim7 := { stood := { row := droughtTurnedUptoRow, standIns := [], harness := (true, "4dcb92abeae176e3b737d9aced86d2e60fe2344eab3fb058c8c025f517a414b8"), looks := true }, kinds := [], alts := [], laidByText := true, laidKinds := [.data, .data, .data, .data, .pinned], laidTests := true, laidLooks := .later }
def DroughtTurnedUptoCardSaid : Prop := Claim7.holds Tryz.pinned (.plain (OpenSpec.upto droughtTurnedSpec)) droughtTurnedUptoCard

/-- THE SECOND FORM's CARD OF 'quinarialaw07.DroughtSwaps'. -/
def droughtSwapsUptoCard : Claim7 := { stood := { row := droughtSwapsUptoRow, standIns := [], harness := (true, "4dcb92abeae176e3b737d9aced86d2e60fe2344eab3fb058c8c025f517a414b8"), looks := true }, kinds := [], alts := [], laidByText := true, laidKinds := [.data, .data, .data, .data, .pinned], laidTests := true, laidLooks := .later }
def DroughtSwapsUptoCardSaid : Prop := Claim7.holds Tryz.pinned (.plain (OpenSpec.upto droughtSwapsSpec)) droughtSwapsUptoCard

/-- THE SECOND FORM's CARD OF 'quinarialaw07.DroughtSwapped'. -/
def droughtSwappedUptoCard : Claim7 := { stood := { row := droughtSwappedUptoRow, standIns := [], harness := (true, "4dcb92abeae176e3b737d9aced86d2e60fe2344eab3fb058c8c025f517a414b8"), looks := true }, kinds := [], alts := [], laidByText := true, laidKinds := [.data, .data, .data, .data, .pinned], laidTests := true, laidLooks := .later }
def DroughtSwappedUptoCardSaid : Prop := Claim7.holds Tryz.pinned (.plain (OpenSpec.upto droughtSwappedSpec)) droughtSwappedUptoCard
end Rows
end Go.Proofs.YtpfbfdcpibajoaaGreatDoor
