/-
  DERIVED. GIVEN WITH THE SEED: THE CARDS: each row of YtgjgcgonibldmaaGreatDoorRows.lean that lists a variable, with what it lists TIED to the program's text (the seventh form; the later family's looks); each row that meets fmt, with fmt's text TOLD by the authors' own Lean function (tested against real Go, not proved from fmt's source: count such statements apart). THE CARD IS WHAT COUNTS. Prove the row's statement (the work); the ties are given (YtgjgcgonibldmaaGreatDoorTie.lean); close each card by the builder's one call (the guide's Derived/Test/ToyasCard.lean, 'card_holds'). Laid BY PROGRAM, IN A SANDBOX (cutbox-door.mjs). By AI agents, Wed Nov 11 2026. No macro, syntax, notation, axiom, sorry.
-/
import Derived.Test.YtgjgcgonibldmaaGreatDoorRows
import GoSem.ClaimSeven
namespace Go.Proofs.YtgjgcgonibldmaaGreatDoor
namespace Rows

/-- THE TIED CARD OF 'quinarialaw02.ChannelCarries'. -/
def channelCarriesCard : Claim7 := { stood := { row := channelCarriesRow, standIns := [], harness := (true, "47feae645136734dc7402bb5a3b1f2300875100c6fb71ec7df0df0422d4e9817"), looks := true }, kinds := [], alts := [], laidByText := true, laidKinds := [.data, .data, .data, .data, .pinned], laidTests := true, laidLooks := .later }
def ChannelCarriesCardSaid : Prop := Claim7.holds Tryz.pinned (.plain (OpenSpec.ofChange channelCarriesSpec)) channelCarriesCard

/-- THE TIED CARD OF 'quinarialaw02.ChannelPlans'. -/
def channelPlansCard : Claim7 := { stood := { row := channelPlansRow, standIns := [], harness := (true, "47feae645136734dc7402bb5a3b1f2300875100c6fb71ec7df0df0422d4e9817"), looks := true }, kinds := [], alts := [], laidByText := true, laidKinds := [.data, .data, .data, .data, .pinned], laidTests := true, laidLooks := .later }
def ChannelPlansCardSaid : Prop := Claim7.holds Tryz.pinned (.plain (OpenSpec.ofChange channelPlansSpec)) channelPlansCard

/-- THE TIED CARD OF 'quinarialaw02.ChannelBetter'. -/
def channelBetterCard : Claim7 := { stood := { row := channelBetterRow, standIns := [], harness := (true, "47feae645136734dc7402bb5a3b1f2300875100c6fb71ec7df0df0422d4e9817"), looks := true }, kinds := [], alts := [], laidByText := true, laidKinds := [.data, .data, .data, .data, .pinned], laidTests := true, laidLooks := .later }
def ChannelBetterCardSaid : Prop := Claim7.holds Tryz.pinned (.plain (OpenSpec.ofChange channelBetterSpec)) channelBetterCard

/-- THE SECOND FORM's CARD OF 'quinarialaw02.ChannelCarries'. -/
def channelCarriesUptoCard : Claim7 := { stood := { row := channelCarriesUptoRow, standIns := [], harness := (true, "47feae645136734dc7402bb5a3b1f2300875100c6fb71ec7df0df0422d4e9817"), looks := true }, kinds := [], alts := [], laidByText := true, laidKinds := [.data, .data, .data, .data, .pinned], laidTests := true, laidLooks := .later }
def ChannelCarriesUptoCardSaid : Prop := Claim7.holds Tryz.pinned (.plain (OpenSpec.upto channelCarriesSpec)) channelCarriesUptoCard

/-- THE SECOND FORM's CARD OF 'quinarialaw02.ChannelPlans'. -/
def channelPlansUptoCard : Claim7 := { stood := { row := channelPlansUptoRow, standIns := [], harness := (true, "47feae645136734dc7402bb5a3b1f2300875100c6fb71ec7df0df0422d4e9817"), looks := true }, kinds := [], alts := [], laidByText := true, laidKinds := [.data, .data, .data, .data, .pinned], laidTests := true, laidLooks := .later }
def ChannelPlansUptoCardSaid : Prop := Claim7.holds Tryz.pinned (.plain (OpenSpec.upto channelPlansSpec)) channelPlansUptoCard

/-- THE SECOND FORM's CARD OF 'quinarialaw02.ChannelBetter'. -/
def channelBetterUptoCard : Claim7 := { stood := { row := channelBetterUptoRow, standIns := [], harness := (true, "47feae645136734dc7402bb5a3b1f2300875100c6fb71ec7df0df0422d4e9817"), looks := true }, kinds := [], alts := [], laidByText := true, laidKinds := [.data, .data, .data, .data, .pinned], laidTests := true, laidLooks := .later }
def ChannelBetterUptoCardSaid : Prop := Claim7.holds Tryz.pinned (.plain (OpenSpec.upto channelBetterSpec)) channelBetterUptoCard
end Rows
end Go.Proofs.YtgjgcgonibldmaaGreatDoor
