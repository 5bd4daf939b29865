/-
  DERIVED. GIVEN WITH THE SEED: THE CARDS: each row of YtnlbofaiihlniaaGreatDoorRows.lean that lists a variable, with what it lists TIED to the program's text (the seventh form; the later family's looks); each row that meets fmt, with fmt's text TOLD by the authors' own Lean function (tested against real Go, not proved from fmt's source: count such statements apart). THE CARD IS WHAT COUNTS. Prove the row's statement (the work); the ties are given (YtnlbofaiihlniaaGreatDoorTie.lean); close each card by the builder's one call (the guide's Derived/Test/ToyasCard.lean, 'card_holds'). Laid BY PROGRAM, IN A SANDBOX (cutbox-door.mjs). By AI agents, Wed Nov 11 2026. No macro, syntax, notation, axiom, sorry.
-/
import Derived.Test.YtnlbofaiihlniaaGreatDoorRows
import GoSem.ClaimSeven
namespace Go.Proofs.YtnlbofaiihlniaaGreatDoor
namespace Rows

/-- THE TIED CARD OF 'quinarialaw02.ChannelCarries'. -/
def channelCarriesCard : Claim7 := { stood := { row := channelCarriesRow, standIns := [], harness := (true, "dd7948b7f1981bc219377ace6ecea2cc4daefeb3c368e16be1f78e52dee1c9f4"), looks := true }, kinds := [], alts := [], laidByText := true, laidKinds := [.data, .data, .data, .data, .pinned], laidTests := true, laidLooks := .later }
def ChannelCarriesCardSaid : Prop := Claim7.holds Tryz.pinned (.plain (OpenSpec.ofChange channelCarriesSpec)) channelCarriesCard

/-- THE TIED CARD OF 'quinarialaw02.ChannelPrints'. -/
def channelPrintsCard : Claim7 := { stood := { row := channelPrintsRow, standIns := [], harness := (true, "dd7948b7f1981bc219377ace6ecea2cc4daefeb3c368e16be1f78e52dee1c9f4"), looks := true }, kinds := [], alts := [], laidByText := true, laidKinds := [.data, .data, .data, .data, .pinned], laidTests := true, laidLooks := .later }
def ChannelPrintsCardSaid : Prop := Claim7.holds Tryz.pinned (.plain (OpenSpec.ofChange channelPrintsSpec)) channelPrintsCard

/-- THE TIED CARD OF 'quinarialaw02.ChannelSpoilt'. -/
def channelSpoiltCard : Claim7 := { stood := { row := channelSpoiltRow, standIns := [], harness := (true, "dd7948b7f1981bc219377ace6ecea2cc4daefeb3c368e16be1f78e52dee1c9f4"), looks := true }, kinds := [], alts := [], laidByText := true, laidKinds := [.data, .data, .data, .data, .pinned], laidTests := true, laidLooks := .later }
def ChannelSpoiltCardSaid : Prop := Claim7.holds Tryz.pinned (.plain (OpenSpec.ofChange channelSpoiltSpec)) channelSpoiltCard

/-- THE SECOND FORM's CARD OF 'quinarialaw02.ChannelCarries'. -/
def channelCarriesUptoCard : Claim7 := { stood := { row := channelCarriesUptoRow, standIns := [], harness := (true, "dd7948b7f1981bc219377ace6ecea2cc4daefeb3c368e16be1f78e52dee1c9f4"), looks := true }, kinds := [], alts := [], laidByText := true, laidKinds := [.data, .data, .data, .data, .pinned], laidTests := true, laidLooks := .later }
def ChannelCarriesUptoCardSaid : Prop := Claim7.holds Tryz.pinned (.plain (OpenSpec.upto channelCarriesSpec)) channelCarriesUptoCard

/-- THE SECOND FORM's CARD OF 'quinarialaw02.ChannelPrints'. -/
def channelPrintsUptoCard : Claim7 := { stood := { row := channelPrintsUptoRow, standIns := [], harness := (true, "dd7948b7f1981bc219377ace6ecea2cc4daefeb3c368e16be1f78e52dee1c9f4"), looks := true }, kinds := [], alts := [], laidByText := true, laidKinds := [.data, .data, .data, .data, .pinned], laidTests := true, laidLooks := .later }
def ChannelPrintsUptoCardSaid : Prop := Claim7.holds Tryz.pinned (.plain (OpenSpec.upto channelPrintsSpec)) channelPrintsUptoCard

/-- THE SECOND FORM's CARD OF 'quinarialaw02.ChannelSpoilt'. -/
def channelSpoiltUptoCard : Claim7 := { stood := { row := channelSpoiltUptoRow, standIns := [], harness := (true, "dd7948b7f1981bc219377ace6ecea2cc4daefeb3c368e16be1f78e52dee1c9f4"), looks := true }, kinds := [], alts := [], laidByText := true, laidKinds := [.data, .data, .data, .data, .pinned], laidTests := true, laidLooks := .later }
def ChannelSpoiltUptoCardSaid : Prop := Claim7.holds Tryz.pinned (.plain (OpenSpec.upto channelSpoiltSpec)) channelSpoiltUptoCard
end Rows
end Go.Proofs.YtnlbofaiihlniaaGreatDoor
