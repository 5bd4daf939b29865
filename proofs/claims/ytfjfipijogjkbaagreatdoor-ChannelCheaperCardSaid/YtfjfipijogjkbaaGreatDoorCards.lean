/-
  DERIVED. GIVEN WITH THE SEED: THE CARDS: each row of YtfjfipijogjkbaaGreatDoorRows.lean that lists a variable, with what it lists TIED to the program's text (the seventh form; the later family's looks); each row that meets fmt, with fmt's text TOLD by the authors' own Lean function (tested against real Go, not proved from fmt's source: count such statements apart). THE CARD IS WHAT COUNTS. Prove the row's statement (the work); the ties are given (YtfjfipijogjkbaaGreatDoorTie.lean); close each card by the builder's one call (the guide's Derived/Test/ToyasCard.lean, 'card_holds'). Laid BY PROGRAM, IN A SANDBOX (cutbox-door.mjs). By AI agents, Wed Nov 11 2026. No macro, syntax, notation, axiom, sorry.
-/
import Derived.Test.YtfjfipijogjkbaaGreatDoorRows
import GoSem.ClaimSeven
namespace Go.Proofs.YtfjfipijogjkbaaGreatDoor
namespace Rows

/-- THE TIED CARD OF 'quinarialaw02.ChannelCarries'. -/
def channelCarriesCard : Claim7 := { stood := { row := channelCarriesRow, standIns := [], harness := (true, "1506d26a0f60c33fb576bc2b41af569fda77dac288cdb9d6378bd4a40c7761f5"), looks := true }, kinds := [], alts := [], laidByText := true, laidKinds := [.data, .data, .data, .data, .pinned], laidTests := true, laidLooks := .later }
def ChannelCarriesCardSaid : Prop := Claim7.holds Tryz.pinned (.plain (OpenSpec.ofChange channelCarriesSpec)) channelCarriesCard

/-- THE TIED CARD OF 'quinarialaw02.ChannelBorne'. -/
def channelBorneCard : Claim7 := { stood := { row := channelBorneRow, standIns := [], harness := (true, "1506d26a0f60c33fb576bc2b41af569fda77dac288cdb9d6378bd4a40c7761f5"), looks := true }, kinds := [], alts := [], laidByText := true, laidKinds := [.data, .data, .data, .data, .pinned], laidTests := true, laidLooks := .later }
def ChannelBorneCardSaid : Prop := Claim7.holds Tryz.pinned (.plain (OpenSpec.ofChange channelBorneSpec)) channelBorneCard

/-- THE TIED CARD OF 'quinarialaw02.ChannelPipes'. -/
def channelPipesCard : Claim7 := { stood := { row := channelPipesRow, standIns := [], harness := (true, "1506d26a0f60c33fb576bc2b41af569fda77dac288cdb9d6378bd4a40c7761f5"), looks := true }, kinds := [], alts := [], laidByText := true, laidKinds := [.data, .data, .data, .data, .pinned], laidTests := true, laidLooks := .later }
def ChannelPipesCardSaid : Prop := Claim7.holds Tryz.pinned (.plain (OpenSpec.ofChange channelPipesSpec)) channelPipesCard

/-- THE TIED CARD OF 'quinarialaw02.ChannelCheaper'. -/
def channelCheaperCard : Claim7 := { stood := { row := channelCheaperRow, standIns := [], harness := (true, "1506d26a0f60c33fb576bc2b41af569fda77dac288cdb9d6378bd4a40c7761f5"), looks := true }, kinds := [], alts := [], laidByText := true, laidKinds := [.data, .data, .data, .data, .pinned], laidTests := true, laidLooks := .later }
def ChannelCheaperCardSaid : Prop := Claim7.holds Tryz.pinned (.plain (OpenSpec.ofChange channelCheaperSpec)) channelCheaperCard

/-- THE TIED CARD OF 'quinarialaw02.ChannelMore'. -/
def channelMoreCard : Claim7 := { stood := { row := channelMoreRow, standIns := [], harness := (true, "1506d26a0f60c33fb576bc2b41af569fda77dac288cdb9d6378bd4a40c7761f5"), looks := true }, kinds := [], alts := [], laidByText := true, laidKinds := [.data, .data, .data, .data, .pinned], laidTests := true, laidLooks := .later }
def ChannelMoreCardSaid : Prop := Claim7.holds Tryz.pinned (.plain (OpenSpec.ofChange channelMoreSpec)) channelMoreCard

/-- THE SECOND FORM's CARD OF 'quinarialaw02.ChannelCarries'. -/
def channelCarriesUptoCard : Claim7 := { stood := { row := channelCarriesUptoRow, standIns := [], harness := (true, "1506d26a0f60c33fb576bc2b41af569fda77dac288cdb9d6378bd4a40c7761f5"), looks := true }, kinds := [], alts := [], laidByText := true, laidKinds := [.data, .data, .data, .data, .pinned], laidTests := true, laidLooks := .later }
def ChannelCarriesUptoCardSaid : Prop := Claim7.holds Tryz.pinned (.plain (OpenSpec.upto channelCarriesSpec)) channelCarriesUptoCard

/-- THE SECOND FORM's CARD OF 'quinarialaw02.ChannelBorne'. -/
def channelBorneUptoCard : Claim7 := { stood := { row := channelBorneUptoRow, standIns := [], harness := (true, "1506d26a0f60c33fb576bc2b41af569fda77dac288cdb9d6378bd4a40c7761f5"), looks := true }, kinds := [], alts := [], laidByText := true, laidKinds := [.data, .data, .data, .data, .pinned], laidTests := true, laidLooks := .later }
def ChannelBorneUptoCardSaid : Prop := Claim7.holds Tryz.pinned (.plain (OpenSpec.upto channelBorneSpec)) channelBorneUptoCard

/-- THE SECOND FORM's CARD OF 'quinarialaw02.ChannelPipes'. -/
def channelPipesUptoCard : Claim7 := { stood := { row := channelPipesUptoRow, standIns := [], harness := (true, "1506d26a0f60c33fb576bc2b41af569fda77dac288cdb9d6378bd4a40c7761f5"), looks := true }, kinds := [], alts := [], laidByText := true, laidKinds := [.data, .data, .data, .data, .pinned], laidTests := true, laidLooks := .later }
def ChannelPipesUptoCardSaid : Prop := Claim7.holds Tryz.pinned (.plain (OpenSpec.upto channelPipesSpec)) channelPipesUptoCard

/-- THE SECOND FORM's CARD OF 'quinarialaw02.ChannelCheaper'. -/
def channelCheaperUptoCard : Claim7 := { stood := { row := channelCheaperUptoRow, standIns := [], harness := (true, "1506d26a0f60c33fb576bc2b41af569fda77dac288cdb9d6378bd4a40c7761f5"), looks := true }, kinds := [], alts := [], laidByText := true, laidKinds := [.data, .data, .data, .data, .pinned], laidTests := true, laidLooks := .later }
def ChannelCheaperUptoCardSaid : Prop := Claim7.holds Tryz.pinned (.plain (OpenSpec.upto channelCheaperSpec)) channelCheaperUptoCard

/-- THE SECOND FORM's CARD OF 'quinarialaw02.ChannelMore'. -/
def channelMoreUptoCard : Claim7 := { stood := { row := channelMoreUptoRow, standIns := [], harness := (true, "1506d26a0f60c33fb576bc2b41af569fda77dac288cdb9d6378bd4a40c7761f5"), looks := true }, kinds := [], alts := [], laidByText := true, laidKinds := [.data, .data, .data, .data, .pinned], laidTests := true, laidLooks := .later }
def ChannelMoreUptoCardSaid : Prop := Claim7.holds Tryz.pinned (.plain (OpenSpec.upto channelMoreSpec)) channelMoreUptoCard
end Rows
end Go.Proofs.YtfjfipijogjkbaaGreatDoor
