/-
  DERIVED. GIVEN WITH THE SEED: THE CARDS: each row of YtalnemafmklelaaGreatDoorRows.lean that lists a variable, with what it lists TIED to the program's text (the seventh form; the later family's looks); each row that meets fmt, with fmt's text TOLD by the authors' own Lean function (tested against real Go, not proved from fmt's source: count such statements apart). THE CARD IS WHAT COUNTS. Prove the row's statement (the work); the ties are given (YtalnemafmklelaaGreatDoorTie.lean); close each card by the builder's one call (the guide's Derived/Test/ToyasCard.lean, 'card_holds'). Laid BY PROGRAM, IN A SANDBOX (cutbox-door.mjs). By AI agents, Wed Nov 11 2026. No macro, syntax, notation, axiom, sorry.
-/
import Derived.Test.YtalnemafmklelaaGreatDoorRows
import GoSem.ClaimSeven
namespace Go.Proofs.YtalnemafmklelaaGreatDoor
namespace Rows

/-- THE TIED CARD OF 'quinarialaw02.ChannelCarries'. -/
def channelCarriesCard : Claim7 := { stood := { row := channelCarriesRow, standIns := [], harness := (true, "d78a54d5d51cf96cfbf60f43de404bdf384c77fb2ebd75421d8771455adfc882"), looks := true }, kinds := [], alts := [], laidByText := true, laidKinds := [.data, .data, .data, .data, .pinned], laidTests := true, laidLooks := .later }
def ChannelCarriesCardSaid : Prop := Claim7.holds Tryz.pinned (.plain (OpenSpec.ofChange channelCarriesSpec)) channelCarriesCard

/-- THE TIED CARD OF 'quinarialaw02.ChannelTrue'. -/
def channelTrueCard : Claim7 := { stood := { row := channelTrueRow, standIns := [], harness := (true, "d78a54d5d51cf96cfbf60f43de404bdf384c77fb2ebd75421d8771455adfc882"), looks := true }, kinds := [], alts := [], laidByText := true, laidKinds := [.data, .data, .data, .data, .pinned], laidTests := true, laidLooks := .later }
def ChannelTrueCardSaid : Prop := Claim7.holds Tryz.pinned (.plain (OpenSpec.ofChange channelTrueSpec)) channelTrueCard

/-- THE TIED CARD OF 'quinarialaw02.ChannelLines'. -/
def channelLinesCard : Claim7 := { stood := { row := channelLinesRow, standIns := [], harness := (true, "d78a54d5d51cf96cfbf60f43de404bdf384c77fb2ebd75421d8771455adfc882"), looks := true }, kinds := [], alts := [], laidByText := true, laidKinds := [.data, .data, .data, .data, .pinned], laidTests := true, laidLooks := .later }
def ChannelLinesCardSaid : Prop := Claim7.holds Tryz.pinned (.plain (OpenSpec.ofChange channelLinesSpec)) channelLinesCard

/-- THE TIED CARD OF 'quinarialaw02.ChannelNarrow'. -/
def channelNarrowCard : Claim7 := { stood := { row := channelNarrowRow, standIns := [], harness := (true, "d78a54d5d51cf96cfbf60f43de404bdf384c77fb2ebd75421d8771455adfc882"), looks := true }, kinds := [], alts := [], laidByText := true, laidKinds := [.data, .data, .data, .data, .pinned], laidTests := true, laidLooks := .later }
def ChannelNarrowCardSaid : Prop := Claim7.holds Tryz.pinned (.plain (OpenSpec.ofChange channelNarrowSpec)) channelNarrowCard

/-- THE TIED CARD OF 'quinarialaw02.ChannelLatests'. -/
def channelLatestsCard : Claim7 := { stood := { row := channelLatestsRow, standIns := [], harness := (true, "d78a54d5d51cf96cfbf60f43de404bdf384c77fb2ebd75421d8771455adfc882"), looks := true }, kinds := [], alts := [], laidByText := true, laidKinds := [.data, .data, .data, .data, .pinned], laidTests := true, laidLooks := .later }
def ChannelLatestsCardSaid : Prop := Claim7.holds Tryz.pinned (.plain (OpenSpec.ofChange channelLatestsSpec)) channelLatestsCard

/-- THE TIED CARD OF 'quinarialaw02.ChannelLast'. -/
def channelLastCard : Claim7 := { stood := { row := channelLastRow, standIns := [], harness := (true, "d78a54d5d51cf96cfbf60f43de404bdf384c77fb2ebd75421d8771455adfc882"), looks := true }, kinds := [], alts := [], laidByText := true, laidKinds := [.data, .data, .data, .data, .pinned], laidTests := true, laidLooks := .later }
def ChannelLastCardSaid : Prop := Claim7.holds Tryz.pinned (.plain (OpenSpec.ofChange channelLastSpec)) channelLastCard

/-- THE TIED CARD OF 'quinarialaw02.ChannelLimes'. -/
def channelLimesCard : Claim7 := { stood := { row := channelLimesRow, standIns := [], harness := (true, "d78a54d5d51cf96cfbf60f43de404bdf384c77fb2ebd75421d8771455adfc882"), looks := true }, kinds := [], alts := [], laidByText := true, laidKinds := [.data, .data, .data, .data, .pinned], laidTests := true, laidLooks := .later }
def ChannelLimesCardSaid : Prop := Claim7.holds Tryz.pinned (.plain (OpenSpec.ofChange channelLimesSpec)) channelLimesCard

/-- THE TIED CARD OF 'quinarialaw02.ChannelProven'. -/
def channelProvenCard : Claim7 := { stood := { row := channelProvenRow, standIns := [], harness := (true, "d78a54d5d51cf96cfbf60f43de404bdf384c77fb2ebd75421d8771455adfc882"), looks := true }, kinds := [], alts := [], laidByText := true, laidKinds := [.data, .data, .data, .data, .pinned], laidTests := true, laidLooks := .later }
def ChannelProvenCardSaid : Prop := Claim7.holds Tryz.pinned (.plain (OpenSpec.ofChange channelProvenSpec)) channelProvenCard

/-- THE TIED CARD OF 'quinarialaw02.ChannelPressures'. -/
def channelPressuresCard : Claim7 := { stood := { row := channelPressuresRow, standIns := [], harness := (true, "d78a54d5d51cf96cfbf60f43de404bdf384c77fb2ebd75421d8771455adfc882"), looks := true }, kinds := [], alts := [], laidByText := true, laidKinds := [.data, .data, .data, .data, .pinned], laidTests := true, laidLooks := .later }
def ChannelPressuresCardSaid : Prop := Claim7.holds Tryz.pinned (.plain (OpenSpec.ofChange channelPressuresSpec)) channelPressuresCard

/-- THE TIED CARD OF 'quinarialaw02.ChannelHeights'. -/
def channelHeightsCard : Claim7 := { stood := { row := channelHeightsRow, standIns := [], harness := (true, "d78a54d5d51cf96cfbf60f43de404bdf384c77fb2ebd75421d8771455adfc882"), looks := true }, kinds := [], alts := [], laidByText := true, laidKinds := [.data, .data, .data, .data, .pinned], laidTests := true, laidLooks := .later }
def ChannelHeightsCardSaid : Prop := Claim7.holds Tryz.pinned (.plain (OpenSpec.ofChange channelHeightsSpec)) channelHeightsCard

/-- THE TIED CARD OF 'quinarialaw02.ChannelBursts'. -/
def channelBurstsCard : Claim7 := { stood := { row := channelBurstsRow, standIns := [], harness := (true, "d78a54d5d51cf96cfbf60f43de404bdf384c77fb2ebd75421d8771455adfc882"), looks := true }, kinds := [], alts := [], laidByText := true, laidKinds := [.data, .data, .data, .data, .pinned], laidTests := true, laidLooks := .later }
def ChannelBurstsCardSaid : Prop := Claim7.holds Tryz.pinned (.plain (OpenSpec.ofChange channelBurstsSpec)) channelBurstsCard

/-- THE TIED CARD OF 'quinarialaw02.ChannelBorne'. -/
def channelBorneCard : Claim7 := { stood := { row := channelBorneRow, standIns := [], harness := (true, "d78a54d5d51cf96cfbf60f43de404bdf384c77fb2ebd75421d8771455adfc882"), looks := true }, kinds := [], alts := [], laidByText := true, laidKinds := [.data, .data, .data, .data, .pinned], laidTests := true, laidLooks := .later }
def ChannelBorneCardSaid : Prop := Claim7.holds Tryz.pinned (.plain (OpenSpec.ofChange channelBorneSpec)) channelBorneCard

/-- THE TIED CARD OF 'quinarialaw02.ChannelBroad'. -/
def channelBroadCard : Claim7 := { stood := { row := channelBroadRow, standIns := [], harness := (true, "d78a54d5d51cf96cfbf60f43de404bdf384c77fb2ebd75421d8771455adfc882"), looks := true }, kinds := [], alts := [], laidByText := true, laidKinds := [.data, .data, .data, .data, .pinned], laidTests := true, laidLooks := .later }
def ChannelBroadCardSaid : Prop := Claim7.holds Tryz.pinned (.plain (OpenSpec.ofChange channelBroadSpec)) channelBroadCard

/-- THE SECOND FORM's CARD OF 'quinarialaw02.ChannelCarries'. -/
def channelCarriesUptoCard : Claim7 := { stood := { row := channelCarriesUptoRow, standIns := [], harness := (true, "d78a54d5d51cf96cfbf60f43de404bdf384c77fb2ebd75421d8771455adfc882"), looks := true }, kinds := [], alts := [], laidByText := true, laidKinds := [.data, .data, .data, .data, .pinned], laidTests := true, laidLooks := .later }
def ChannelCarriesUptoCardSaid : Prop := Claim7.holds Tryz.pinned (.plain (OpenSpec.upto channelCarriesSpec)) channelCarriesUptoCard

/-- THE SECOND FORM's CARD OF 'quinarialaw02.ChannelTrue'. -/
def channelTrueUptoCard : Claim7 := { stood := { row := channelTrueUptoRow, standIns := [], harness := (true, "d78a54d5d51cf96cfbf60f43de404bdf384c77fb2ebd75421d8771455adfc882"), looks := true }, kinds := [], alts := [], laidByText := true, laidKinds := [.data, .data, .data, .data, .pinned], laidTests := true, laidLooks := .later }
def ChannelTrueUptoCardSaid : Prop := Claim7.holds Tryz.pinned (.plain (OpenSpec.upto channelTrueSpec)) channelTrueUptoCard

/-- THE SECOND FORM's CARD OF 'quinarialaw02.ChannelLines'. -/
def channelLinesUptoCard : Claim7 := { stood := { row := channelLinesUptoRow, standIns := [], harness := (true, "d78a54d5d51cf96cfbf60f43de404bdf384c77fb2ebd75421d8771455adfc882"), looks := true }, kinds := [], alts := [], laidByText := true, laidKinds := [.data, .data, .data, .data, .pinned], laidTests := true, laidLooks := .later }
def ChannelLinesUptoCardSaid : Prop := Claim7.holds Tryz.pinned (.plain (OpenSpec.upto channelLinesSpec)) channelLinesUptoCard

/-- THE SECOND FORM's CARD OF 'quinarialaw02.ChannelNarrow'. -/
def channelNarrowUptoCard : Claim7 := { stood := { row := channelNarrowUptoRow, standIns := [], harness := (true, "d78a54d5d51cf96cfbf60f43de404bdf384c77fb2ebd75421d8771455adfc882"), looks := true }, kinds := [], alts := [], laidByText := true, laidKinds := [.data, .data, .data, .data, .pinned], laidTests := true, laidLooks := .later }
def ChannelNarrowUptoCardSaid : Prop := Claim7.holds Tryz.pinned (.plain (OpenSpec.upto channelNarrowSpec)) channelNarrowUptoCard

/-- THE SECOND FORM's CARD OF 'quinarialaw02.ChannelLatests'. -/
def channelLatestsUptoCard : Claim7 := { stood := { row := channelLatestsUptoRow, standIns := [], harness := (true, "d78a54d5d51cf96cfbf60f43de404bdf384c77fb2ebd75421d8771455adfc882"), looks := true }, kinds := [], alts := [], laidByText := true, laidKinds := [.data, .data, .data, .data, .pinned], laidTests := true, laidLooks := .later }
def ChannelLatestsUptoCardSaid : Prop := Claim7.holds Tryz.pinned (.plain (OpenSpec.upto channelLatestsSpec)) channelLatestsUptoCard

/-- THE SECOND FORM's CARD OF 'quinarialaw02.ChannelLast'. -/
def channelLastUptoCard : Claim7 := { stood := { row := channelLastUptoRow, standIns := [], harness := (true, "d78a54d5d51cf96cfbf60f43de404bdf384c77fb2ebd75421d8771455adfc882"), looks := true }, kinds := [], alts := [], laidByText := true, laidKinds := [.data, .data, .data, .data, .pinned], laidTests := true, laidLooks := .later }
def ChannelLastUptoCardSaid : Prop := Claim7.holds Tryz.pinned (.plain (OpenSpec.upto channelLastSpec)) channelLastUptoCard

/-- THE SECOND FORM's CARD OF 'quinarialaw02.ChannelLimes'. -/
def channelLimesUptoCard : Claim7 := { stood := { row := channelLimesUptoRow, standIns := [], harness := (true, "d78a54d5d51cf96cfbf60f43de404bdf384c77fb2ebd75421d8771455adfc882"), looks := true }, kinds := [], alts := [], laidByText := true, laidKinds := [.data, .data, .data, .data, .pinned], laidTests := true, laidLooks := .later }
def ChannelLimesUptoCardSaid : Prop := Claim7.holds Tryz.pinned (.plain (OpenSpec.upto channelLimesSpec)) channelLimesUptoCard

/-- THE SECOND FORM's CARD OF 'quinarialaw02.ChannelProven'. -/
def channelProvenUptoCard : Claim7 := { stood := { row := channelProvenUptoRow, standIns := [], harness := (true, "d78a54d5d51cf96cfbf60f43de404bdf384c77fb2ebd75421d8771455adfc882"), looks := true }, kinds := [], alts := [], laidByText := true, laidKinds := [.data, .data, .data, .data, .pinned], laidTests := true, laidLooks := .later }
def ChannelProvenUptoCardSaid : Prop := Claim7.holds Tryz.pinned (.plain (OpenSpec.upto channelProvenSpec)) channelProvenUptoCard

/-- THE SECOND FORM's CARD OF 'quinarialaw02.ChannelPressures'. -/
def channelPressuresUptoCard : Claim7 := { stood := { row := channelPressuresUptoRow, standIns := [], harness := (true, "d78a54d5d51cf96cfbf60f43de404bdf384c77fb2ebd75421d8771455adfc882"), looks := true }, kinds := [], alts := [], laidByText := true, laidKinds := [.data, .data, .data, .data, .pinned], laidTests := true, laidLooks := .later }
def ChannelPressuresUptoCardSaid : Prop := Claim7.holds Tryz.pinned (.plain (OpenSpec.upto channelPressuresSpec)) channelPressuresUptoCard

/-- THE SECOND FORM's CARD OF 'quinarialaw02.ChannelHeights'. -/
def channelHeightsUptoCard : Claim7 := { stood := { row := channelHeightsUptoRow, standIns := [], harness := (true, "d78a54d5d51cf96cfbf60f43de404bdf384c77fb2ebd75421d8771455adfc882"), looks := true }, kinds := [], alts := [], laidByText := true, laidKinds := [.data, .data, .data, .data, .pinned], laidTests := true, laidLooks := .later }
def ChannelHeightsUptoCardSaid : Prop := Claim7.holds Tryz.pinned (.plain (OpenSpec.upto channelHeightsSpec)) channelHeightsUptoCard

/-- THE SECOND FORM's CARD OF 'quinarialaw02.ChannelBursts'. -/
def channelBurstsUptoCard : Claim7 := { stood := { row := channelBurstsUptoRow, standIns := [], harness := (true, "d78a54d5d51cf96cfbf60f43de404bdf384c77fb2ebd75421d8771455adfc882"), looks := true }, kinds := [], alts := [], laidByText := true, laidKinds := [.data, .data, .data, .data, .pinned], laidTests := true, laidLooks := .later }
def ChannelBurstsUptoCardSaid : Prop := Claim7.holds Tryz.pinned (.plain (OpenSpec.upto channelBurstsSpec)) channelBurstsUptoCard

/-- THE SECOND FORM's CARD OF 'quinarialaw02.ChannelBorne'. -/
def channelBorneUptoCard : Claim7 := { stood := { row := channelBorneUptoRow, standIns := [], harness := (true, "d78a54d5d51cf96cfbf60f43de404bdf384c77fb2ebd75421d8771455adfc882"), looks := true }, kinds := [], alts := [], laidByText := true, laidKinds := [.data, .data, .data, .data, .pinned], laidTests := true, laidLooks := .later }
def ChannelBorneUptoCardSaid : Prop := Claim7.holds Tryz.pinned (.plain (OpenSpec.upto channelBorneSpec)) channelBorneUptoCard

/-- THE SECOND FORM's CARD OF 'quinarialaw02.ChannelBroad'. -/
def channelBroadUptoCard : Claim7 := { stood := { row := channelBroadUptoRow, standIns := [], harness := (true, "d78a54d5d51cf96cfbf60f43de404bdf384c77fb2ebd75421d8771455adfc882"), looks := true }, kinds := [], alts := [], laidByText := true, laidKinds := [.data, .data, .data, .data, .pinned], laidTests := true, laidLooks := .later }
def ChannelBroadUptoCardSaid : Prop := Claim7.holds Tryz.pinned (.plain (OpenSpec.upto channelBroadSpec)) channelBroadUptoCard
end Rows
end Go.Proofs.YtalnemafmklelaaGreatDoor
