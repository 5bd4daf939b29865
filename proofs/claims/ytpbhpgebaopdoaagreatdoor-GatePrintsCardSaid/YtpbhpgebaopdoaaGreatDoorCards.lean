/-
  DERIVED. GIVEN WITH THE SEED: THE CARDS: each row of YtpbhpgebaopdoaaGreatDoorRows.lean that lists a variable, with what it lists TIED to the program's text (the seventh form; the later family's looks); each row that meets fmt, with fmt's text TOLD by the authors' own Lean function (tested against real Go, not proved from fmt's source: count such statements apart). THE CARD IS WHAT COUNTS. Prove the row's statement (the work); the ties are given (YtpbhpgebaopdoaaGreatDoorTie.lean); close each card by the builder's one call (the guide's Derived/Test/ToyasCard.lean, 'card_holds'). Laid BY PROGRAM, IN A SANDBOX (cutbox-door.mjs). By AI agents, Wed Nov 11 2026. No macro, syntax, notation, axiom, sorry.
-/
import Derived.Test.YtpbhpgebaopdoaaGreatDoorRows
import GoSem.ClaimSeven
namespace Go.Proofs.YtpbhpgebaopdoaaGreatDoor
namespace Rows

/-- THE TIED CARD OF 'quinarialaw08.GatePlans'. -/
def gatePlansCard : Claim7 := { stood := { row := gatePlansRow, standIns := [], harness := (true, "0c7b7fe5d3393365da11bc1569c36a15a4d8cf4cea5c6b31c4046894abaad881"), looks := true }, kinds := [], alts := [], laidByText := true, laidKinds := [.data, .data, .data, .data, .pinned], laidTests := true, laidLooks := .later }
def GatePlansCardSaid : Prop := Claim7.holds Tryz.pinned (.plain (OpenSpec.ofChange gatePlansSpec)) gatePlansCard

/-- THE TIED CARD OF 'quinarialaw08.GatePlanned'. -/
def gatePlannedCard : Claim7 := { stood := { row := gatePlannedRow, standIns := [], harness := (true, "0c7b7fe5d3393365da11bc1569c36a15a4d8cf4cea5c6b31c4046894abaad881"), looks := true }, kinds := [], alts := [], laidByText := true, laidKinds := [.data, .data, .data, .data, .pinned], laidTests := true, laidLooks := .later }
def GatePlannedCardSaid : Prop := Claim7.holds Tryz.pinned (.plain (OpenSpec.ofChange gatePlannedSpec)) gatePlannedCard

/-- THE TIED CARD OF 'quinarialaw08.GateTogethers'. -/
def gateTogethersCard : Claim7 := { stood := { row := gateTogethersRow, standIns := [], harness := (true, "0c7b7fe5d3393365da11bc1569c36a15a4d8cf4cea5c6b31c4046894abaad881"), looks := true }, kinds := [], alts := [], laidByText := true, laidKinds := [.data, .data, .data, .data, .pinned], laidTests := true, laidLooks := .later }
def GateTogethersCardSaid : Prop := Claim7.holds Tryz.pinned (.plain (OpenSpec.ofChange gateTogethersSpec)) gateTogethersCard

/-- THE TIED CARD OF 'quinarialaw08.GateRival'. -/
def gateRivalCard : Claim7 := { stood := { row := gateRivalRow, standIns := [], harness := (true, "0c7b7fe5d3393365da11bc1569c36a15a4d8cf4cea5c6b31c4046894abaad881"), looks := true }, kinds := [], alts := [], laidByText := true, laidKinds := [.data, .data, .data, .data, .pinned], laidTests := true, laidLooks := .later }
def GateRivalCardSaid : Prop := Claim7.holds Tryz.pinned (.plain (OpenSpec.ofChange gateRivalSpec)) gateRivalCard

/-- THE TIED CARD OF 'quinarialaw08.GatePrints'. -/
def gatePrintsCard : Claim7 := { stood := { row := gatePrintsRow, standIns := [], harness := (true, "0c7b7fe5d3393365da11bc1569c36a15a4d8cf4cea5c6b31c4046894abaad881"), looks := true }, kinds := [], alts := [], laidByText := true, laidKinds := [.data, .data, .data, .data, .pinned], laidTests := true, laidLooks := .later }
def GatePrintsCardSaid : Prop := Claim7.holds Tryz.pinned (.plain (OpenSpec.ofChange gatePrintsSpec)) gatePrintsCard

/-- THE TIED CARD OF 'quinarialaw08.GateSpoilt'. -/
def gateSpoiltCard : Claim7 := { stood := { row := gateSpoiltRow, standIns := [], harness := (true, "0c7b7fe5d3393365da11bc1569c36a15a4d8cf4cea5c6b31c4046894abaad881"), looks := true }, kinds := [], alts := [], laidByText := true, laidKinds := [.data, .data, .data, .data, .pinned], laidTests := true, laidLooks := .later }
def GateSpoiltCardSaid : Prop := Claim7.holds Tryz.pinned (.plain (OpenSpec.ofChange gateSpoiltSpec)) gateSpoiltCard

/-- THE SECOND FORM's CARD OF 'quinarialaw08.GatePlans'. -/
def gatePlansUptoCard : Claim7 := { stood := { row := gatePlansUptoRow, standIns := [], harness := (true, "0c7b7fe5d3393365da11bc1569c36a15a4d8cf4cea5c6b31c4046894abaad881"), looks := true }, kinds := [], alts := [], laidByText := true, laidKinds := [.data, .data, .data, .data, .pinned], laidTests := true, laidLooks := .later }
def GatePlansUptoCardSaid : Prop := Claim7.holds Tryz.pinned (.plain (OpenSpec.upto gatePlansSpec)) gatePlansUptoCard

/-- THE SECOND FORM's CARD OF 'quinarialaw08.GatePlanned'. -/
def gatePlannedUptoCard : Claim7 := { stood := { row := gatePlannedUptoRow, standIns := [], harness := (true, "0c7b7fe5d3393365da11bc1569c36a15a4d8cf4cea5c6b31c4046894abaad881"), looks := true }, kinds := [], alts := [], laidByText := true, laidKinds := [.data, .data, .data, .data, .pinned], laidTests := true, laidLooks := .later }
def GatePlannedUptoCardSaid : Prop := Claim7.holds Tryz.pinned (.plain (OpenSpec.upto gatePlannedSpec)) gatePlannedUptoCard

/-- THE SECOND FORM's CARD OF 'quinarialaw08.GateTogethers'. -/
def gateTogethersUptoCard : Claim7 := { stood := { row := gateTogethersUptoRow, standIns := [], harness := (true, "0c7b7fe5d3393365da11bc1569c36a15a4d8cf4cea5c6b31c4046894abaad881"), looks := true }, kinds := [], alts := [], laidByText := true, laidKinds := [.data, .data, .data, .data, .pinned], laidTests := true, laidLooks := .later }
def GateTogethersUptoCardSaid : Prop := Claim7.holds Tryz.pinned (.plain (OpenSpec.upto gateTogethersSpec)) gateTogethersUptoCard

/-- THE SECOND FORM's CARD OF 'quinarialaw08.GateRival'. -/
def gateRivalUptoCard : Claim7 := { stood := { row := gateRivalUptoRow, standIns := [], harness := (true, "0c7b7fe5d3393365da11bc1569c36a15a4d8cf4cea5c6b31c4046894abaad881"), looks := true }, kinds := [], alts := [], laidByText := true, laidKinds := [.data, .data, .data, .data, .pinned], laidTests := true, laidLooks := .later }
def GateRivalUptoCardSaid : Prop := Claim7.holds Tryz.pinned (.plain (OpenSpec.upto gateRivalSpec)) gateRivalUptoCard

/-- THE SECOND FORM's CARD OF 'quinarialaw08.GatePrints'. -/
def gatePrintsUptoCard : Claim7 := { stood := { row := gatePrintsUptoRow, standIns := [], harness := (true, "0c7b7fe5d3393365da11bc1569c36a15a4d8cf4cea5c6b31c4046894abaad881"), looks := true }, kinds := [], alts := [], laidByText := true, laidKinds := [.data, .data, .data, .data, .pinned], laidTests := true, laidLooks := .later }
def GatePrintsUptoCardSaid : Prop := Claim7.holds Tryz.pinned (.plain (OpenSpec.upto gatePrintsSpec)) gatePrintsUptoCard

/-- THE SECOND FORM's CARD OF 'quinarialaw08.GateSpoilt'. -/
def gateSpoiltUptoCard : Claim7 := { stood := { row := gateSpoiltUptoRow, standIns := [], harness := (true, "0c7b7fe5d3393365da11bc1569c36a15a4d8cf4cea5c6b31c4046894abaad881"), looks := true }, kinds := [], alts := [], laidByText := true, laidKinds := [.data, .data, .data, .data, .pinned], laidTests := true, laidLooks := .later }
def GateSpoiltUptoCardSaid : Prop := Claim7.holds Tryz.pinned (.plain (OpenSpec.upto gateSpoiltSpec)) gateSpoiltUptoCard
end Rows
end Go.Proofs.YtpbhpgebaopdoaaGreatDoor
