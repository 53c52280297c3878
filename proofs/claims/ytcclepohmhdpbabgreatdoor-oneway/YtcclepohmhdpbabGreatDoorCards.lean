/-
  DERIVED. GIVEN WITH THE SEED: THE CARDS: each row of YtcclepohmhdpbabGreatDoorRows.lean that lists a variable, with what it lists TIED to the program's text (the seventh form; the later family's looks); each row that meets fmt, with fmt's text TOLD by the authors' own Lean function (tested against real Go, not proved from fmt's source: count such statements apart). THE CARD IS WHAT COUNTS. Prove the row's statement (the work); the ties are given (YtcclepohmhdpbabGreatDoorTie.lean); close each card by the builder's one call (the guide's Derived/Test/ToyasCard.lean, 'card_holds'). Laid BY PROGRAM, IN A SANDBOX (cutbox-door.mjs). By AI agents, Wed Nov 11 2026. No macro, syntax, notation, axiom, sorry.
-/
import Derived.Test.YtcclepohmhdpbabGreatDoorRows
import GoSem.ClaimSeven
namespace Go.Proofs.YtcclepohmhdpbabGreatDoor
namespace Rows

/-- THE TIED CARD OF 'polygonskeep.Oneway'. -/
def onewayCard : Claim7 := { stood := { row := onewayRow, standIns := [], harness := (true, "522fa78ad07ac886c5d808656d804cefef828cbf1601e7a8635cf22dac8071b3"), looks := false }, kinds := [], alts := [], laidByText := true, laidKinds := [.data, .data, .data], laidTests := true, laidLooks := .later }
def OnewayCardSaid : Prop := Claim7.holds Tryz.pinned (.plain (OpenSpec.ofChange onewaySpec)) onewayCard

/-- THE TIED CARD OF 'polygonskeep.Turned'. -/
def turnedCard : Claim7 := { stood := { row := turnedRow, standIns := [], harness := (true, "522fa78ad07ac886c5d808656d804cefef828cbf1601e7a8635cf22dac8071b3"), looks := false }, kinds := [], alts := [], laidByText := true, laidKinds := [.data, .data, .data], laidTests := true, laidLooks := .later }
def TurnedCardSaid : Prop := Claim7.holds Tryz.pinned (.plain (OpenSpec.ofChange turnedSpec)) turnedCard

/-- THE TIED CARD OF 'polygonskeep.Middled'. -/
def middledCard : Claim7 := { stood := { row := middledRow, standIns := [], harness := (true, "522fa78ad07ac886c5d808656d804cefef828cbf1601e7a8635cf22dac8071b3"), looks := false }, kinds := [], alts := [], laidByText := true, laidKinds := [.data, .data, .data], laidTests := true, laidLooks := .later }
def MiddledCardSaid : Prop := Claim7.holds Tryz.pinned (.plain (OpenSpec.ofChange middledSpec)) middledCard

/-- THE TIED CARD OF 'polygonskeep.Moved'. -/
def movedCard : Claim7 := { stood := { row := movedRow, standIns := [], harness := (true, "522fa78ad07ac886c5d808656d804cefef828cbf1601e7a8635cf22dac8071b3"), looks := false }, kinds := [], alts := [], laidByText := true, laidKinds := [.data, .data, .data], laidTests := true, laidLooks := .later }
def MovedCardSaid : Prop := Claim7.holds Tryz.pinned (.plain (OpenSpec.ofChange movedSpec)) movedCard

/-- THE TIED CARD OF 'polygonskeep.Pairs'. -/
def pairsCard : Claim7 := { stood := { row := pairsRow, standIns := [], harness := (true, "522fa78ad07ac886c5d808656d804cefef828cbf1601e7a8635cf22dac8071b3"), looks := false }, kinds := [], alts := [], laidByText := true, laidKinds := [.data, .data, .data], laidTests := true, laidLooks := .later }
def PairsCardSaid : Prop := Claim7.holds Tryz.pinned (.plain (OpenSpec.ofChange pairsSpec)) pairsCard

/-- THE SECOND FORM's CARD OF 'polygonskeep.Oneway'. -/
def onewayUptoCard : Claim7 := { stood := { row := onewayUptoRow, standIns := [], harness := (true, "522fa78ad07ac886c5d808656d804cefef828cbf1601e7a8635cf22dac8071b3"), looks := false }, kinds := [], alts := [], laidByText := true, laidKinds := [.data, .data, .data], laidTests := true, laidLooks := .later }
def OnewayUptoCardSaid : Prop := Claim7.holds Tryz.pinned (.plain (OpenSpec.upto onewaySpec)) onewayUptoCard

/-- THE SECOND FORM's CARD OF 'polygonskeep.Turned'. -/
def turnedUptoCard : Claim7 := { stood := { row := turnedUptoRow, standIns := [], harness := (true, "522fa78ad07ac886c5d808656d804cefef828cbf1601e7a8635cf22dac8071b3"), looks := false }, kinds := [], alts := [], laidByText := true, laidKinds := [.data, .data, .data], laidTests := true, laidLooks := .later }
def TurnedUptoCardSaid : Prop := Claim7.holds Tryz.pinned (.plain (OpenSpec.upto turnedSpec)) turnedUptoCard

/-- THE SECOND FORM's CARD OF 'polygonskeep.Middled'. -/
def middledUptoCard : Claim7 := { stood := { row := middledUptoRow, standIns := [], harness := (true, "522fa78ad07ac886c5d808656d804cefef828cbf1601e7a8635cf22dac8071b3"), looks := false }, kinds := [], alts := [], laidByText := true, laidKinds := [.data, .data, .data], laidTests := true, laidLooks := .later }
def MiddledUptoCardSaid : Prop := Claim7.holds Tryz.pinned (.plain (OpenSpec.upto middledSpec)) middledUptoCard

/-- THE SECOND FORM's CARD OF 'polygonskeep.Moved'. -/
def movedUptoCard : Claim7 := { stood := { row := movedUptoRow, standIns := [], harness := (true, "522fa78ad07ac886c5d808656d804cefef828cbf1601e7a8635cf22dac8071b3"), looks := false }, kinds := [], alts := [], laidByText := true, laidKinds := [.data, .data, .data], laidTests := true, laidLooks := .later }
def MovedUptoCardSaid : Prop := Claim7.holds Tryz.pinned (.plain (OpenSpec.upto movedSpec)) movedUptoCard

/-- THE SECOND FORM's CARD OF 'polygonskeep.Pairs'. -/
def pairsUptoCard : Claim7 := { stood := { row := pairsUptoRow, standIns := [], harness := (true, "522fa78ad07ac886c5d808656d804cefef828cbf1601e7a8635cf22dac8071b3"), looks := false }, kinds := [], alts := [], laidByText := true, laidKinds := [.data, .data, .data], laidTests := true, laidLooks := .later }
def PairsUptoCardSaid : Prop := Claim7.holds Tryz.pinned (.plain (OpenSpec.upto pairsSpec)) pairsUptoCard
end Rows
end Go.Proofs.YtcclepohmhdpbabGreatDoor
