/-
  DERIVED. GIVEN WITH THE SEED: THE CARDS: each row of YtoanonklmmbhgaaGreatDoorRows.lean that lists a variable, with what it lists TIED to the program's text (the seventh form; the later family's looks); each row that meets fmt, with fmt's text TOLD by the authors' own Lean function (tested against real Go, not proved from fmt's source: count such statements apart). THE CARD IS WHAT COUNTS. Prove the row's statement (the work); the ties are given (YtoanonklmmbhgaaGreatDoorTie.lean); close each card by the builder's one call (the guide's Derived/Test/ToyasCard.lean, 'card_holds'). Laid BY PROGRAM, IN A SANDBOX (cutbox-door.mjs). By AI agents, Wed Nov 11 2026. No macro, syntax, notation, axiom, sorry.
-/
import Derived.Test.YtoanonklmmbhgaaGreatDoorRows
import GoSem.ClaimSeven
namespace Go.Proofs.YtoanonklmmbhgaaGreatDoor
namespace Rows

/-- THE TIED CARD OF 'polygonslaw.Makes'. -/
def makesCard : Claim7 := { stood := { row := makesRow, standIns := [], harness := (true, "a843c30cff0e3703b858e3604e247ba41727f2665e0ea7598b96fd42d2a80aa5"), looks := false }, kinds := [], alts := [], laidByText := true, laidKinds := [.data, .data, .data], laidTests := true, laidLooks := .later }
def MakesCardSaid : Prop := Claim7.holds Tryz.pinned (.plain (OpenSpec.ofChange makesSpec)) makesCard

/-- THE TIED CARD OF 'polygonslaw.Texts'. -/
def textsCard : Claim7 := { stood := { row := textsRow, standIns := [], harness := (true, "a843c30cff0e3703b858e3604e247ba41727f2665e0ea7598b96fd42d2a80aa5"), looks := false }, kinds := [], alts := [], laidByText := true, laidKinds := [.data, .data, .data], laidTests := true, laidLooks := .later }
def TextsCardSaid : Prop := Claim7.holds Tryz.pinned (.plain (OpenSpec.ofChange textsSpec)) textsCard

/-- THE TIED CARD OF 'polygonslaw.Bytes'. -/
def bytesCard : Claim7 := { stood := { row := bytesRow, standIns := [], harness := (true, "a843c30cff0e3703b858e3604e247ba41727f2665e0ea7598b96fd42d2a80aa5"), looks := false }, kinds := [], alts := [], laidByText := true, laidKinds := [.data, .data, .data], laidTests := true, laidLooks := .later }
def BytesCardSaid : Prop := Claim7.holds Tryz.pinned (.plain (OpenSpec.ofChange bytesSpec)) bytesCard

/-- THE TIED CARD OF 'polygonslaw.Objects'. -/
def objectsCard : Claim7 := { stood := { row := objectsRow, standIns := [], harness := (true, "a843c30cff0e3703b858e3604e247ba41727f2665e0ea7598b96fd42d2a80aa5"), looks := false }, kinds := [], alts := [], laidByText := true, laidKinds := [.data, .data, .data], laidTests := true, laidLooks := .later }
def ObjectsCardSaid : Prop := Claim7.holds Tryz.pinned (.plain (OpenSpec.ofChange objectsSpec)) objectsCard

/-- THE TIED CARD OF 'polygonslaw.Valids'. -/
def validsCard : Claim7 := { stood := { row := validsRow, standIns := [], harness := (true, "a843c30cff0e3703b858e3604e247ba41727f2665e0ea7598b96fd42d2a80aa5"), looks := false }, kinds := [], alts := [], laidByText := true, laidKinds := [.data, .data, .data], laidTests := true, laidLooks := .later }
def ValidsCardSaid : Prop := Claim7.holds Tryz.pinned (.plain (OpenSpec.ofChange validsSpec)) validsCard

/-- THE TIED CARD OF 'polygonskeep.Round'. -/
def roundCard : Claim7 := { stood := { row := roundRow, standIns := [], harness := (true, "a843c30cff0e3703b858e3604e247ba41727f2665e0ea7598b96fd42d2a80aa5"), looks := false }, kinds := [], alts := [], laidByText := true, laidKinds := [.data, .data, .data], laidTests := true, laidLooks := .later }
def RoundCardSaid : Prop := Claim7.holds Tryz.pinned (.plain (OpenSpec.ofChange roundSpec)) roundCard

/-- THE SECOND FORM's CARD OF 'polygonslaw.Makes'. -/
def makesUptoCard : Claim7 := { stood := { row := makesUptoRow, standIns := [], harness := (true, "a843c30cff0e3703b858e3604e247ba41727f2665e0ea7598b96fd42d2a80aa5"), looks := false }, kinds := [], alts := [], laidByText := true, laidKinds := [.data, .data, .data], laidTests := true, laidLooks := .later }
def MakesUptoCardSaid : Prop := Claim7.holds Tryz.pinned (.plain (OpenSpec.upto makesSpec)) makesUptoCard

/-- THE SECOND FORM's CARD OF 'polygonslaw.Texts'. -/
def textsUptoCard : Claim7 := { stood := { row := textsUptoRow, standIns := [], harness := (true, "a843c30cff0e3703b858e3604e247ba41727f2665e0ea7598b96fd42d2a80aa5"), looks := false }, kinds := [], alts := [], laidByText := true, laidKinds := [.data, .data, .data], laidTests := true, laidLooks := .later }
def TextsUptoCardSaid : Prop := Claim7.holds Tryz.pinned (.plain (OpenSpec.upto textsSpec)) textsUptoCard

/-- THE SECOND FORM's CARD OF 'polygonslaw.Bytes'. -/
def bytesUptoCard : Claim7 := { stood := { row := bytesUptoRow, standIns := [], harness := (true, "a843c30cff0e3703b858e3604e247ba41727f2665e0ea7598b96fd42d2a80aa5"), looks := false }, kinds := [], alts := [], laidByText := true, laidKinds := [.data, .data, .data], laidTests := true, laidLooks := .later }
def BytesUptoCardSaid : Prop := Claim7.holds Tryz.pinned (.plain (OpenSpec.upto bytesSpec)) bytesUptoCard

/-- THE SECOND FORM's CARD OF 'polygonslaw.Objects'. -/
def objectsUptoCard : Claim7 := { stood := { row := objectsUptoRow, standIns := [], harness := (true, "a843c30cff0e3703b858e3604e247ba41727f2665e0ea7598b96fd42d2a80aa5"), looks := false }, kinds := [], alts := [], laidByText := true, laidKinds := [.data, .data, .data], laidTests := true, laidLooks := .later }
def ObjectsUptoCardSaid : Prop := Claim7.holds Tryz.pinned (.plain (OpenSpec.upto objectsSpec)) objectsUptoCard

/-- THE SECOND FORM's CARD OF 'polygonslaw.Valids'. -/
def validsUptoCard : Claim7 := { stood := { row := validsUptoRow, standIns := [], harness := (true, "a843c30cff0e3703b858e3604e247ba41727f2665e0ea7598b96fd42d2a80aa5"), looks := false }, kinds := [], alts := [], laidByText := true, laidKinds := [.data, .data, .data], laidTests := true, laidLooks := .later }
def ValidsUptoCardSaid : Prop := Claim7.holds Tryz.pinned (.plain (OpenSpec.upto validsSpec)) validsUptoCard

/-- THE SECOND FORM's CARD OF 'polygonskeep.Round'. -/
def roundUptoCard : Claim7 := { stood := { row := roundUptoRow, standIns := [], harness := (true, "a843c30cff0e3703b858e3604e247ba41727f2665e0ea7598b96fd42d2a80aa5"), looks := false }, kinds := [], alts := [], laidByText := true, laidKinds := [.data, .data, .data], laidTests := true, laidLooks := .later }
def RoundUptoCardSaid : Prop := Claim7.holds Tryz.pinned (.plain (OpenSpec.upto roundSpec)) roundUptoCard
end Rows
end Go.Proofs.YtoanonklmmbhgaaGreatDoor
