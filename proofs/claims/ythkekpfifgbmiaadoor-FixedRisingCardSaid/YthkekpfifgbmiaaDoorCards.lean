/-
  DERIVED. GIVEN WITH THE SEED: THE CARDS: each row of YthkekpfifgbmiaaDoorRows.lean that lists a variable, with what it lists TIED to the program's text (the seventh form; the later family's looks); each row that meets fmt, with fmt's text TOLD by the authors' own Lean function (tested against real Go, not proved from fmt's source: count such statements apart). THE CARD IS WHAT COUNTS. Prove the row's statement (the work); the ties are given (YthkekpfifgbmiaaDoorTie.lean); close each card by the builder's one call (the guide's Derived/Test/ToyasCard.lean, 'card_holds'). Laid BY PROGRAM, IN A SANDBOX (cutbox-door.mjs). By AI agents, Wed Nov 11 2026. No macro, syntax, notation, axiom, sorry.
-/
import Derived.Test.YthkekpfifgbmiaaDoorRows
import GoSem.ClaimSeven
namespace Go.Proofs.YthkekpfifgbmiaaDoor
namespace Rows

/-- THE TIED CARD OF 'shawmlaw03.FixedDivides'. -/
def fixedDividesCard : Claim7 := { stood := { row := fixedDividesRow, standIns := [], harness := (true, "2037d4370128e4f6a771859cadddcedc4b14f242ffdecd449cb0e930944add7f"), looks := false }, kinds := [], alts := [], laidByText := true, laidKinds := [.data], laidTests := true, laidLooks := .later }
def FixedDividesCardSaid : Prop := Claim7.holds Tryd.pinned (.plain (OpenSpec.ofChange fixedDividesSpec)) fixedDividesCard

/-- THE TIED CARD OF 'shawmlaw03.FixedRoots'. -/
def fixedRootsCard : Claim7 := { stood := { row := fixedRootsRow, standIns := [], harness := (true, "2037d4370128e4f6a771859cadddcedc4b14f242ffdecd449cb0e930944add7f"), looks := false }, kinds := [], alts := [], laidByText := true, laidKinds := [.data], laidTests := true, laidLooks := .later }
def FixedRootsCardSaid : Prop := Claim7.holds Tryd.pinned (.plain (OpenSpec.ofChange fixedRootsSpec)) fixedRootsCard

/-- THE TIED CARD OF 'shawmlaw03.FixedCircle'. -/
def fixedCircleCard : Claim7 := { stood := { row := fixedCircleRow, standIns := [], harness := (true, "2037d4370128e4f6a771859cadddcedc4b14f242ffdecd449cb0e930944add7f"), looks := false }, kinds := [], alts := [], laidByText := true, laidKinds := [.data], laidTests := true, laidLooks := .later }
def FixedCircleCardSaid : Prop := Claim7.holds Tryd.pinned (.plain (OpenSpec.ofChange fixedCircleSpec)) fixedCircleCard

/-- THE TIED CARD OF 'shawmlaw03.FixedLogs'. -/
def fixedLogsCard : Claim7 := { stood := { row := fixedLogsRow, standIns := [], harness := (true, "2037d4370128e4f6a771859cadddcedc4b14f242ffdecd449cb0e930944add7f"), looks := false }, kinds := [], alts := [], laidByText := true, laidKinds := [.data], laidTests := true, laidLooks := .later }
def FixedLogsCardSaid : Prop := Claim7.holds Tryd.pinned (.plain (OpenSpec.ofChange fixedLogsSpec)) fixedLogsCard

/-- THE TIED CARD OF 'shawmlaw03.FixedPowers'. -/
def fixedPowersCard : Claim7 := { stood := { row := fixedPowersRow, standIns := [], harness := (true, "2037d4370128e4f6a771859cadddcedc4b14f242ffdecd449cb0e930944add7f"), looks := false }, kinds := [], alts := [], laidByText := true, laidKinds := [.data], laidTests := true, laidLooks := .later }
def FixedPowersCardSaid : Prop := Claim7.holds Tryd.pinned (.plain (OpenSpec.ofChange fixedPowersSpec)) fixedPowersCard

/-- THE TIED CARD OF 'shawmlaw03.FixedAround'. -/
def fixedAroundCard : Claim7 := { stood := { row := fixedAroundRow, standIns := [], harness := (true, "2037d4370128e4f6a771859cadddcedc4b14f242ffdecd449cb0e930944add7f"), looks := false }, kinds := [], alts := [], laidByText := true, laidKinds := [.data], laidTests := true, laidLooks := .later }
def FixedAroundCardSaid : Prop := Claim7.holds Tryd.pinned (.plain (OpenSpec.ofChange fixedAroundSpec)) fixedAroundCard

/-- THE TIED CARD OF 'shawmlaw03.FixedRising'. -/
def fixedRisingCard : Claim7 := { stood := { row := fixedRisingRow, standIns := [], harness := (true, "2037d4370128e4f6a771859cadddcedc4b14f242ffdecd449cb0e930944add7f"), looks := false }, kinds := [], alts := [], laidByText := true, laidKinds := [.data], laidTests := true, laidLooks := .later }
def FixedRisingCardSaid : Prop := Claim7.holds Tryd.pinned (.plain (OpenSpec.ofChange fixedRisingSpec)) fixedRisingCard

/-- THE TIED CARD OF 'shawmlaw03.FixedFloor'. -/
def fixedFloorCard : Claim7 := { stood := { row := fixedFloorRow, standIns := [], harness := (true, "2037d4370128e4f6a771859cadddcedc4b14f242ffdecd449cb0e930944add7f"), looks := false }, kinds := [], alts := [], laidByText := true, laidKinds := [.data], laidTests := true, laidLooks := .later }
def FixedFloorCardSaid : Prop := Claim7.holds Tryd.pinned (.plain (OpenSpec.ofChange fixedFloorSpec)) fixedFloorCard

/-- THE SECOND FORM's CARD OF 'shawmlaw03.FixedDivides'. -/
def fixedDividesUptoCard : Claim7 := { stood := { row := fixedDividesUptoRow, standIns := [], harness := (true, "2037d4370128e4f6a771859cadddcedc4b14f242ffdecd449cb0e930944add7f"), looks := false }, kinds := [], alts := [], laidByText := true, laidKinds := [.data], laidTests := true, laidLooks := .later }
def FixedDividesUptoCardSaid : Prop := Claim7.holds Tryd.pinned (.plain (OpenSpec.upto fixedDividesSpec)) fixedDividesUptoCard

/-- THE SECOND FORM's CARD OF 'shawmlaw03.FixedRoots'. -/
def fixedRootsUptoCard : Claim7 := { stood := { row := fixedRootsUptoRow, standIns := [], harness := (true, "2037d4370128e4f6a771859cadddcedc4b14f242ffdecd449cb0e930944add7f"), looks := false }, kinds := [], alts := [], laidByText := true, laidKinds := [.data], laidTests := true, laidLooks := .later }
def FixedRootsUptoCardSaid : Prop := Claim7.holds Tryd.pinned (.plain (OpenSpec.upto fixedRootsSpec)) fixedRootsUptoCard

/-- THE SECOND FORM's CARD OF 'shawmlaw03.FixedCircle'. -/
def fixedCircleUptoCard : Claim7 := { stood := { row := fixedCircleUptoRow, standIns := [], harness := (true, "2037d4370128e4f6a771859cadddcedc4b14f242ffdecd449cb0e930944add7f"), looks := false }, kinds := [], alts := [], laidByText := true, laidKinds := [.data], laidTests := true, laidLooks := .later }
def FixedCircleUptoCardSaid : Prop := Claim7.holds Tryd.pinned (.plain (OpenSpec.upto fixedCircleSpec)) fixedCircleUptoCard

/-- THE SECOND FORM's CARD OF 'shawmlaw03.FixedLogs'. -/
def fixedLogsUptoCard : Claim7 := { stood := { row := fixedLogsUptoRow, standIns := [], harness := (true, "2037d4370128e4f6a771859cadddcedc4b14f242ffdecd449cb0e930944add7f"), looks := false }, kinds := [], alts := [], laidByText := true, laidKinds := [.data], laidTests := true, laidLooks := .later }
def FixedLogsUptoCardSaid : Prop := Claim7.holds Tryd.pinned (.plain (OpenSpec.upto fixedLogsSpec)) fixedLogsUptoCard

/-- THE SECOND FORM's CARD OF 'shawmlaw03.FixedPowers'. -/
def fixedPowersUptoCard : Claim7 := { stood := { row := fixedPowersUptoRow, standIns := [], harness := (true, "2037d4370128e4f6a771859cadddcedc4b14f242ffdecd449cb0e930944add7f"), looks := false }, kinds := [], alts := [], laidByText := true, laidKinds := [.data], laidTests := true, laidLooks := .later }
def FixedPowersUptoCardSaid : Prop := Claim7.holds Tryd.pinned (.plain (OpenSpec.upto fixedPowersSpec)) fixedPowersUptoCard

/-- THE SECOND FORM's CARD OF 'shawmlaw03.FixedAround'. -/
def fixedAroundUptoCard : Claim7 := { stood := { row := fixedAroundUptoRow, standIns := [], harness := (true, "2037d4370128e4f6a771859cadddcedc4b14f242ffdecd449cb0e930944add7f"), looks := false }, kinds := [], alts := [], laidByText := true, laidKinds := [.data], laidTests := true, laidLooks := .later }
def FixedAroundUptoCardSaid : Prop := Claim7.holds Tryd.pinned (.plain (OpenSpec.upto fixedAroundSpec)) fixedAroundUptoCard

/-- THE SECOND FORM's CARD OF 'shawmlaw03.FixedRising'. -/
def fixedRisingUptoCard : Claim7 := { stood := { row := fixedRisingUptoRow, standIns := [], harness := (true, "2037d4370128e4f6a771859cadddcedc4b14f242ffdecd449cb0e930944add7f"), looks := false }, kinds := [], alts := [], laidByText := true, laidKinds := [.data], laidTests := true, laidLooks := .later }
def FixedRisingUptoCardSaid : Prop := Claim7.holds Tryd.pinned (.plain (OpenSpec.upto fixedRisingSpec)) fixedRisingUptoCard

/-- THE SECOND FORM's CARD OF 'shawmlaw03.FixedFloor'. -/
def fixedFloorUptoCard : Claim7 := { stood := { row := fixedFloorUptoRow, standIns := [], harness := (true, "2037d4370128e4f6a771859cadddcedc4b14f242ffdecd449cb0e930944add7f"), looks := false }, kinds := [], alts := [], laidByText := true, laidKinds := [.data], laidTests := true, laidLooks := .later }
def FixedFloorUptoCardSaid : Prop := Claim7.holds Tryd.pinned (.plain (OpenSpec.upto fixedFloorSpec)) fixedFloorUptoCard
end Rows
end Go.Proofs.YthkekpfifgbmiaaDoor
