/-
  DERIVED. GIVEN WITH THE SEED: THE CARDS: each row of YtgdndcbcdoogpaaDoorRows.lean that lists a variable, with what it lists TIED to the program's text (the seventh form; the later family's looks); each row that meets fmt, with fmt's text TOLD by the authors' own Lean function (tested against real Go, not proved from fmt's source: count such statements apart). THE CARD IS WHAT COUNTS. Prove the row's statement (the work); the ties are given (YtgdndcbcdoogpaaDoorTie.lean); close each card by the builder's one call (the guide's Derived/Test/ToyasCard.lean, 'card_holds'). Laid BY PROGRAM, IN A SANDBOX (cutbox-door.mjs). By AI agents, Wed Nov 11 2026. No macro, syntax, notation, axiom, sorry.
-/
import Derived.Test.YtgdndcbcdoogpaaDoorRows
import GoSem.ClaimSeven
namespace Go.Proofs.YtgdndcbcdoogpaaDoor
namespace Rows

/-- THE TIED CARD OF 'shawmlaw10.BandsWidths'. -/
def bandsWidthsCard : Claim7 := { stood := { row := bandsWidthsRow, standIns := [], harness := (true, "87db10bd25bb81846dea5d9bedfa1ec30f85f4c97a3676e05992a9ec3cf96b75"), looks := false }, kinds := [], alts := [], laidByText := true, laidKinds := [.data, .data], laidTests := true, laidLooks := .later }
def BandsWidthsCardSaid : Prop := Claim7.holds Tryd.pinned (.plain (OpenSpec.ofChange bandsWidthsSpec)) bandsWidthsCard

/-- THE TIED CARD OF 'shawmlaw10.BandsGathers'. -/
def bandsGathersCard : Claim7 := { stood := { row := bandsGathersRow, standIns := [], harness := (true, "87db10bd25bb81846dea5d9bedfa1ec30f85f4c97a3676e05992a9ec3cf96b75"), looks := false }, kinds := [], alts := [], laidByText := true, laidKinds := [.data, .data], laidTests := true, laidLooks := .later }
def BandsGathersCardSaid : Prop := Claim7.holds Tryd.pinned (.plain (OpenSpec.ofChange bandsGathersSpec)) bandsGathersCard

/-- THE TIED CARD OF 'shawmlaw10.BandsRanges'. -/
def bandsRangesCard : Claim7 := { stood := { row := bandsRangesRow, standIns := [], harness := (true, "87db10bd25bb81846dea5d9bedfa1ec30f85f4c97a3676e05992a9ec3cf96b75"), looks := false }, kinds := [], alts := [], laidByText := true, laidKinds := [.data, .data], laidTests := true, laidLooks := .later }
def BandsRangesCardSaid : Prop := Claim7.holds Tryd.pinned (.plain (OpenSpec.ofChange bandsRangesSpec)) bandsRangesCard

/-- THE TIED CARD OF 'shawmlaw10.BandsPitch'. -/
def bandsPitchCard : Claim7 := { stood := { row := bandsPitchRow, standIns := [], harness := (true, "87db10bd25bb81846dea5d9bedfa1ec30f85f4c97a3676e05992a9ec3cf96b75"), looks := false }, kinds := [], alts := [], laidByText := true, laidKinds := [.data, .data], laidTests := true, laidLooks := .later }
def BandsPitchCardSaid : Prop := Claim7.holds Tryd.pinned (.plain (OpenSpec.ofChange bandsPitchSpec)) bandsPitchCard

/-- THE TIED CARD OF 'shawmlaw10.BandsOrder'. -/
def bandsOrderCard : Claim7 := { stood := { row := bandsOrderRow, standIns := [], harness := (true, "87db10bd25bb81846dea5d9bedfa1ec30f85f4c97a3676e05992a9ec3cf96b75"), looks := false }, kinds := [], alts := [], laidByText := true, laidKinds := [.data, .data], laidTests := true, laidLooks := .later }
def BandsOrderCardSaid : Prop := Claim7.holds Tryd.pinned (.plain (OpenSpec.ofChange bandsOrderSpec)) bandsOrderCard

/-- THE TIED CARD OF 'shawmlaw10.BandsTogether'. -/
def bandsTogetherCard : Claim7 := { stood := { row := bandsTogetherRow, standIns := [], harness := (true, "87db10bd25bb81846dea5d9bedfa1ec30f85f4c97a3676e05992a9ec3cf96b75"), looks := false }, kinds := [], alts := [], laidByText := true, laidKinds := [.data, .data], laidTests := true, laidLooks := .later }
def BandsTogetherCardSaid : Prop := Claim7.holds Tryd.pinned (.plain (OpenSpec.ofChange bandsTogetherSpec)) bandsTogetherCard

/-- THE TIED CARD OF 'shawmlaw11.EnergyEnergies'. -/
def energyEnergiesCard : Claim7 := { stood := { row := energyEnergiesRow, standIns := [], harness := (true, "87db10bd25bb81846dea5d9bedfa1ec30f85f4c97a3676e05992a9ec3cf96b75"), looks := false }, kinds := [], alts := [], laidByText := true, laidKinds := [.data, .data], laidTests := true, laidLooks := .later }
def EnergyEnergiesCardSaid : Prop := Claim7.holds Tryd.pinned (.plain (OpenSpec.ofChange energyEnergiesSpec)) energyEnergiesCard

/-- THE TIED CARD OF 'shawmlaw11.EnergyLevels'. -/
def energyLevelsCard : Claim7 := { stood := { row := energyLevelsRow, standIns := [], harness := (true, "87db10bd25bb81846dea5d9bedfa1ec30f85f4c97a3676e05992a9ec3cf96b75"), looks := false }, kinds := [], alts := [], laidByText := true, laidKinds := [.data, .data], laidTests := true, laidLooks := .later }
def EnergyLevelsCardSaid : Prop := Claim7.holds Tryd.pinned (.plain (OpenSpec.ofChange energyLevelsSpec)) energyLevelsCard

/-- THE TIED CARD OF 'shawmlaw11.EnergySpread'. -/
def energySpreadCard : Claim7 := { stood := { row := energySpreadRow, standIns := [], harness := (true, "87db10bd25bb81846dea5d9bedfa1ec30f85f4c97a3676e05992a9ec3cf96b75"), looks := false }, kinds := [], alts := [], laidByText := true, laidKinds := [.data, .data], laidTests := true, laidLooks := .later }
def EnergySpreadCardSaid : Prop := Claim7.holds Tryd.pinned (.plain (OpenSpec.ofChange energySpreadSpec)) energySpreadCard

/-- THE TIED CARD OF 'shawmlaw11.EnergySums'. -/
def energySumsCard : Claim7 := { stood := { row := energySumsRow, standIns := [], harness := (true, "87db10bd25bb81846dea5d9bedfa1ec30f85f4c97a3676e05992a9ec3cf96b75"), looks := false }, kinds := [], alts := [], laidByText := true, laidKinds := [.data, .data], laidTests := true, laidLooks := .later }
def EnergySumsCardSaid : Prop := Claim7.holds Tryd.pinned (.plain (OpenSpec.ofChange energySumsSpec)) energySumsCard

/-- THE TIED CARD OF 'shawmlaw11.EnergySpreads'. -/
def energySpreadsCard : Claim7 := { stood := { row := energySpreadsRow, standIns := [], harness := (true, "87db10bd25bb81846dea5d9bedfa1ec30f85f4c97a3676e05992a9ec3cf96b75"), looks := false }, kinds := [], alts := [], laidByText := true, laidKinds := [.data, .data], laidTests := true, laidLooks := .later }
def EnergySpreadsCardSaid : Prop := Claim7.holds Tryd.pinned (.plain (OpenSpec.ofChange energySpreadsSpec)) energySpreadsCard

/-- THE TIED CARD OF 'shawmlaw11.EnergyRising'. -/
def energyRisingCard : Claim7 := { stood := { row := energyRisingRow, standIns := [], harness := (true, "87db10bd25bb81846dea5d9bedfa1ec30f85f4c97a3676e05992a9ec3cf96b75"), looks := false }, kinds := [], alts := [], laidByText := true, laidKinds := [.data, .data], laidTests := true, laidLooks := .later }
def EnergyRisingCardSaid : Prop := Claim7.holds Tryd.pinned (.plain (OpenSpec.ofChange energyRisingSpec)) energyRisingCard

/-- THE TIED CARD OF 'shawmlaw11.EnergyTones'. -/
def energyTonesCard : Claim7 := { stood := { row := energyTonesRow, standIns := [], harness := (true, "87db10bd25bb81846dea5d9bedfa1ec30f85f4c97a3676e05992a9ec3cf96b75"), looks := false }, kinds := [], alts := [], laidByText := true, laidKinds := [.data, .data], laidTests := true, laidLooks := .later }
def EnergyTonesCardSaid : Prop := Claim7.holds Tryd.pinned (.plain (OpenSpec.ofChange energyTonesSpec)) energyTonesCard

/-- THE SECOND FORM's CARD OF 'shawmlaw10.BandsWidths'. -/
def bandsWidthsUptoCard : Claim7 := { stood := { row := bandsWidthsUptoRow, standIns := [], harness := (true, "87db10bd25bb81846dea5d9bedfa1ec30f85f4c97a3676e05992a9ec3cf96b75"), looks := false }, kinds := [], alts := [], laidByText := true, laidKinds := [.data, .data], laidTests := true, laidLooks := .later }
def BandsWidthsUptoCardSaid : Prop := Claim7.holds Tryd.pinned (.plain (OpenSpec.upto bandsWidthsSpec)) bandsWidthsUptoCard

/-- THE SECOND FORM's CARD OF 'shawmlaw10.BandsGathers'. -/
def bandsGathersUptoCard : Claim7 := { stood := { row := bandsGathersUptoRow, standIns := [], harness := (true, "87db10bd25bb81846dea5d9bedfa1ec30f85f4c97a3676e05992a9ec3cf96b75"), looks := false }, kinds := [], alts := [], laidByText := true, laidKinds := [.data, .data], laidTests := true, laidLooks := .later }
def BandsGathersUptoCardSaid : Prop := Claim7.holds Tryd.pinned (.plain (OpenSpec.upto bandsGathersSpec)) bandsGathersUptoCard

/-- THE SECOND FORM's CARD OF 'shawmlaw10.BandsRanges'. -/
def bandsRangesUptoCard : Claim7 := { stood := { row := bandsRangesUptoRow, standIns := [], harness := (true, "87db10bd25bb81846dea5d9bedfa1ec30f85f4c97a3676e05992a9ec3cf96b75"), looks := false }, kinds := [], alts := [], laidByText := true, laidKinds := [.data, .data], laidTests := true, laidLooks := .later }
def BandsRangesUptoCardSaid : Prop := Claim7.holds Tryd.pinned (.plain (OpenSpec.upto bandsRangesSpec)) bandsRangesUptoCard

/-- THE SECOND FORM's CARD OF 'shawmlaw10.BandsPitch'. -/
def bandsPitchUptoCard : Claim7 := { stood := { row := bandsPitchUptoRow, standIns := [], harness := (true, "87db10bd25bb81846dea5d9bedfa1ec30f85f4c97a3676e05992a9ec3cf96b75"), looks := false }, kinds := [], alts := [], laidByText := true, laidKinds := [.data, .data], laidTests := true, laidLooks := .later }
def BandsPitchUptoCardSaid : Prop := Claim7.holds Tryd.pinned (.plain (OpenSpec.upto bandsPitchSpec)) bandsPitchUptoCard

/-- THE SECOND FORM's CARD OF 'shawmlaw10.BandsOrder'. -/
def bandsOrderUptoCard : Claim7 := { stood := { row := bandsOrderUptoRow, standIns := [], harness := (true, "87db10bd25bb81846dea5d9bedfa1ec30f85f4c97a3676e05992a9ec3cf96b75"), looks := false }, kinds := [], alts := [], laidByText := true, laidKinds := [.data, .data], laidTests := true, laidLooks := .later }
def BandsOrderUptoCardSaid : Prop := Claim7.holds Tryd.pinned (.plain (OpenSpec.upto bandsOrderSpec)) bandsOrderUptoCard

/-- THE SECOND FORM's CARD OF 'shawmlaw10.BandsTogether'. -/
def bandsTogetherUptoCard : Claim7 := { stood := { row := bandsTogetherUptoRow, standIns := [], harness := (true, "87db10bd25bb81846dea5d9bedfa1ec30f85f4c97a3676e05992a9ec3cf96b75"), looks := false }, kinds := [], alts := [], laidByText := true, laidKinds := [.data, .data], laidTests := true, laidLooks := .later }
def BandsTogetherUptoCardSaid : Prop := Claim7.holds Tryd.pinned (.plain (OpenSpec.upto bandsTogetherSpec)) bandsTogetherUptoCard

/-- THE SECOND FORM's CARD OF 'shawmlaw11.EnergyEnergies'. -/
def energyEnergiesUptoCard : Claim7 := { stood := { row := energyEnergiesUptoRow, standIns := [], harness := (true, "87db10bd25bb81846dea5d9bedfa1ec30f85f4c97a3676e05992a9ec3cf96b75"), looks := false }, kinds := [], alts := [], laidByText := true, laidKinds := [.data, .data], laidTests := true, laidLooks := .later }
def EnergyEnergiesUptoCardSaid : Prop := Claim7.holds Tryd.pinned (.plain (OpenSpec.upto energyEnergiesSpec)) energyEnergiesUptoCard

/-- THE SECOND FORM's CARD OF 'shawmlaw11.EnergyLevels'. -/
def energyLevelsUptoCard : Claim7 := { stood := { row := energyLevelsUptoRow, standIns := [], harness := (true, "87db10bd25bb81846dea5d9bedfa1ec30f85f4c97a3676e05992a9ec3cf96b75"), looks := false }, kinds := [], alts := [], laidByText := true, laidKinds := [.data, .data], laidTests := true, laidLooks := .later }
def EnergyLevelsUptoCardSaid : Prop := Claim7.holds Tryd.pinned (.plain (OpenSpec.upto energyLevelsSpec)) energyLevelsUptoCard

/-- THE SECOND FORM's CARD OF 'shawmlaw11.EnergySpread'. -/
def energySpreadUptoCard : Claim7 := { stood := { row := energySpreadUptoRow, standIns := [], harness := (true, "87db10bd25bb81846dea5d9bedfa1ec30f85f4c97a3676e05992a9ec3cf96b75"), looks := false }, kinds := [], alts := [], laidByText := true, laidKinds := [.data, .data], laidTests := true, laidLooks := .later }
def EnergySpreadUptoCardSaid : Prop := Claim7.holds Tryd.pinned (.plain (OpenSpec.upto energySpreadSpec)) energySpreadUptoCard

/-- THE SECOND FORM's CARD OF 'shawmlaw11.EnergySums'. -/
def energySumsUptoCard : Claim7 := { stood := { row := energySumsUptoRow, standIns := [], harness := (true, "87db10bd25bb81846dea5d9bedfa1ec30f85f4c97a3676e05992a9ec3cf96b75"), looks := false }, kinds := [], alts := [], laidByText := true, laidKinds := [.data, .data], laidTests := true, laidLooks := .later }
def EnergySumsUptoCardSaid : Prop := Claim7.holds Tryd.pinned (.plain (OpenSpec.upto energySumsSpec)) energySumsUptoCard

/-- THE SECOND FORM's CARD OF 'shawmlaw11.EnergySpreads'. -/
def energySpreadsUptoCard : Claim7 := { stood := { row := energySpreadsUptoRow, standIns := [], harness := (true, "87db10bd25bb81846dea5d9bedfa1ec30f85f4c97a3676e05992a9ec3cf96b75"), looks := false }, kinds := [], alts := [], laidByText := true, laidKinds := [.data, .data], laidTests := true, laidLooks := .later }
def EnergySpreadsUptoCardSaid : Prop := Claim7.holds Tryd.pinned (.plain (OpenSpec.upto energySpreadsSpec)) energySpreadsUptoCard

/-- THE SECOND FORM's CARD OF 'shawmlaw11.EnergyRising'. -/
def energyRisingUptoCard : Claim7 := { stood := { row := energyRisingUptoRow, standIns := [], harness := (true, "87db10bd25bb81846dea5d9bedfa1ec30f85f4c97a3676e05992a9ec3cf96b75"), looks := false }, kinds := [], alts := [], laidByText := true, laidKinds := [.data, .data], laidTests := true, laidLooks := .later }
def EnergyRisingUptoCardSaid : Prop := Claim7.holds Tryd.pinned (.plain (OpenSpec.upto energyRisingSpec)) energyRisingUptoCard

/-- THE SECOND FORM's CARD OF 'shawmlaw11.EnergyTones'. -/
def energyTonesUptoCard : Claim7 := { stood := { row := energyTonesUptoRow, standIns := [], harness := (true, "87db10bd25bb81846dea5d9bedfa1ec30f85f4c97a3676e05992a9ec3cf96b75"), looks := false }, kinds := [], alts := [], laidByText := true, laidKinds := [.data, .data], laidTests := true, laidLooks := .later }
def EnergyTonesUptoCardSaid : Prop := Claim7.holds Tryd.pinned (.plain (OpenSpec.upto energyTonesSpec)) energyTonesUptoCard
end Rows
end Go.Proofs.YtgdndcbcdoogpaaDoor
