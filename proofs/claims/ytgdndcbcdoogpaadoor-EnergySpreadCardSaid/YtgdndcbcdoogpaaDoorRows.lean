/-
  NARROWER THAN 'FOR EVERY INPUT', by the rows' own cells (each row's printed sentence says how): BandsWidths: laid · BandsGathers: laid · BandsRanges: laid · BandsPitch: laid · BandsOrder: laid · BandsTogether: laid · EnergyEnergies: laid · EnergyLevels: laid · EnergySpread: laid · EnergySums: laid · EnergySpreads: laid · EnergyRising: laid · EnergyTones: laid.
  DERIVED. THE GIVEN ROWS OF THIS SEAT. 13 by the template 'for every input the law returns true; each argument reads behind the call as it read before'; 0 by the template 'total and deterministic' (their statements: YtgdndcbcdoogpaaDoorTotals.lean).
  GIVEN WITH THE SEED: the statements are not yours to turn. If you find one false, say at which input.
  Laid BY PROGRAM, IN A SANDBOX (cutbox-rows.mjs): the forced cells as the released guide's own fill.sh prints them over the translation 3dff9ead960ec7f2… (all of the seat's roots in one cut). By AI agents, Wed Nov 11 2026. No macro, syntax, notation, axiom, sorry.
-/
import Derived.Test.YtgdndcbcdoogpaaDoorChecked
import GoSem.Claim
import GoSem.ClaimJoined
import GoSem.ClaimMapViews
import Derived.JoinedTies
import Derived.KernelRfl
namespace Go.Proofs.YtgdndcbcdoogpaaDoor
/- THE CELL 'sum', in the pinned program and in every row, IS THE sha256 OF THE DUMP (.gsa) THAT YtgdndcbcdoogpaaDoorProg.lean LOADS. Nothing in Lean hashes anything: it is a label: what it is worth is what the hold of that sum in a sandbox is worth. -/
noncomputable def Tryd.pinned : Pinned := { name := "ytgdndcbcdoogpaadoor", sum := "3dff9ead960ec7f21a5f67db93bc1bcdbee45c83b7550dcf2a6e4216eb55f346", checked := Tryd.checked }
namespace Rows
def none {H : Type} : Left H := { results := [], args := [] }

/- WHAT THE LISTED PACKAGE-LEVEL VARIABLES READ AS WHEN THE CALL BEGINS. Each datum BY PROGRAM (the guide's laid-datum.mjs) off the statement by which the dump's own 'gosem.cut.vars' lays the variable. In a bare row this is a premise. The card (YtgdndcbcdoogpaaDoorCards.lean) ties it to the program's text. -/
def laid_shawm_bands_longWidths {H : Type} : DataW H := .agg [.lit (.int .i64 4), .lit (.int .i64 4), .lit (.int .i64 4), .lit (.int .i64 4), .lit (.int .i64 4), .lit (.int .i64 4), .lit (.int .i64 4), .lit (.int .i64 8), .lit (.int .i64 8), .lit (.int .i64 8), .lit (.int .i64 12), .lit (.int .i64 12), .lit (.int .i64 16), .lit (.int .i64 16), .lit (.int .i64 20)]
def laid_shawm_bands_shortWidths {H : Type} : DataW H := .agg [.lit (.int .i64 2), .lit (.int .i64 2), .lit (.int .i64 4), .lit (.int .i64 8)]

/-- 'shawmlaw10.BandsWidths': WHATEVER THE INPUT: true; the input reads as it did. -/
def bandsWidthsSpec : ChangeSpec := { name := "bandsWidths", fn := fun _ => fun
  | [d1, d2] => { results := [.lit (.bool true)], args := [d1, d2] }
  | _ => none }
def bandsWidthsRow : OpenClaim := { program := "ytgdndcbcdoogpaadoor", sum := "3dff9ead960ec7f21a5f67db93bc1bcdbee45c83b7550dcf2a6e4216eb55f346", func := "shawm/shawmlaw10.BandsWidths", spec := "bandsWidths", unfollowed := true, recurses := true, named := ["shawm/bands.shortWidths", "shawm/bands.longWidths"], apart := false, laid := [("shawm/bands.longWidths", laid_shawm_bands_longWidths), ("shawm/bands.shortWidths", laid_shawm_bands_shortWidths)] }
def BandsWidthsSaid : Prop := bandsWidthsRow.holds Tryd.pinned (OpenSpec.ofChange bandsWidthsSpec)

/-- ITS FALSE NEIGHBOUR: 'it returns false'. Refute it at one input. -/
def bandsWidthsWrong : ChangeSpec := { name := "bandsWidths", fn := fun _ => fun
  | [d1, d2] => { results := [.lit (.bool false)], args := [d1, d2] }
  | _ => none }
def BandsWidthsWrongFalsely : Prop := bandsWidthsRow.holds Tryd.pinned (OpenSpec.ofChange bandsWidthsWrong)

/-- 'shawmlaw10.BandsGathers': WHATEVER THE INPUT: true; the input reads as it did. -/
def bandsGathersSpec : ChangeSpec := { name := "bandsGathers", fn := fun _ => fun
  | [d1, d2, d3] => { results := [.lit (.bool true)], args := [d1, d2, d3] }
  | _ => none }
def bandsGathersRow : OpenClaim := { program := "ytgdndcbcdoogpaadoor", sum := "3dff9ead960ec7f21a5f67db93bc1bcdbee45c83b7550dcf2a6e4216eb55f346", func := "shawm/shawmlaw10.BandsGathers", spec := "bandsGathers", unfollowed := true, recurses := true, named := ["shawm/bands.shortWidths", "shawm/bands.longWidths"], apart := false, laid := [("shawm/bands.longWidths", laid_shawm_bands_longWidths), ("shawm/bands.shortWidths", laid_shawm_bands_shortWidths)] }
def BandsGathersSaid : Prop := bandsGathersRow.holds Tryd.pinned (OpenSpec.ofChange bandsGathersSpec)

/-- ITS FALSE NEIGHBOUR: 'it returns false'. Refute it at one input. -/
def bandsGathersWrong : ChangeSpec := { name := "bandsGathers", fn := fun _ => fun
  | [d1, d2, d3] => { results := [.lit (.bool false)], args := [d1, d2, d3] }
  | _ => none }
def BandsGathersWrongFalsely : Prop := bandsGathersRow.holds Tryd.pinned (OpenSpec.ofChange bandsGathersWrong)

/-- 'shawmlaw10.BandsRanges': WHATEVER THE INPUT: true; the input reads as it did. -/
def bandsRangesSpec : ChangeSpec := { name := "bandsRanges", fn := fun _ => fun
  | [d1, d2, d3] => { results := [.lit (.bool true)], args := [d1, d2, d3] }
  | _ => none }
def bandsRangesRow : OpenClaim := { program := "ytgdndcbcdoogpaadoor", sum := "3dff9ead960ec7f21a5f67db93bc1bcdbee45c83b7550dcf2a6e4216eb55f346", func := "shawm/shawmlaw10.BandsRanges", spec := "bandsRanges", unfollowed := true, recurses := true, named := ["shawm/bands.shortWidths", "shawm/bands.longWidths"], apart := false, laid := [("shawm/bands.longWidths", laid_shawm_bands_longWidths), ("shawm/bands.shortWidths", laid_shawm_bands_shortWidths)] }
def BandsRangesSaid : Prop := bandsRangesRow.holds Tryd.pinned (OpenSpec.ofChange bandsRangesSpec)

/-- ITS FALSE NEIGHBOUR: 'it returns false'. Refute it at one input. -/
def bandsRangesWrong : ChangeSpec := { name := "bandsRanges", fn := fun _ => fun
  | [d1, d2, d3] => { results := [.lit (.bool false)], args := [d1, d2, d3] }
  | _ => none }
def BandsRangesWrongFalsely : Prop := bandsRangesRow.holds Tryd.pinned (OpenSpec.ofChange bandsRangesWrong)

/-- 'shawmlaw10.BandsPitch': WHATEVER THE INPUT: true; the input reads as it did. -/
def bandsPitchSpec : ChangeSpec := { name := "bandsPitch", fn := fun _ => fun
  | [d1, d2, d3] => { results := [.lit (.bool true)], args := [d1, d2, d3] }
  | _ => none }
def bandsPitchRow : OpenClaim := { program := "ytgdndcbcdoogpaadoor", sum := "3dff9ead960ec7f21a5f67db93bc1bcdbee45c83b7550dcf2a6e4216eb55f346", func := "shawm/shawmlaw10.BandsPitch", spec := "bandsPitch", unfollowed := true, recurses := true, named := ["shawm/bands.shortWidths", "shawm/bands.longWidths"], apart := false, laid := [("shawm/bands.longWidths", laid_shawm_bands_longWidths), ("shawm/bands.shortWidths", laid_shawm_bands_shortWidths)] }
def BandsPitchSaid : Prop := bandsPitchRow.holds Tryd.pinned (OpenSpec.ofChange bandsPitchSpec)

/-- ITS FALSE NEIGHBOUR: 'it returns false'. Refute it at one input. -/
def bandsPitchWrong : ChangeSpec := { name := "bandsPitch", fn := fun _ => fun
  | [d1, d2, d3] => { results := [.lit (.bool false)], args := [d1, d2, d3] }
  | _ => none }
def BandsPitchWrongFalsely : Prop := bandsPitchRow.holds Tryd.pinned (OpenSpec.ofChange bandsPitchWrong)

/-- 'shawmlaw10.BandsOrder': WHATEVER THE INPUT: true; the input reads as it did. -/
def bandsOrderSpec : ChangeSpec := { name := "bandsOrder", fn := fun _ => fun
  | [d1, d2, d3] => { results := [.lit (.bool true)], args := [d1, d2, d3] }
  | _ => none }
def bandsOrderRow : OpenClaim := { program := "ytgdndcbcdoogpaadoor", sum := "3dff9ead960ec7f21a5f67db93bc1bcdbee45c83b7550dcf2a6e4216eb55f346", func := "shawm/shawmlaw10.BandsOrder", spec := "bandsOrder", unfollowed := true, recurses := true, named := ["shawm/bands.shortWidths", "shawm/bands.longWidths"], apart := false, laid := [("shawm/bands.longWidths", laid_shawm_bands_longWidths), ("shawm/bands.shortWidths", laid_shawm_bands_shortWidths)] }
def BandsOrderSaid : Prop := bandsOrderRow.holds Tryd.pinned (OpenSpec.ofChange bandsOrderSpec)

/-- ITS FALSE NEIGHBOUR: 'it returns false'. Refute it at one input. -/
def bandsOrderWrong : ChangeSpec := { name := "bandsOrder", fn := fun _ => fun
  | [d1, d2, d3] => { results := [.lit (.bool false)], args := [d1, d2, d3] }
  | _ => none }
def BandsOrderWrongFalsely : Prop := bandsOrderRow.holds Tryd.pinned (OpenSpec.ofChange bandsOrderWrong)

/-- 'shawmlaw10.BandsTogether': WHATEVER THE INPUT: true; the input reads as it did. -/
def bandsTogetherSpec : ChangeSpec := { name := "bandsTogether", fn := fun _ => fun
  | [d1, d2] => { results := [.lit (.bool true)], args := [d1, d2] }
  | _ => none }
def bandsTogetherRow : OpenClaim := { program := "ytgdndcbcdoogpaadoor", sum := "3dff9ead960ec7f21a5f67db93bc1bcdbee45c83b7550dcf2a6e4216eb55f346", func := "shawm/shawmlaw10.BandsTogether", spec := "bandsTogether", unfollowed := true, recurses := true, named := ["shawm/bands.shortWidths", "shawm/bands.longWidths"], apart := false, laid := [("shawm/bands.longWidths", laid_shawm_bands_longWidths), ("shawm/bands.shortWidths", laid_shawm_bands_shortWidths)] }
def BandsTogetherSaid : Prop := bandsTogetherRow.holds Tryd.pinned (OpenSpec.ofChange bandsTogetherSpec)

/-- ITS FALSE NEIGHBOUR: 'it returns false'. Refute it at one input. -/
def bandsTogetherWrong : ChangeSpec := { name := "bandsTogether", fn := fun _ => fun
  | [d1, d2] => { results := [.lit (.bool false)], args := [d1, d2] }
  | _ => none }
def BandsTogetherWrongFalsely : Prop := bandsTogetherRow.holds Tryd.pinned (OpenSpec.ofChange bandsTogetherWrong)

/-- 'shawmlaw11.EnergyEnergies': WHATEVER THE INPUT: true; the input reads as it did. -/
def energyEnergiesSpec : ChangeSpec := { name := "energyEnergies", fn := fun _ => fun
  | [d1, d2, d3] => { results := [.lit (.bool true)], args := [d1, d2, d3] }
  | _ => none }
def energyEnergiesRow : OpenClaim := { program := "ytgdndcbcdoogpaadoor", sum := "3dff9ead960ec7f21a5f67db93bc1bcdbee45c83b7550dcf2a6e4216eb55f346", func := "shawm/shawmlaw11.EnergyEnergies", spec := "energyEnergies", unfollowed := true, recurses := true, named := ["shawm/bands.shortWidths", "shawm/bands.longWidths"], apart := false, laid := [("shawm/bands.longWidths", laid_shawm_bands_longWidths), ("shawm/bands.shortWidths", laid_shawm_bands_shortWidths)] }
def EnergyEnergiesSaid : Prop := energyEnergiesRow.holds Tryd.pinned (OpenSpec.ofChange energyEnergiesSpec)

/-- ITS FALSE NEIGHBOUR: 'it returns false'. Refute it at one input. -/
def energyEnergiesWrong : ChangeSpec := { name := "energyEnergies", fn := fun _ => fun
  | [d1, d2, d3] => { results := [.lit (.bool false)], args := [d1, d2, d3] }
  | _ => none }
def EnergyEnergiesWrongFalsely : Prop := energyEnergiesRow.holds Tryd.pinned (OpenSpec.ofChange energyEnergiesWrong)

/-- 'shawmlaw11.EnergyLevels': WHATEVER THE INPUT: true; the input reads as it did. -/
def energyLevelsSpec : ChangeSpec := { name := "energyLevels", fn := fun _ => fun
  | [d1, d2] => { results := [.lit (.bool true)], args := [d1, d2] }
  | _ => none }
def energyLevelsRow : OpenClaim := { program := "ytgdndcbcdoogpaadoor", sum := "3dff9ead960ec7f21a5f67db93bc1bcdbee45c83b7550dcf2a6e4216eb55f346", func := "shawm/shawmlaw11.EnergyLevels", spec := "energyLevels", unfollowed := true, recurses := true, named := ["shawm/bands.shortWidths", "shawm/bands.longWidths"], apart := false, laid := [("shawm/bands.longWidths", laid_shawm_bands_longWidths), ("shawm/bands.shortWidths", laid_shawm_bands_shortWidths)] }
def EnergyLevelsSaid : Prop := energyLevelsRow.holds Tryd.pinned (OpenSpec.ofChange energyLevelsSpec)

/-- ITS FALSE NEIGHBOUR: 'it returns false'. Refute it at one input. -/
def energyLevelsWrong : ChangeSpec := { name := "energyLevels", fn := fun _ => fun
  | [d1, d2] => { results := [.lit (.bool false)], args := [d1, d2] }
  | _ => none }
def EnergyLevelsWrongFalsely : Prop := energyLevelsRow.holds Tryd.pinned (OpenSpec.ofChange energyLevelsWrong)

/-- 'shawmlaw11.EnergySpread': WHATEVER THE INPUT: true; the input reads as it did. -/
def energySpreadSpec : ChangeSpec := { name := "energySpread", fn := fun _ => fun
  | [d1, d2] => { results := [.lit (.bool true)], args := [d1, d2] }
  | _ => none }
def energySpreadRow : OpenClaim := { program := "ytgdndcbcdoogpaadoor", sum := "3dff9ead960ec7f21a5f67db93bc1bcdbee45c83b7550dcf2a6e4216eb55f346", func := "shawm/shawmlaw11.EnergySpread", spec := "energySpread", unfollowed := true, recurses := true, named := ["shawm/bands.shortWidths", "shawm/bands.longWidths"], apart := false, laid := [("shawm/bands.longWidths", laid_shawm_bands_longWidths), ("shawm/bands.shortWidths", laid_shawm_bands_shortWidths)] }
def EnergySpreadSaid : Prop := energySpreadRow.holds Tryd.pinned (OpenSpec.ofChange energySpreadSpec)

/-- ITS FALSE NEIGHBOUR: 'it returns false'. Refute it at one input. -/
def energySpreadWrong : ChangeSpec := { name := "energySpread", fn := fun _ => fun
  | [d1, d2] => { results := [.lit (.bool false)], args := [d1, d2] }
  | _ => none }
def EnergySpreadWrongFalsely : Prop := energySpreadRow.holds Tryd.pinned (OpenSpec.ofChange energySpreadWrong)

/-- 'shawmlaw11.EnergySums': WHATEVER THE INPUT: true; the input reads as it did. -/
def energySumsSpec : ChangeSpec := { name := "energySums", fn := fun _ => fun
  | [d1, d2] => { results := [.lit (.bool true)], args := [d1, d2] }
  | _ => none }
def energySumsRow : OpenClaim := { program := "ytgdndcbcdoogpaadoor", sum := "3dff9ead960ec7f21a5f67db93bc1bcdbee45c83b7550dcf2a6e4216eb55f346", func := "shawm/shawmlaw11.EnergySums", spec := "energySums", unfollowed := true, recurses := true, named := ["shawm/bands.shortWidths", "shawm/bands.longWidths"], apart := false, laid := [("shawm/bands.longWidths", laid_shawm_bands_longWidths), ("shawm/bands.shortWidths", laid_shawm_bands_shortWidths)] }
def EnergySumsSaid : Prop := energySumsRow.holds Tryd.pinned (OpenSpec.ofChange energySumsSpec)

/-- ITS FALSE NEIGHBOUR: 'it returns false'. Refute it at one input. -/
def energySumsWrong : ChangeSpec := { name := "energySums", fn := fun _ => fun
  | [d1, d2] => { results := [.lit (.bool false)], args := [d1, d2] }
  | _ => none }
def EnergySumsWrongFalsely : Prop := energySumsRow.holds Tryd.pinned (OpenSpec.ofChange energySumsWrong)

/-- 'shawmlaw11.EnergySpreads': WHATEVER THE INPUT: true; the input reads as it did. -/
def energySpreadsSpec : ChangeSpec := { name := "energySpreads", fn := fun _ => fun
  | [d1, d2, d3] => { results := [.lit (.bool true)], args := [d1, d2, d3] }
  | _ => none }
def energySpreadsRow : OpenClaim := { program := "ytgdndcbcdoogpaadoor", sum := "3dff9ead960ec7f21a5f67db93bc1bcdbee45c83b7550dcf2a6e4216eb55f346", func := "shawm/shawmlaw11.EnergySpreads", spec := "energySpreads", unfollowed := true, recurses := true, named := ["shawm/bands.shortWidths", "shawm/bands.longWidths"], apart := false, laid := [("shawm/bands.longWidths", laid_shawm_bands_longWidths), ("shawm/bands.shortWidths", laid_shawm_bands_shortWidths)] }
def EnergySpreadsSaid : Prop := energySpreadsRow.holds Tryd.pinned (OpenSpec.ofChange energySpreadsSpec)

/-- ITS FALSE NEIGHBOUR: 'it returns false'. Refute it at one input. -/
def energySpreadsWrong : ChangeSpec := { name := "energySpreads", fn := fun _ => fun
  | [d1, d2, d3] => { results := [.lit (.bool false)], args := [d1, d2, d3] }
  | _ => none }
def EnergySpreadsWrongFalsely : Prop := energySpreadsRow.holds Tryd.pinned (OpenSpec.ofChange energySpreadsWrong)

/-- 'shawmlaw11.EnergyRising': WHATEVER THE INPUT: true; the input reads as it did. -/
def energyRisingSpec : ChangeSpec := { name := "energyRising", fn := fun _ => fun
  | [d1, d2, d3] => { results := [.lit (.bool true)], args := [d1, d2, d3] }
  | _ => none }
def energyRisingRow : OpenClaim := { program := "ytgdndcbcdoogpaadoor", sum := "3dff9ead960ec7f21a5f67db93bc1bcdbee45c83b7550dcf2a6e4216eb55f346", func := "shawm/shawmlaw11.EnergyRising", spec := "energyRising", unfollowed := true, recurses := true, named := ["shawm/bands.shortWidths", "shawm/bands.longWidths"], apart := false, laid := [("shawm/bands.longWidths", laid_shawm_bands_longWidths), ("shawm/bands.shortWidths", laid_shawm_bands_shortWidths)] }
def EnergyRisingSaid : Prop := energyRisingRow.holds Tryd.pinned (OpenSpec.ofChange energyRisingSpec)

/-- ITS FALSE NEIGHBOUR: 'it returns false'. Refute it at one input. -/
def energyRisingWrong : ChangeSpec := { name := "energyRising", fn := fun _ => fun
  | [d1, d2, d3] => { results := [.lit (.bool false)], args := [d1, d2, d3] }
  | _ => none }
def EnergyRisingWrongFalsely : Prop := energyRisingRow.holds Tryd.pinned (OpenSpec.ofChange energyRisingWrong)

/-- 'shawmlaw11.EnergyTones': WHATEVER THE INPUT: true; the input reads as it did. -/
def energyTonesSpec : ChangeSpec := { name := "energyTones", fn := fun _ => fun
  | [d1, d2, d3] => { results := [.lit (.bool true)], args := [d1, d2, d3] }
  | _ => none }
def energyTonesRow : OpenClaim := { program := "ytgdndcbcdoogpaadoor", sum := "3dff9ead960ec7f21a5f67db93bc1bcdbee45c83b7550dcf2a6e4216eb55f346", func := "shawm/shawmlaw11.EnergyTones", spec := "energyTones", unfollowed := true, recurses := true, named := ["shawm/bands.shortWidths", "shawm/bands.longWidths"], apart := false, laid := [("shawm/bands.longWidths", laid_shawm_bands_longWidths), ("shawm/bands.shortWidths", laid_shawm_bands_shortWidths)] }
def EnergyTonesSaid : Prop := energyTonesRow.holds Tryd.pinned (OpenSpec.ofChange energyTonesSpec)

/-- ITS FALSE NEIGHBOUR: 'it returns false'. Refute it at one input. -/
def energyTonesWrong : ChangeSpec := { name := "energyTones", fn := fun _ => fun
  | [d1, d2, d3] => { results := [.lit (.bool false)], args := [d1, d2, d3] }
  | _ => none }
def EnergyTonesWrongFalsely : Prop := energyTonesRow.holds Tryd.pinned (OpenSpec.ofChange energyTonesWrong)

/- THE SECOND FORM. 'bulk': how many values and letters a reading holds, each counted each time it is reached (what is shared counts as often as it is met; a slice's spare places count too). A statement '..UptoSaid' is the law's where the arguments, and the package variables that the reading takes, are together of bulk at most 1048576: NARROWER than '..Said'. Prove '..Said' where nothing that the law and all that it calls make is longer than what came in: it says more and counts as full. Else prove '..UptoSaid'. A law counts once. -/
mutual
def uptoBulk {H : Type} : DataW H → Nat
  | .lit (.string bytes) => bytes.length + 1
  | .lit _ => 1
  | .nil => 1
  | .ptr d => uptoBulk d + 1
  | .slice elems spare => uptoBulkAll elems + uptoBulkAll spare + 1
  | .agg parts => uptoBulkAll parts + 1
  | .iface _ d => uptoBulk d + 1
  | .map entries => uptoBulkEntries entries + 1
  | .held _ => 1
def uptoBulkAll {H : Type} : List (DataW H) → Nat
  | [] => 0
  | d :: r => uptoBulk d + uptoBulkAll r
def uptoBulkEntries {H : Type} : List (Lit × DataW H) → Nat
  | [] => 0
  | x :: r => uptoBulkEntry x + uptoBulkEntries r
def uptoBulkEntry {H : Type} : Lit × DataW H → Nat
  | (.string bytes, d) => bytes.length + uptoBulk d + 1
  | (_, d) => uptoBulk d + 1
 end
def uptoSmall : (H : Type) → List (DataW H) → Bool := fun _ ds => decide (uptoBulkAll ds ≤ 1048576)
def OpenSpec.upto (s : _root_.Go.ChangeSpec) : _root_.Go.OpenSpec := { _root_.Go.OpenSpec.ofChange s with cond := some uptoSmall }

/-- 'shawmlaw10.BandsWidths', WHERE WHAT IT READS IS OF BULK AT MOST 1048576: true; the input reads as it did. -/
def bandsWidthsUptoRow : OpenClaim := { program := "ytgdndcbcdoogpaadoor", sum := "3dff9ead960ec7f21a5f67db93bc1bcdbee45c83b7550dcf2a6e4216eb55f346", func := "shawm/shawmlaw10.BandsWidths", spec := "bandsWidths", unfollowed := true, recurses := true, named := ["shawm/bands.shortWidths", "shawm/bands.longWidths"], apart := false, laid := [("shawm/bands.longWidths", laid_shawm_bands_longWidths), ("shawm/bands.shortWidths", laid_shawm_bands_shortWidths)], narrowed := true }
def BandsWidthsUptoSaid : Prop := bandsWidthsUptoRow.holds Tryd.pinned (OpenSpec.upto bandsWidthsSpec)

/-- 'shawmlaw10.BandsGathers', WHERE WHAT IT READS IS OF BULK AT MOST 1048576: true; the input reads as it did. -/
def bandsGathersUptoRow : OpenClaim := { program := "ytgdndcbcdoogpaadoor", sum := "3dff9ead960ec7f21a5f67db93bc1bcdbee45c83b7550dcf2a6e4216eb55f346", func := "shawm/shawmlaw10.BandsGathers", spec := "bandsGathers", unfollowed := true, recurses := true, named := ["shawm/bands.shortWidths", "shawm/bands.longWidths"], apart := false, laid := [("shawm/bands.longWidths", laid_shawm_bands_longWidths), ("shawm/bands.shortWidths", laid_shawm_bands_shortWidths)], narrowed := true }
def BandsGathersUptoSaid : Prop := bandsGathersUptoRow.holds Tryd.pinned (OpenSpec.upto bandsGathersSpec)

/-- 'shawmlaw10.BandsRanges', WHERE WHAT IT READS IS OF BULK AT MOST 1048576: true; the input reads as it did. -/
def bandsRangesUptoRow : OpenClaim := { program := "ytgdndcbcdoogpaadoor", sum := "3dff9ead960ec7f21a5f67db93bc1bcdbee45c83b7550dcf2a6e4216eb55f346", func := "shawm/shawmlaw10.BandsRanges", spec := "bandsRanges", unfollowed := true, recurses := true, named := ["shawm/bands.shortWidths", "shawm/bands.longWidths"], apart := false, laid := [("shawm/bands.longWidths", laid_shawm_bands_longWidths), ("shawm/bands.shortWidths", laid_shawm_bands_shortWidths)], narrowed := true }
def BandsRangesUptoSaid : Prop := bandsRangesUptoRow.holds Tryd.pinned (OpenSpec.upto bandsRangesSpec)

/-- 'shawmlaw10.BandsPitch', WHERE WHAT IT READS IS OF BULK AT MOST 1048576: true; the input reads as it did. -/
def bandsPitchUptoRow : OpenClaim := { program := "ytgdndcbcdoogpaadoor", sum := "3dff9ead960ec7f21a5f67db93bc1bcdbee45c83b7550dcf2a6e4216eb55f346", func := "shawm/shawmlaw10.BandsPitch", spec := "bandsPitch", unfollowed := true, recurses := true, named := ["shawm/bands.shortWidths", "shawm/bands.longWidths"], apart := false, laid := [("shawm/bands.longWidths", laid_shawm_bands_longWidths), ("shawm/bands.shortWidths", laid_shawm_bands_shortWidths)], narrowed := true }
def BandsPitchUptoSaid : Prop := bandsPitchUptoRow.holds Tryd.pinned (OpenSpec.upto bandsPitchSpec)

/-- 'shawmlaw10.BandsOrder', WHERE WHAT IT READS IS OF BULK AT MOST 1048576: true; the input reads as it did. -/
def bandsOrderUptoRow : OpenClaim := { program := "ytgdndcbcdoogpaadoor", sum := "3dff9ead960ec7f21a5f67db93bc1bcdbee45c83b7550dcf2a6e4216eb55f346", func := "shawm/shawmlaw10.BandsOrder", spec := "bandsOrder", unfollowed := true, recurses := true, named := ["shawm/bands.shortWidths", "shawm/bands.longWidths"], apart := false, laid := [("shawm/bands.longWidths", laid_shawm_bands_longWidths), ("shawm/bands.shortWidths", laid_shawm_bands_shortWidths)], narrowed := true }
def BandsOrderUptoSaid : Prop := bandsOrderUptoRow.holds Tryd.pinned (OpenSpec.upto bandsOrderSpec)

/-- 'shawmlaw10.BandsTogether', WHERE WHAT IT READS IS OF BULK AT MOST 1048576: true; the input reads as it did. -/
def bandsTogetherUptoRow : OpenClaim := { program := "ytgdndcbcdoogpaadoor", sum := "3dff9ead960ec7f21a5f67db93bc1bcdbee45c83b7550dcf2a6e4216eb55f346", func := "shawm/shawmlaw10.BandsTogether", spec := "bandsTogether", unfollowed := true, recurses := true, named := ["shawm/bands.shortWidths", "shawm/bands.longWidths"], apart := false, laid := [("shawm/bands.longWidths", laid_shawm_bands_longWidths), ("shawm/bands.shortWidths", laid_shawm_bands_shortWidths)], narrowed := true }
def BandsTogetherUptoSaid : Prop := bandsTogetherUptoRow.holds Tryd.pinned (OpenSpec.upto bandsTogetherSpec)

/-- 'shawmlaw11.EnergyEnergies', WHERE WHAT IT READS IS OF BULK AT MOST 1048576: true; the input reads as it did. -/
def energyEnergiesUptoRow : OpenClaim := { program := "ytgdndcbcdoogpaadoor", sum := "3dff9ead960ec7f21a5f67db93bc1bcdbee45c83b7550dcf2a6e4216eb55f346", func := "shawm/shawmlaw11.EnergyEnergies", spec := "energyEnergies", unfollowed := true, recurses := true, named := ["shawm/bands.shortWidths", "shawm/bands.longWidths"], apart := false, laid := [("shawm/bands.longWidths", laid_shawm_bands_longWidths), ("shawm/bands.shortWidths", laid_shawm_bands_shortWidths)], narrowed := true }
def EnergyEnergiesUptoSaid : Prop := energyEnergiesUptoRow.holds Tryd.pinned (OpenSpec.upto energyEnergiesSpec)

/-- 'shawmlaw11.EnergyLevels', WHERE WHAT IT READS IS OF BULK AT MOST 1048576: true; the input reads as it did. -/
def energyLevelsUptoRow : OpenClaim := { program := "ytgdndcbcdoogpaadoor", sum := "3dff9ead960ec7f21a5f67db93bc1bcdbee45c83b7550dcf2a6e4216eb55f346", func := "shawm/shawmlaw11.EnergyLevels", spec := "energyLevels", unfollowed := true, recurses := true, named := ["shawm/bands.shortWidths", "shawm/bands.longWidths"], apart := false, laid := [("shawm/bands.longWidths", laid_shawm_bands_longWidths), ("shawm/bands.shortWidths", laid_shawm_bands_shortWidths)], narrowed := true }
def EnergyLevelsUptoSaid : Prop := energyLevelsUptoRow.holds Tryd.pinned (OpenSpec.upto energyLevelsSpec)

/-- 'shawmlaw11.EnergySpread', WHERE WHAT IT READS IS OF BULK AT MOST 1048576: true; the input reads as it did. -/
def energySpreadUptoRow : OpenClaim := { program := "ytgdndcbcdoogpaadoor", sum := "3dff9ead960ec7f21a5f67db93bc1bcdbee45c83b7550dcf2a6e4216eb55f346", func := "shawm/shawmlaw11.EnergySpread", spec := "energySpread", unfollowed := true, recurses := true, named := ["shawm/bands.shortWidths", "shawm/bands.longWidths"], apart := false, laid := [("shawm/bands.longWidths", laid_shawm_bands_longWidths), ("shawm/bands.shortWidths", laid_shawm_bands_shortWidths)], narrowed := true }
def EnergySpreadUptoSaid : Prop := energySpreadUptoRow.holds Tryd.pinned (OpenSpec.upto energySpreadSpec)

/-- 'shawmlaw11.EnergySums', WHERE WHAT IT READS IS OF BULK AT MOST 1048576: true; the input reads as it did. -/
def energySumsUptoRow : OpenClaim := { program := "ytgdndcbcdoogpaadoor", sum := "3dff9ead960ec7f21a5f67db93bc1bcdbee45c83b7550dcf2a6e4216eb55f346", func := "shawm/shawmlaw11.EnergySums", spec := "energySums", unfollowed := true, recurses := true, named := ["shawm/bands.shortWidths", "shawm/bands.longWidths"], apart := false, laid := [("shawm/bands.longWidths", laid_shawm_bands_longWidths), ("shawm/bands.shortWidths", laid_shawm_bands_shortWidths)], narrowed := true }
def EnergySumsUptoSaid : Prop := energySumsUptoRow.holds Tryd.pinned (OpenSpec.upto energySumsSpec)

/-- 'shawmlaw11.EnergySpreads', WHERE WHAT IT READS IS OF BULK AT MOST 1048576: true; the input reads as it did. -/
def energySpreadsUptoRow : OpenClaim := { program := "ytgdndcbcdoogpaadoor", sum := "3dff9ead960ec7f21a5f67db93bc1bcdbee45c83b7550dcf2a6e4216eb55f346", func := "shawm/shawmlaw11.EnergySpreads", spec := "energySpreads", unfollowed := true, recurses := true, named := ["shawm/bands.shortWidths", "shawm/bands.longWidths"], apart := false, laid := [("shawm/bands.longWidths", laid_shawm_bands_longWidths), ("shawm/bands.shortWidths", laid_shawm_bands_shortWidths)], narrowed := true }
def EnergySpreadsUptoSaid : Prop := energySpreadsUptoRow.holds Tryd.pinned (OpenSpec.upto energySpreadsSpec)

/-- 'shawmlaw11.EnergyRising', WHERE WHAT IT READS IS OF BULK AT MOST 1048576: true; the input reads as it did. -/
def energyRisingUptoRow : OpenClaim := { program := "ytgdndcbcdoogpaadoor", sum := "3dff9ead960ec7f21a5f67db93bc1bcdbee45c83b7550dcf2a6e4216eb55f346", func := "shawm/shawmlaw11.EnergyRising", spec := "energyRising", unfollowed := true, recurses := true, named := ["shawm/bands.shortWidths", "shawm/bands.longWidths"], apart := false, laid := [("shawm/bands.longWidths", laid_shawm_bands_longWidths), ("shawm/bands.shortWidths", laid_shawm_bands_shortWidths)], narrowed := true }
def EnergyRisingUptoSaid : Prop := energyRisingUptoRow.holds Tryd.pinned (OpenSpec.upto energyRisingSpec)

/-- 'shawmlaw11.EnergyTones', WHERE WHAT IT READS IS OF BULK AT MOST 1048576: true; the input reads as it did. -/
def energyTonesUptoRow : OpenClaim := { program := "ytgdndcbcdoogpaadoor", sum := "3dff9ead960ec7f21a5f67db93bc1bcdbee45c83b7550dcf2a6e4216eb55f346", func := "shawm/shawmlaw11.EnergyTones", spec := "energyTones", unfollowed := true, recurses := true, named := ["shawm/bands.shortWidths", "shawm/bands.longWidths"], apart := false, laid := [("shawm/bands.longWidths", laid_shawm_bands_longWidths), ("shawm/bands.shortWidths", laid_shawm_bands_shortWidths)], narrowed := true }
def EnergyTonesUptoSaid : Prop := energyTonesUptoRow.holds Tryd.pinned (OpenSpec.upto energyTonesSpec)

end Rows
end Go.Proofs.YtgdndcbcdoogpaaDoor
