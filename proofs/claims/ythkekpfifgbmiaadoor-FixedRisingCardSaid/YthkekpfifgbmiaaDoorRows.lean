/-
  NARROWER THAN 'FOR EVERY INPUT', by the rows' own cells (each row's printed sentence says how): FixedDivides: laid · FixedRoots: laid · FixedCircle: laid · FixedLogs: laid · FixedPowers: laid · FixedAround: laid · FixedRising: laid · FixedFloor: laid.
  DERIVED. THE GIVEN ROWS OF THIS SEAT. 8 by the template 'for every input the law returns true; each argument reads behind the call as it read before'; 0 by the template 'total and deterministic' (their statements: YthkekpfifgbmiaaDoorTotals.lean).
  GIVEN WITH THE SEED: the statements are not yours to turn. If you find one false, say at which input.
  Laid BY PROGRAM, IN A SANDBOX (cutbox-rows.mjs): the forced cells as the released guide's own fill.sh prints them over the translation abf26b8aa54aedf4… (all of the seat's roots in one cut). By AI agents, Wed Nov 11 2026. No macro, syntax, notation, axiom, sorry.
-/
import Derived.Test.YthkekpfifgbmiaaDoorChecked
import GoSem.Claim
import GoSem.ClaimJoined
import GoSem.ClaimMapViews
import Derived.JoinedTies
import Derived.KernelRfl
namespace Go.Proofs.YthkekpfifgbmiaaDoor
/- THE CELL 'sum', in the pinned program and in every row, IS THE sha256 OF THE DUMP (.gsa) THAT YthkekpfifgbmiaaDoorProg.lean LOADS. Nothing in Lean hashes anything: it is a label: what it is worth is what the hold of that sum in a sandbox is worth. -/
noncomputable def Tryd.pinned : Pinned := { name := "ythkekpfifgbmiaadoor", sum := "abf26b8aa54aedf4db9754936930f4ff4c61921063ec2202e009284de152c15d", checked := Tryd.checked }
namespace Rows
def none {H : Type} : Left H := { results := [], args := [] }

/- WHAT THE LISTED PACKAGE-LEVEL VARIABLES READ AS WHEN THE CALL BEGINS. Each datum BY PROGRAM (the guide's laid-datum.mjs) off the statement by which the dump's own 'gosem.cut.vars' lays the variable. In a bare row this is a premise. The card (YthkekpfifgbmiaaDoorCards.lean) ties it to the program's text. -/
def laid_shawm_fixed_parts {H : Type} : DataW H := .agg [.agg [.lit (.int .i64 1518500250), .lit (.int .i64 1518500250)], .agg [.lit (.int .i64 1984016189), .lit (.int .i64 821806413)], .agg [.lit (.int .i64 2106220352), .lit (.int .i64 418953276)], .agg [.lit (.int .i64 2137142927), .lit (.int .i64 210490206)], .agg [.lit (.int .i64 2144896910), .lit (.int .i64 105372028)], .agg [.lit (.int .i64 2146836866), .lit (.int .i64 52701887)], .agg [.lit (.int .i64 2147321946), .lit (.int .i64 26352928)], .agg [.lit (.int .i64 2147443222), .lit (.int .i64 13176712)], .agg [.lit (.int .i64 2147473542), .lit (.int .i64 6588387)], .agg [.lit (.int .i64 2147481121), .lit (.int .i64 3294197)], .agg [.lit (.int .i64 2147483016), .lit (.int .i64 1647099)], .agg [.lit (.int .i64 2147483490), .lit (.int .i64 823550)]]

/-- 'shawmlaw03.FixedDivides': WHATEVER THE INPUT: true; the input reads as it did. -/
def fixedDividesSpec : ChangeSpec := { name := "fixedDivides", fn := fun _ => fun
  | [d1, d2, d3] => { results := [.lit (.bool true)], args := [d1, d2, d3] }
  | _ => none }
def fixedDividesRow : OpenClaim := { program := "ythkekpfifgbmiaadoor", sum := "abf26b8aa54aedf4db9754936930f4ff4c61921063ec2202e009284de152c15d", func := "shawm/shawmlaw03.FixedDivides", spec := "fixedDivides", unfollowed := true, recurses := true, named := ["shawm/fixed.parts"], apart := false, laid := [("shawm/fixed.parts", laid_shawm_fixed_parts)] }
def FixedDividesSaid : Prop := fixedDividesRow.holds Tryd.pinned (OpenSpec.ofChange fixedDividesSpec)

/-- ITS FALSE NEIGHBOUR: 'it returns false'. Refute it at one input. -/
def fixedDividesWrong : ChangeSpec := { name := "fixedDivides", fn := fun _ => fun
  | [d1, d2, d3] => { results := [.lit (.bool false)], args := [d1, d2, d3] }
  | _ => none }
def FixedDividesWrongFalsely : Prop := fixedDividesRow.holds Tryd.pinned (OpenSpec.ofChange fixedDividesWrong)

/-- 'shawmlaw03.FixedRoots': WHATEVER THE INPUT: true; the input reads as it did. -/
def fixedRootsSpec : ChangeSpec := { name := "fixedRoots", fn := fun _ => fun
  | [d] => { results := [.lit (.bool true)], args := [d] }
  | _ => none }
def fixedRootsRow : OpenClaim := { program := "ythkekpfifgbmiaadoor", sum := "abf26b8aa54aedf4db9754936930f4ff4c61921063ec2202e009284de152c15d", func := "shawm/shawmlaw03.FixedRoots", spec := "fixedRoots", unfollowed := true, recurses := true, named := ["shawm/fixed.parts"], apart := false, laid := [("shawm/fixed.parts", laid_shawm_fixed_parts)] }
def FixedRootsSaid : Prop := fixedRootsRow.holds Tryd.pinned (OpenSpec.ofChange fixedRootsSpec)

/-- ITS FALSE NEIGHBOUR: 'it returns false'. Refute it at one input. -/
def fixedRootsWrong : ChangeSpec := { name := "fixedRoots", fn := fun _ => fun
  | [d] => { results := [.lit (.bool false)], args := [d] }
  | _ => none }
def FixedRootsWrongFalsely : Prop := fixedRootsRow.holds Tryd.pinned (OpenSpec.ofChange fixedRootsWrong)

/-- 'shawmlaw03.FixedCircle': WHATEVER THE INPUT: true; the input reads as it did. -/
def fixedCircleSpec : ChangeSpec := { name := "fixedCircle", fn := fun _ => fun
  | [d1, d2] => { results := [.lit (.bool true)], args := [d1, d2] }
  | _ => none }
def fixedCircleRow : OpenClaim := { program := "ythkekpfifgbmiaadoor", sum := "abf26b8aa54aedf4db9754936930f4ff4c61921063ec2202e009284de152c15d", func := "shawm/shawmlaw03.FixedCircle", spec := "fixedCircle", unfollowed := true, recurses := true, named := ["shawm/fixed.parts"], apart := false, laid := [("shawm/fixed.parts", laid_shawm_fixed_parts)] }
def FixedCircleSaid : Prop := fixedCircleRow.holds Tryd.pinned (OpenSpec.ofChange fixedCircleSpec)

/-- ITS FALSE NEIGHBOUR: 'it returns false'. Refute it at one input. -/
def fixedCircleWrong : ChangeSpec := { name := "fixedCircle", fn := fun _ => fun
  | [d1, d2] => { results := [.lit (.bool false)], args := [d1, d2] }
  | _ => none }
def FixedCircleWrongFalsely : Prop := fixedCircleRow.holds Tryd.pinned (OpenSpec.ofChange fixedCircleWrong)

/-- 'shawmlaw03.FixedLogs': WHATEVER THE INPUT: true; the input reads as it did. -/
def fixedLogsSpec : ChangeSpec := { name := "fixedLogs", fn := fun _ => fun
  | [d1, d2] => { results := [.lit (.bool true)], args := [d1, d2] }
  | _ => none }
def fixedLogsRow : OpenClaim := { program := "ythkekpfifgbmiaadoor", sum := "abf26b8aa54aedf4db9754936930f4ff4c61921063ec2202e009284de152c15d", func := "shawm/shawmlaw03.FixedLogs", spec := "fixedLogs", unfollowed := true, recurses := true, named := ["shawm/fixed.parts"], apart := false, laid := [("shawm/fixed.parts", laid_shawm_fixed_parts)] }
def FixedLogsSaid : Prop := fixedLogsRow.holds Tryd.pinned (OpenSpec.ofChange fixedLogsSpec)

/-- ITS FALSE NEIGHBOUR: 'it returns false'. Refute it at one input. -/
def fixedLogsWrong : ChangeSpec := { name := "fixedLogs", fn := fun _ => fun
  | [d1, d2] => { results := [.lit (.bool false)], args := [d1, d2] }
  | _ => none }
def FixedLogsWrongFalsely : Prop := fixedLogsRow.holds Tryd.pinned (OpenSpec.ofChange fixedLogsWrong)

/-- 'shawmlaw03.FixedPowers': WHATEVER THE INPUT: true; the input reads as it did. -/
def fixedPowersSpec : ChangeSpec := { name := "fixedPowers", fn := fun _ => fun
  | [d] => { results := [.lit (.bool true)], args := [d] }
  | _ => none }
def fixedPowersRow : OpenClaim := { program := "ythkekpfifgbmiaadoor", sum := "abf26b8aa54aedf4db9754936930f4ff4c61921063ec2202e009284de152c15d", func := "shawm/shawmlaw03.FixedPowers", spec := "fixedPowers", unfollowed := true, recurses := true, named := ["shawm/fixed.parts"], apart := false, laid := [("shawm/fixed.parts", laid_shawm_fixed_parts)] }
def FixedPowersSaid : Prop := fixedPowersRow.holds Tryd.pinned (OpenSpec.ofChange fixedPowersSpec)

/-- ITS FALSE NEIGHBOUR: 'it returns false'. Refute it at one input. -/
def fixedPowersWrong : ChangeSpec := { name := "fixedPowers", fn := fun _ => fun
  | [d] => { results := [.lit (.bool false)], args := [d] }
  | _ => none }
def FixedPowersWrongFalsely : Prop := fixedPowersRow.holds Tryd.pinned (OpenSpec.ofChange fixedPowersWrong)

/-- 'shawmlaw03.FixedAround': WHATEVER THE INPUT: true; the input reads as it did. -/
def fixedAroundSpec : ChangeSpec := { name := "fixedAround", fn := fun _ => fun
  | [d1, d2] => { results := [.lit (.bool true)], args := [d1, d2] }
  | _ => none }
def fixedAroundRow : OpenClaim := { program := "ythkekpfifgbmiaadoor", sum := "abf26b8aa54aedf4db9754936930f4ff4c61921063ec2202e009284de152c15d", func := "shawm/shawmlaw03.FixedAround", spec := "fixedAround", unfollowed := true, recurses := true, named := ["shawm/fixed.parts"], apart := false, laid := [("shawm/fixed.parts", laid_shawm_fixed_parts)] }
def FixedAroundSaid : Prop := fixedAroundRow.holds Tryd.pinned (OpenSpec.ofChange fixedAroundSpec)

/-- ITS FALSE NEIGHBOUR: 'it returns false'. Refute it at one input. -/
def fixedAroundWrong : ChangeSpec := { name := "fixedAround", fn := fun _ => fun
  | [d1, d2] => { results := [.lit (.bool false)], args := [d1, d2] }
  | _ => none }
def FixedAroundWrongFalsely : Prop := fixedAroundRow.holds Tryd.pinned (OpenSpec.ofChange fixedAroundWrong)

/-- 'shawmlaw03.FixedRising': WHATEVER THE INPUT: true; the input reads as it did. -/
def fixedRisingSpec : ChangeSpec := { name := "fixedRising", fn := fun _ => fun
  | [d1, d2, d3] => { results := [.lit (.bool true)], args := [d1, d2, d3] }
  | _ => none }
def fixedRisingRow : OpenClaim := { program := "ythkekpfifgbmiaadoor", sum := "abf26b8aa54aedf4db9754936930f4ff4c61921063ec2202e009284de152c15d", func := "shawm/shawmlaw03.FixedRising", spec := "fixedRising", unfollowed := true, recurses := true, named := ["shawm/fixed.parts"], apart := false, laid := [("shawm/fixed.parts", laid_shawm_fixed_parts)] }
def FixedRisingSaid : Prop := fixedRisingRow.holds Tryd.pinned (OpenSpec.ofChange fixedRisingSpec)

/-- ITS FALSE NEIGHBOUR: 'it returns false'. Refute it at one input. -/
def fixedRisingWrong : ChangeSpec := { name := "fixedRising", fn := fun _ => fun
  | [d1, d2, d3] => { results := [.lit (.bool false)], args := [d1, d2, d3] }
  | _ => none }
def FixedRisingWrongFalsely : Prop := fixedRisingRow.holds Tryd.pinned (OpenSpec.ofChange fixedRisingWrong)

/-- 'shawmlaw03.FixedFloor': WHATEVER THE INPUT: true; the input reads as it did. -/
def fixedFloorSpec : ChangeSpec := { name := "fixedFloor", fn := fun _ => fun
  | [d1, d2] => { results := [.lit (.bool true)], args := [d1, d2] }
  | _ => none }
def fixedFloorRow : OpenClaim := { program := "ythkekpfifgbmiaadoor", sum := "abf26b8aa54aedf4db9754936930f4ff4c61921063ec2202e009284de152c15d", func := "shawm/shawmlaw03.FixedFloor", spec := "fixedFloor", unfollowed := true, recurses := true, named := ["shawm/fixed.parts"], apart := false, laid := [("shawm/fixed.parts", laid_shawm_fixed_parts)] }
def FixedFloorSaid : Prop := fixedFloorRow.holds Tryd.pinned (OpenSpec.ofChange fixedFloorSpec)

/-- ITS FALSE NEIGHBOUR: 'it returns false'. Refute it at one input. -/
def fixedFloorWrong : ChangeSpec := { name := "fixedFloor", fn := fun _ => fun
  | [d1, d2] => { results := [.lit (.bool false)], args := [d1, d2] }
  | _ => none }
def FixedFloorWrongFalsely : Prop := fixedFloorRow.holds Tryd.pinned (OpenSpec.ofChange fixedFloorWrong)

/- THE SECOND FORM. 'bulk': how many values and letters a reading holds, each counted each time it is reached (what is shared counts as often as it is met; a slice's spare places count too). A statement '..UptoSaid' is the law's where the arguments, and the package variables that the reading takes, are together of bulk at most 1048576: NARROWER than '..Said'. Prove '..Said' where nothing that the law and all that it calls make is longer than what came in: it says more and counts as full. Else prove '..UptoSaid'. A law counts once. -/
mutual
def uptoBulk {H : Type} : DataW H → Nat
  | .lit (.string bytes) => bytes.length + 1
  | .lit _ => 1
  | .nil => 1
  | .ptr d => uptoBulk d + 1
  | .slice elems spare => uptoBulkAll elems + uptoBulkAll spare + 1
  | .agg parts => uptoBulkAll parts + 1
  | .iface _ d => uptoBulk d + 1
  | .map entries => uptoBulkEntries entries + 1
  | .held _ => 1
def uptoBulkAll {H : Type} : List (DataW H) → Nat
  | [] => 0
  | d :: r => uptoBulk d + uptoBulkAll r
def uptoBulkEntries {H : Type} : List (Lit × DataW H) → Nat
  | [] => 0
  | x :: r => uptoBulkEntry x + uptoBulkEntries r
def uptoBulkEntry {H : Type} : Lit × DataW H → Nat
  | (.string bytes, d) => bytes.length + uptoBulk d + 1
  | (_, d) => uptoBulk d + 1
 end
def uptoSmall : (H : Type) → List (DataW H) → Bool := fun _ ds => decide (uptoBulkAll ds ≤ 1048576)
def OpenSpec.upto (s : _root_.Go.ChangeSpec) : _root_.Go.OpenSpec := { _root_.Go.OpenSpec.ofChange s with cond := some uptoSmall }

/-- 'shawmlaw03.FixedDivides', WHERE WHAT IT READS IS OF BULK AT MOST 1048576: true; the input reads as it did. -/
def fixedDividesUptoRow : OpenClaim := { program := "ythkekpfifgbmiaadoor", sum := "abf26b8aa54aedf4db9754936930f4ff4c61921063ec2202e009284de152c15d", func := "shawm/shawmlaw03.FixedDivides", spec := "fixedDivides", unfollowed := true, recurses := true, named := ["shawm/fixed.parts"], apart := false, laid := [("shawm/fixed.parts", laid_shawm_fixed_parts)], narrowed := true }
def FixedDividesUptoSaid : Prop := fixedDividesUptoRow.holds Tryd.pinned (OpenSpec.upto fixedDividesSpec)

/-- 'shawmlaw03.FixedRoots', WHERE WHAT IT READS IS OF BULK AT MOST 1048576: true; the input reads as it did. -/
def fixedRootsUptoRow : OpenClaim := { program := "ythkekpfifgbmiaadoor", sum := "abf26b8aa54aedf4db9754936930f4ff4c61921063ec2202e009284de152c15d", func := "shawm/shawmlaw03.FixedRoots", spec := "fixedRoots", unfollowed := true, recurses := true, named := ["shawm/fixed.parts"], apart := false, laid := [("shawm/fixed.parts", laid_shawm_fixed_parts)], narrowed := true }
def FixedRootsUptoSaid : Prop := fixedRootsUptoRow.holds Tryd.pinned (OpenSpec.upto fixedRootsSpec)

/-- 'shawmlaw03.FixedCircle', WHERE WHAT IT READS IS OF BULK AT MOST 1048576: true; the input reads as it did. -/
def fixedCircleUptoRow : OpenClaim := { program := "ythkekpfifgbmiaadoor", sum := "abf26b8aa54aedf4db9754936930f4ff4c61921063ec2202e009284de152c15d", func := "shawm/shawmlaw03.FixedCircle", spec := "fixedCircle", unfollowed := true, recurses := true, named := ["shawm/fixed.parts"], apart := false, laid := [("shawm/fixed.parts", laid_shawm_fixed_parts)], narrowed := true }
def FixedCircleUptoSaid : Prop := fixedCircleUptoRow.holds Tryd.pinned (OpenSpec.upto fixedCircleSpec)

/-- 'shawmlaw03.FixedLogs', WHERE WHAT IT READS IS OF BULK AT MOST 1048576: true; the input reads as it did. -/
def fixedLogsUptoRow : OpenClaim := { program := "ythkekpfifgbmiaadoor", sum := "abf26b8aa54aedf4db9754936930f4ff4c61921063ec2202e009284de152c15d", func := "shawm/shawmlaw03.FixedLogs", spec := "fixedLogs", unfollowed := true, recurses := true, named := ["shawm/fixed.parts"], apart := false, laid := [("shawm/fixed.parts", laid_shawm_fixed_parts)], narrowed := true }
def FixedLogsUptoSaid : Prop := fixedLogsUptoRow.holds Tryd.pinned (OpenSpec.upto fixedLogsSpec)

/-- 'shawmlaw03.FixedPowers', WHERE WHAT IT READS IS OF BULK AT MOST 1048576: true; the input reads as it did. -/
def fixedPowersUptoRow : OpenClaim := { program := "ythkekpfifgbmiaadoor", sum := "abf26b8aa54aedf4db9754936930f4ff4c61921063ec2202e009284de152c15d", func := "shawm/shawmlaw03.FixedPowers", spec := "fixedPowers", unfollowed := true, recurses := true, named := ["shawm/fixed.parts"], apart := false, laid := [("shawm/fixed.parts", laid_shawm_fixed_parts)], narrowed := true }
def FixedPowersUptoSaid : Prop := fixedPowersUptoRow.holds Tryd.pinned (OpenSpec.upto fixedPowersSpec)

/-- 'shawmlaw03.FixedAround', WHERE WHAT IT READS IS OF BULK AT MOST 1048576: true; the input reads as it did. -/
def fixedAroundUptoRow : OpenClaim := { program := "ythkekpfifgbmiaadoor", sum := "abf26b8aa54aedf4db9754936930f4ff4c61921063ec2202e009284de152c15d", func := "shawm/shawmlaw03.FixedAround", spec := "fixedAround", unfollowed := true, recurses := true, named := ["shawm/fixed.parts"], apart := false, laid := [("shawm/fixed.parts", laid_shawm_fixed_parts)], narrowed := true }
def FixedAroundUptoSaid : Prop := fixedAroundUptoRow.holds Tryd.pinned (OpenSpec.upto fixedAroundSpec)

/-- 'shawmlaw03.FixedRising', WHERE WHAT IT READS IS OF BULK AT MOST 1048576: true; the input reads as it did. -/
def fixedRisingUptoRow : OpenClaim := { program := "ythkekpfifgbmiaadoor", sum := "abf26b8aa54aedf4db9754936930f4ff4c61921063ec2202e009284de152c15d", func := "shawm/shawmlaw03.FixedRising", spec := "fixedRising", unfollowed := true, recurses := true, named := ["shawm/fixed.parts"], apart := false, laid := [("shawm/fixed.parts", laid_shawm_fixed_parts)], narrowed := true }
def FixedRisingUptoSaid : Prop := fixedRisingUptoRow.holds Tryd.pinned (OpenSpec.upto fixedRisingSpec)

/-- 'shawmlaw03.FixedFloor', WHERE WHAT IT READS IS OF BULK AT MOST 1048576: true; the input reads as it did. -/
def fixedFloorUptoRow : OpenClaim := { program := "ythkekpfifgbmiaadoor", sum := "abf26b8aa54aedf4db9754936930f4ff4c61921063ec2202e009284de152c15d", func := "shawm/shawmlaw03.FixedFloor", spec := "fixedFloor", unfollowed := true, recurses := true, named := ["shawm/fixed.parts"], apart := false, laid := [("shawm/fixed.parts", laid_shawm_fixed_parts)], narrowed := true }
def FixedFloorUptoSaid : Prop := fixedFloorUptoRow.holds Tryd.pinned (OpenSpec.upto fixedFloorSpec)

end Rows
end Go.Proofs.YthkekpfifgbmiaaDoor
