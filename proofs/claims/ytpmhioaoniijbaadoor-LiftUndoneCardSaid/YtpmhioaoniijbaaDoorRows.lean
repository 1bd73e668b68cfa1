/-
  NARROWER THAN 'FOR EVERY INPUT', by the rows' own cells (each row's printed sentence says how): FixedCircle: laid · LiftTurns: laid · LiftMids: laid · LiftApplies: laid · LiftUndone: laid · LiftQuarters: laid · LiftNear: laid · LiftOwn: laid.
  DERIVED. THE GIVEN ROWS OF THIS SEAT. 8 by the template 'for every input the law returns true; each argument reads behind the call as it read before'; 0 by the template 'total and deterministic' (their statements: YtpmhioaoniijbaaDoorTotals.lean).
  GIVEN WITH THE SEED: the statements are not yours to turn. If you find one false, say at which input.
  Laid BY PROGRAM, IN A SANDBOX (cutbox-rows.mjs): the forced cells as the released guide's own fill.sh prints them over the translation 8772207b982977cf… (all of the seat's roots in one cut). By AI agents, Wed Nov 11 2026. No macro, syntax, notation, axiom, sorry.
-/
import Derived.Test.YtpmhioaoniijbaaDoorChecked
import GoSem.Claim
import GoSem.ClaimJoined
import GoSem.ClaimMapViews
import Derived.JoinedTies
import Derived.KernelRfl
namespace Go.Proofs.YtpmhioaoniijbaaDoor
/- THE CELL 'sum', in the pinned program and in every row, IS THE sha256 OF THE DUMP (.gsa) THAT YtpmhioaoniijbaaDoorProg.lean LOADS. Nothing in Lean hashes anything: it is a label: what it is worth is what the hold of that sum in a sandbox is worth. -/
noncomputable def Tryd.pinned : Pinned := { name := "ytpmhioaoniijbaadoor", sum := "8772207b982977cff23ecd8a7fc4d1e4156f84871b16b3a382d1c7a8aa39429c", checked := Tryd.checked }
namespace Rows
def none {H : Type} : Left H := { results := [], args := [] }

/- WHAT THE LISTED PACKAGE-LEVEL VARIABLES READ AS WHEN THE CALL BEGINS. Each datum BY PROGRAM (the guide's laid-datum.mjs) off the statement by which the dump's own 'gosem.cut.vars' lays the variable. In a bare row this is a premise. The card (YtpmhioaoniijbaaDoorCards.lean) ties it to the program's text. -/
def laid_shawm_fixed_parts {H : Type} : DataW H := .agg [.agg [.lit (.int .i64 1518500250), .lit (.int .i64 1518500250)], .agg [.lit (.int .i64 1984016189), .lit (.int .i64 821806413)], .agg [.lit (.int .i64 2106220352), .lit (.int .i64 418953276)], .agg [.lit (.int .i64 2137142927), .lit (.int .i64 210490206)], .agg [.lit (.int .i64 2144896910), .lit (.int .i64 105372028)], .agg [.lit (.int .i64 2146836866), .lit (.int .i64 52701887)], .agg [.lit (.int .i64 2147321946), .lit (.int .i64 26352928)], .agg [.lit (.int .i64 2147443222), .lit (.int .i64 13176712)], .agg [.lit (.int .i64 2147473542), .lit (.int .i64 6588387)], .agg [.lit (.int .i64 2147481121), .lit (.int .i64 3294197)], .agg [.lit (.int .i64 2147483016), .lit (.int .i64 1647099)], .agg [.lit (.int .i64 2147483490), .lit (.int .i64 823550)]]

/-- 'shawmlaw03.FixedCircle': WHATEVER THE INPUT: true; the input reads as it did. -/
def fixedCircleSpec : ChangeSpec := { name := "fixedCircle", fn := fun _ => fun
  | [d1, d2] => { results := [.lit (.bool true)], args := [d1, d2] }
  | _ => none }
def fixedCircleRow : OpenClaim := { program := "ytpmhioaoniijbaadoor", sum := "8772207b982977cff23ecd8a7fc4d1e4156f84871b16b3a382d1c7a8aa39429c", func := "shawm/shawmlaw03.FixedCircle", spec := "fixedCircle", unfollowed := true, recurses := true, named := ["shawm/fixed.parts"], apart := false, laid := [("shawm/fixed.parts", laid_shawm_fixed_parts)] }
def FixedCircleSaid : Prop := fixedCircleRow.holds Tryd.pinned (OpenSpec.ofChange fixedCircleSpec)

/-- ITS FALSE NEIGHBOUR: 'it returns false'. Refute it at one input. -/
def fixedCircleWrong : ChangeSpec := { name := "fixedCircle", fn := fun _ => fun
  | [d1, d2] => { results := [.lit (.bool false)], args := [d1, d2] }
  | _ => none }
def FixedCircleWrongFalsely : Prop := fixedCircleRow.holds Tryd.pinned (OpenSpec.ofChange fixedCircleWrong)

/-- 'shawmlaw06.LiftTurns': WHATEVER THE INPUT: true; the input reads as it did. -/
def liftTurnsSpec : ChangeSpec := { name := "liftTurns", fn := fun _ => fun
  | [d1, d2, d3] => { results := [.lit (.bool true)], args := [d1, d2, d3] }
  | _ => none }
def liftTurnsRow : OpenClaim := { program := "ytpmhioaoniijbaadoor", sum := "8772207b982977cff23ecd8a7fc4d1e4156f84871b16b3a382d1c7a8aa39429c", func := "shawm/shawmlaw06.LiftTurns", spec := "liftTurns", unfollowed := true, recurses := true, named := ["shawm/fixed.parts"], apart := false, laid := [("shawm/fixed.parts", laid_shawm_fixed_parts)] }
def LiftTurnsSaid : Prop := liftTurnsRow.holds Tryd.pinned (OpenSpec.ofChange liftTurnsSpec)

/-- ITS FALSE NEIGHBOUR: 'it returns false'. Refute it at one input. -/
def liftTurnsWrong : ChangeSpec := { name := "liftTurns", fn := fun _ => fun
  | [d1, d2, d3] => { results := [.lit (.bool false)], args := [d1, d2, d3] }
  | _ => none }
def LiftTurnsWrongFalsely : Prop := liftTurnsRow.holds Tryd.pinned (OpenSpec.ofChange liftTurnsWrong)

/-- 'shawmlaw06.LiftMids': WHATEVER THE INPUT: true; the input reads as it did. -/
def liftMidsSpec : ChangeSpec := { name := "liftMids", fn := fun _ => fun
  | [d1, d2] => { results := [.lit (.bool true)], args := [d1, d2] }
  | _ => none }
def liftMidsRow : OpenClaim := { program := "ytpmhioaoniijbaadoor", sum := "8772207b982977cff23ecd8a7fc4d1e4156f84871b16b3a382d1c7a8aa39429c", func := "shawm/shawmlaw06.LiftMids", spec := "liftMids", unfollowed := true, recurses := true, named := ["shawm/fixed.parts"], apart := false, laid := [("shawm/fixed.parts", laid_shawm_fixed_parts)] }
def LiftMidsSaid : Prop := liftMidsRow.holds Tryd.pinned (OpenSpec.ofChange liftMidsSpec)

/-- ITS FALSE NEIGHBOUR: 'it returns false'. Refute it at one input. -/
def liftMidsWrong : ChangeSpec := { name := "liftMids", fn := fun _ => fun
  | [d1, d2] => { results := [.lit (.bool false)], args := [d1, d2] }
  | _ => none }
def LiftMidsWrongFalsely : Prop := liftMidsRow.holds Tryd.pinned (OpenSpec.ofChange liftMidsWrong)

/-- 'shawmlaw06.LiftApplies': WHATEVER THE INPUT: true; the input reads as it did. -/
def liftAppliesSpec : ChangeSpec := { name := "liftApplies", fn := fun _ => fun
  | [d1, d2] => { results := [.lit (.bool true)], args := [d1, d2] }
  | _ => none }
def liftAppliesRow : OpenClaim := { program := "ytpmhioaoniijbaadoor", sum := "8772207b982977cff23ecd8a7fc4d1e4156f84871b16b3a382d1c7a8aa39429c", func := "shawm/shawmlaw06.LiftApplies", spec := "liftApplies", unfollowed := true, recurses := true, named := ["shawm/fixed.parts"], apart := false, laid := [("shawm/fixed.parts", laid_shawm_fixed_parts)] }
def LiftAppliesSaid : Prop := liftAppliesRow.holds Tryd.pinned (OpenSpec.ofChange liftAppliesSpec)

/-- ITS FALSE NEIGHBOUR: 'it returns false'. Refute it at one input. -/
def liftAppliesWrong : ChangeSpec := { name := "liftApplies", fn := fun _ => fun
  | [d1, d2] => { results := [.lit (.bool false)], args := [d1, d2] }
  | _ => none }
def LiftAppliesWrongFalsely : Prop := liftAppliesRow.holds Tryd.pinned (OpenSpec.ofChange liftAppliesWrong)

/-- 'shawmlaw06.LiftUndone': WHATEVER THE INPUT: true; the input reads as it did. -/
def liftUndoneSpec : ChangeSpec := { name := "liftUndone", fn := fun _ => fun
  | [d1, d2, d3] => { results := [.lit (.bool true)], args := [d1, d2, d3] }
  | _ => none }
def liftUndoneRow : OpenClaim := { program := "ytpmhioaoniijbaadoor", sum := "8772207b982977cff23ecd8a7fc4d1e4156f84871b16b3a382d1c7a8aa39429c", func := "shawm/shawmlaw06.LiftUndone", spec := "liftUndone", unfollowed := true, recurses := true, named := ["shawm/fixed.parts"], apart := false, laid := [("shawm/fixed.parts", laid_shawm_fixed_parts)] }
def LiftUndoneSaid : Prop := liftUndoneRow.holds Tryd.pinned (OpenSpec.ofChange liftUndoneSpec)

/-- ITS FALSE NEIGHBOUR: 'it returns false'. Refute it at one input. -/
def liftUndoneWrong : ChangeSpec := { name := "liftUndone", fn := fun _ => fun
  | [d1, d2, d3] => { results := [.lit (.bool false)], args := [d1, d2, d3] }
  | _ => none }
def LiftUndoneWrongFalsely : Prop := liftUndoneRow.holds Tryd.pinned (OpenSpec.ofChange liftUndoneWrong)

/-- 'shawmlaw06.LiftQuarters': WHATEVER THE INPUT: true; the input reads as it did. -/
def liftQuartersSpec : ChangeSpec := { name := "liftQuarters", fn := fun _ => fun
  | [d1, d2, d3] => { results := [.lit (.bool true)], args := [d1, d2, d3] }
  | _ => none }
def liftQuartersRow : OpenClaim := { program := "ytpmhioaoniijbaadoor", sum := "8772207b982977cff23ecd8a7fc4d1e4156f84871b16b3a382d1c7a8aa39429c", func := "shawm/shawmlaw06.LiftQuarters", spec := "liftQuarters", unfollowed := true, recurses := true, named := ["shawm/fixed.parts"], apart := false, laid := [("shawm/fixed.parts", laid_shawm_fixed_parts)] }
def LiftQuartersSaid : Prop := liftQuartersRow.holds Tryd.pinned (OpenSpec.ofChange liftQuartersSpec)

/-- ITS FALSE NEIGHBOUR: 'it returns false'. Refute it at one input. -/
def liftQuartersWrong : ChangeSpec := { name := "liftQuarters", fn := fun _ => fun
  | [d1, d2, d3] => { results := [.lit (.bool false)], args := [d1, d2, d3] }
  | _ => none }
def LiftQuartersWrongFalsely : Prop := liftQuartersRow.holds Tryd.pinned (OpenSpec.ofChange liftQuartersWrong)

/-- 'shawmlaw06.LiftNear': WHATEVER THE INPUT: true; the input reads as it did. -/
def liftNearSpec : ChangeSpec := { name := "liftNear", fn := fun _ => fun
  | [d1, d2, d3] => { results := [.lit (.bool true)], args := [d1, d2, d3] }
  | _ => none }
def liftNearRow : OpenClaim := { program := "ytpmhioaoniijbaadoor", sum := "8772207b982977cff23ecd8a7fc4d1e4156f84871b16b3a382d1c7a8aa39429c", func := "shawm/shawmlaw06.LiftNear", spec := "liftNear", unfollowed := true, recurses := true, named := ["shawm/fixed.parts"], apart := false, laid := [("shawm/fixed.parts", laid_shawm_fixed_parts)] }
def LiftNearSaid : Prop := liftNearRow.holds Tryd.pinned (OpenSpec.ofChange liftNearSpec)

/-- ITS FALSE NEIGHBOUR: 'it returns false'. Refute it at one input. -/
def liftNearWrong : ChangeSpec := { name := "liftNear", fn := fun _ => fun
  | [d1, d2, d3] => { results := [.lit (.bool false)], args := [d1, d2, d3] }
  | _ => none }
def LiftNearWrongFalsely : Prop := liftNearRow.holds Tryd.pinned (OpenSpec.ofChange liftNearWrong)

/-- 'shawmlaw06.LiftOwn': WHATEVER THE INPUT: true; the input reads as it did. -/
def liftOwnSpec : ChangeSpec := { name := "liftOwn", fn := fun _ => fun
  | [d1, d2] => { results := [.lit (.bool true)], args := [d1, d2] }
  | _ => none }
def liftOwnRow : OpenClaim := { program := "ytpmhioaoniijbaadoor", sum := "8772207b982977cff23ecd8a7fc4d1e4156f84871b16b3a382d1c7a8aa39429c", func := "shawm/shawmlaw06.LiftOwn", spec := "liftOwn", unfollowed := true, recurses := true, named := ["shawm/fixed.parts"], apart := false, laid := [("shawm/fixed.parts", laid_shawm_fixed_parts)] }
def LiftOwnSaid : Prop := liftOwnRow.holds Tryd.pinned (OpenSpec.ofChange liftOwnSpec)

/-- ITS FALSE NEIGHBOUR: 'it returns false'. Refute it at one input. -/
def liftOwnWrong : ChangeSpec := { name := "liftOwn", fn := fun _ => fun
  | [d1, d2] => { results := [.lit (.bool false)], args := [d1, d2] }
  | _ => none }
def LiftOwnWrongFalsely : Prop := liftOwnRow.holds Tryd.pinned (OpenSpec.ofChange liftOwnWrong)

/- THE SECOND FORM. 'bulk': how many values and letters a reading holds, each counted each time it is reached (what is shared counts as often as it is met; a slice's spare places count too). A statement '..UptoSaid' is the law's where the arguments, and the package variables that the reading takes, are together of bulk at most 1048576: NARROWER than '..Said'. Prove '..Said' where nothing that the law and all that it calls make is longer than what came in: it says more and counts as full. Else prove '..UptoSaid'. A law counts once. -/
mutual
def uptoBulk {H : Type} : DataW H → Nat
  | .lit (.string bytes) => bytes.length + 1
  | .lit _ => 1
  | .nil => 1
  | .ptr d => uptoBulk d + 1
  | .slice elems spare => uptoBulkAll elems + uptoBulkAll spare + 1
  | .agg parts => uptoBulkAll parts + 1
  | .iface _ d => uptoBulk d + 1
  | .map entries => uptoBulkEntries entries + 1
  | .held _ => 1
def uptoBulkAll {H : Type} : List (DataW H) → Nat
  | [] => 0
  | d :: r => uptoBulk d + uptoBulkAll r
def uptoBulkEntries {H : Type} : List (Lit × DataW H) → Nat
  | [] => 0
  | x :: r => uptoBulkEntry x + uptoBulkEntries r
def uptoBulkEntry {H : Type} : Lit × DataW H → Nat
  | (.string bytes, d) => bytes.length + uptoBulk d + 1
  | (_, d) => uptoBulk d + 1
 end
def uptoSmall : (H : Type) → List (DataW H) → Bool := fun _ ds => decide (uptoBulkAll ds ≤ 1048576)
def OpenSpec.upto (s : _root_.Go.ChangeSpec) : _root_.Go.OpenSpec := { _root_.Go.OpenSpec.ofChange s with cond := some uptoSmall }

/-- 'shawmlaw03.FixedCircle', WHERE WHAT IT READS IS OF BULK AT MOST 1048576: true; the input reads as it did. -/
def fixedCircleUptoRow : OpenClaim := { program := "ytpmhioaoniijbaadoor", sum := "8772207b982977cff23ecd8a7fc4d1e4156f84871b16b3a382d1c7a8aa39429c", func := "shawm/shawmlaw03.FixedCircle", spec := "fixedCircle", unfollowed := true, recurses := true, named := ["shawm/fixed.parts"], apart := false, laid := [("shawm/fixed.parts", laid_shawm_fixed_parts)], narrowed := true }
def FixedCircleUptoSaid : Prop := fixedCircleUptoRow.holds Tryd.pinned (OpenSpec.upto fixedCircleSpec)

/-- 'shawmlaw06.LiftTurns', WHERE WHAT IT READS IS OF BULK AT MOST 1048576: true; the input reads as it did. -/
def liftTurnsUptoRow : OpenClaim := { program := "ytpmhioaoniijbaadoor", sum := "8772207b982977cff23ecd8a7fc4d1e4156f84871b16b3a382d1c7a8aa39429c", func := "shawm/shawmlaw06.LiftTurns", spec := "liftTurns", unfollowed := true, recurses := true, named := ["shawm/fixed.parts"], apart := false, laid := [("shawm/fixed.parts", laid_shawm_fixed_parts)], narrowed := true }
def LiftTurnsUptoSaid : Prop := liftTurnsUptoRow.holds Tryd.pinned (OpenSpec.upto liftTurnsSpec)

/-- 'shawmlaw06.LiftMids', WHERE WHAT IT READS IS OF BULK AT MOST 1048576: true; the input reads as it did. -/
def liftMidsUptoRow : OpenClaim := { program := "ytpmhioaoniijbaadoor", sum := "8772207b982977cff23ecd8a7fc4d1e4156f84871b16b3a382d1c7a8aa39429c", func := "shawm/shawmlaw06.LiftMids", spec := "liftMids", unfollowed := true, recurses := true, named := ["shawm/fixed.parts"], apart := false, laid := [("shawm/fixed.parts", laid_shawm_fixed_parts)], narrowed := true }
def LiftMidsUptoSaid : Prop := liftMidsUptoRow.holds Tryd.pinned (OpenSpec.upto liftMidsSpec)

/-- 'shawmlaw06.LiftApplies', WHERE WHAT IT READS IS OF BULK AT MOST 1048576: true; the input reads as it did. -/
def liftAppliesUptoRow : OpenClaim := { program := "ytpmhioaoniijbaadoor", sum := "8772207b982977cff23ecd8a7fc4d1e4156f84871b16b3a382d1c7a8aa39429c", func := "shawm/shawmlaw06.LiftApplies", spec := "liftApplies", unfollowed := true, recurses := true, named := ["shawm/fixed.parts"], apart := false, laid := [("shawm/fixed.parts", laid_shawm_fixed_parts)], narrowed := true }
def LiftAppliesUptoSaid : Prop := liftAppliesUptoRow.holds Tryd.pinned (OpenSpec.upto liftAppliesSpec)

/-- 'shawmlaw06.LiftUndone', WHERE WHAT IT READS IS OF BULK AT MOST 1048576: true; the input reads as it did. -/
def liftUndoneUptoRow : OpenClaim := { program := "ytpmhioaoniijbaadoor", sum := "8772207b982977cff23ecd8a7fc4d1e4156f84871b16b3a382d1c7a8aa39429c", func := "shawm/shawmlaw06.LiftUndone", spec := "liftUndone", unfollowed := true, recurses := true, named := ["shawm/fixed.parts"], apart := false, laid := [("shawm/fixed.parts", laid_shawm_fixed_parts)], narrowed := true }
def LiftUndoneUptoSaid : Prop := liftUndoneUptoRow.holds Tryd.pinned (OpenSpec.upto liftUndoneSpec)

/-- 'shawmlaw06.LiftQuarters', WHERE WHAT IT READS IS OF BULK AT MOST 1048576: true; the input reads as it did. -/
def liftQuartersUptoRow : OpenClaim := { program := "ytpmhioaoniijbaadoor", sum := "8772207b982977cff23ecd8a7fc4d1e4156f84871b16b3a382d1c7a8aa39429c", func := "shawm/shawmlaw06.LiftQuarters", spec := "liftQuarters", unfollowed := true, recurses := true, named := ["shawm/fixed.parts"], apart := false, laid := [("shawm/fixed.parts", laid_shawm_fixed_parts)], narrowed := true }
def LiftQuartersUptoSaid : Prop := liftQuartersUptoRow.holds Tryd.pinned (OpenSpec.upto liftQuartersSpec)

/-- 'shawmlaw06.LiftNear', WHERE WHAT IT READS IS OF BULK AT MOST 1048576: true; the input reads as it did. -/
def liftNearUptoRow : OpenClaim := { program := "ytpmhioaoniijbaadoor", sum := "8772207b982977cff23ecd8a7fc4d1e4156f84871b16b3a382d1c7a8aa39429c", func := "shawm/shawmlaw06.LiftNear", spec := "liftNear", unfollowed := true, recurses := true, named := ["shawm/fixed.parts"], apart := false, laid := [("shawm/fixed.parts", laid_shawm_fixed_parts)], narrowed := true }
def LiftNearUptoSaid : Prop := liftNearUptoRow.holds Tryd.pinned (OpenSpec.upto liftNearSpec)

/-- 'shawmlaw06.LiftOwn', WHERE WHAT IT READS IS OF BULK AT MOST 1048576: true; the input reads as it did. -/
def liftOwnUptoRow : OpenClaim := { program := "ytpmhioaoniijbaadoor", sum := "8772207b982977cff23ecd8a7fc4d1e4156f84871b16b3a382d1c7a8aa39429c", func := "shawm/shawmlaw06.LiftOwn", spec := "liftOwn", unfollowed := true, recurses := true, named := ["shawm/fixed.parts"], apart := false, laid := [("shawm/fixed.parts", laid_shawm_fixed_parts)], narrowed := true }
def LiftOwnUptoSaid : Prop := liftOwnUptoRow.holds Tryd.pinned (OpenSpec.upto liftOwnSpec)

end Rows
end Go.Proofs.YtpmhioaoniijbaaDoor
