/-
  No cell of these rows narrows 'for every input' (looked for: loops, veiled, ifaces, maps, wideKeys, modest, calm, conditions, laid).
  DERIVED. THE GIVEN ROWS OF THIS SEAT. 13 by the template 'for every input the law returns true; each argument reads behind the call as it read before'; 0 by the template 'total and deterministic' (their statements: YtopjjdfnnjgnlaaTotals.lean).
  GIVEN WITH THE SEED: the statements are not yours to turn. If you find one false, say at which input.
  Laid BY PROGRAM, IN A SANDBOX (cutbox-rows.mjs): the forced cells as the released guide's own fill.sh prints them over the translation 43722201ea13c574… (all of the seat's roots in one cut). By AI agents, Wed Nov 11 2026. No macro, syntax, notation, axiom, sorry.
-/
import Derived.Test.YtopjjdfnnjgnlaaChecked
import GoSem.Claim
import GoSem.ClaimJoined
import GoSem.ClaimMapViews
import Derived.JoinedTies
import Derived.KernelRfl
namespace Go.Proofs.Ytopjjdfnnjgnlaa
/- THE CELL 'sum', in the pinned program and in every row, IS THE sha256 OF THE DUMP (.gsa) THAT YtopjjdfnnjgnlaaProg.lean LOADS. Nothing in Lean hashes anything: it is a label: what it is worth is what the hold of that sum in a sandbox is worth. -/
noncomputable def Try.pinned : Pinned := { name := "ytopjjdfnnjgnlaa", sum := "43722201ea13c574d693211e5f6a24f1170eb31acb1eaefd0497cf7cf6a29a76", checked := Try.checked }
namespace Rows
def none {H : Type} : Left H := { results := [], args := [] }

/-- 'shawmlaw13.StereoChooses': WHATEVER THE INPUT: true; the input reads as it did. -/
def stereoChoosesSpec : ChangeSpec := { name := "stereoChooses", fn := fun _ => fun
  | [d1, d2] => { results := [.lit (.bool true)], args := [d1, d2] }
  | _ => none }
def stereoChoosesRow : OpenClaim := { program := "ytopjjdfnnjgnlaa", sum := "43722201ea13c574d693211e5f6a24f1170eb31acb1eaefd0497cf7cf6a29a76", func := "shawm/shawmlaw13.StereoChooses", spec := "stereoChooses", unfollowed := true, recurses := true, apart := false }
def StereoChoosesSaid : Prop := stereoChoosesRow.holds Try.pinned (OpenSpec.ofChange stereoChoosesSpec)

/-- ITS FALSE NEIGHBOUR: 'it returns false'. Refute it at one input. -/
def stereoChoosesWrong : ChangeSpec := { name := "stereoChooses", fn := fun _ => fun
  | [d1, d2] => { results := [.lit (.bool false)], args := [d1, d2] }
  | _ => none }
def StereoChoosesWrongFalsely : Prop := stereoChoosesRow.holds Try.pinned (OpenSpec.ofChange stereoChoosesWrong)

/-- 'shawmlaw13.StereoCouples': WHATEVER THE INPUT: true; the input reads as it did. -/
def stereoCouplesSpec : ChangeSpec := { name := "stereoCouples", fn := fun _ => fun
  | [d1, d2, d3] => { results := [.lit (.bool true)], args := [d1, d2, d3] }
  | _ => none }
def stereoCouplesRow : OpenClaim := { program := "ytopjjdfnnjgnlaa", sum := "43722201ea13c574d693211e5f6a24f1170eb31acb1eaefd0497cf7cf6a29a76", func := "shawm/shawmlaw13.StereoCouples", spec := "stereoCouples", unfollowed := true, recurses := true, apart := false }
def StereoCouplesSaid : Prop := stereoCouplesRow.holds Try.pinned (OpenSpec.ofChange stereoCouplesSpec)

/-- ITS FALSE NEIGHBOUR: 'it returns false'. Refute it at one input. -/
def stereoCouplesWrong : ChangeSpec := { name := "stereoCouples", fn := fun _ => fun
  | [d1, d2, d3] => { results := [.lit (.bool false)], args := [d1, d2, d3] }
  | _ => none }
def StereoCouplesWrongFalsely : Prop := stereoCouplesRow.holds Try.pinned (OpenSpec.ofChange stereoCouplesWrong)

/-- 'shawmlaw13.StereoUndone': WHATEVER THE INPUT: true; the input reads as it did. -/
def stereoUndoneSpec : ChangeSpec := { name := "stereoUndone", fn := fun _ => fun
  | [d1, d2, d3] => { results := [.lit (.bool true)], args := [d1, d2, d3] }
  | _ => none }
def stereoUndoneRow : OpenClaim := { program := "ytopjjdfnnjgnlaa", sum := "43722201ea13c574d693211e5f6a24f1170eb31acb1eaefd0497cf7cf6a29a76", func := "shawm/shawmlaw13.StereoUndone", spec := "stereoUndone", unfollowed := true, recurses := true, apart := false }
def StereoUndoneSaid : Prop := stereoUndoneRow.holds Try.pinned (OpenSpec.ofChange stereoUndoneSpec)

/-- ITS FALSE NEIGHBOUR: 'it returns false'. Refute it at one input. -/
def stereoUndoneWrong : ChangeSpec := { name := "stereoUndone", fn := fun _ => fun
  | [d1, d2, d3] => { results := [.lit (.bool false)], args := [d1, d2, d3] }
  | _ => none }
def StereoUndoneWrongFalsely : Prop := stereoUndoneRow.holds Try.pinned (OpenSpec.ofChange stereoUndoneWrong)

/-- 'shawmlaw13.StereoSame': WHATEVER THE INPUT: true; the input reads as it did. -/
def stereoSameSpec : ChangeSpec := { name := "stereoSame", fn := fun _ => fun
  | [d1, d2] => { results := [.lit (.bool true)], args := [d1, d2] }
  | _ => none }
def stereoSameRow : OpenClaim := { program := "ytopjjdfnnjgnlaa", sum := "43722201ea13c574d693211e5f6a24f1170eb31acb1eaefd0497cf7cf6a29a76", func := "shawm/shawmlaw13.StereoSame", spec := "stereoSame", unfollowed := true, recurses := true, apart := false }
def StereoSameSaid : Prop := stereoSameRow.holds Try.pinned (OpenSpec.ofChange stereoSameSpec)

/-- ITS FALSE NEIGHBOUR: 'it returns false'. Refute it at one input. -/
def stereoSameWrong : ChangeSpec := { name := "stereoSame", fn := fun _ => fun
  | [d1, d2] => { results := [.lit (.bool false)], args := [d1, d2] }
  | _ => none }
def StereoSameWrongFalsely : Prop := stereoSameRow.holds Try.pinned (OpenSpec.ofChange stereoSameWrong)

/-- 'shawmlaw13.StereoBest': WHATEVER THE INPUT: true; the input reads as it did. -/
def stereoBestSpec : ChangeSpec := { name := "stereoBest", fn := fun _ => fun
  | [d1, d2] => { results := [.lit (.bool true)], args := [d1, d2] }
  | _ => none }
def stereoBestRow : OpenClaim := { program := "ytopjjdfnnjgnlaa", sum := "43722201ea13c574d693211e5f6a24f1170eb31acb1eaefd0497cf7cf6a29a76", func := "shawm/shawmlaw13.StereoBest", spec := "stereoBest", unfollowed := true, recurses := true, apart := false }
def StereoBestSaid : Prop := stereoBestRow.holds Try.pinned (OpenSpec.ofChange stereoBestSpec)

/-- ITS FALSE NEIGHBOUR: 'it returns false'. Refute it at one input. -/
def stereoBestWrong : ChangeSpec := { name := "stereoBest", fn := fun _ => fun
  | [d1, d2] => { results := [.lit (.bool false)], args := [d1, d2] }
  | _ => none }
def StereoBestWrongFalsely : Prop := stereoBestRow.holds Try.pinned (OpenSpec.ofChange stereoBestWrong)

/-- 'shawmlaw13.StereoCross': WHATEVER THE INPUT: true; the input reads as it did. -/
def stereoCrossSpec : ChangeSpec := { name := "stereoCross", fn := fun _ => fun
  | [d1, d2] => { results := [.lit (.bool true)], args := [d1, d2] }
  | _ => none }
def stereoCrossRow : OpenClaim := { program := "ytopjjdfnnjgnlaa", sum := "43722201ea13c574d693211e5f6a24f1170eb31acb1eaefd0497cf7cf6a29a76", func := "shawm/shawmlaw13.StereoCross", spec := "stereoCross", unfollowed := true, recurses := true, apart := false }
def StereoCrossSaid : Prop := stereoCrossRow.holds Try.pinned (OpenSpec.ofChange stereoCrossSpec)

/-- ITS FALSE NEIGHBOUR: 'it returns false'. Refute it at one input. -/
def stereoCrossWrong : ChangeSpec := { name := "stereoCross", fn := fun _ => fun
  | [d1, d2] => { results := [.lit (.bool false)], args := [d1, d2] }
  | _ => none }
def StereoCrossWrongFalsely : Prop := stereoCrossRow.holds Try.pinned (OpenSpec.ofChange stereoCrossWrong)

/-- 'shawmlaw14.LinearDiffers': WHATEVER THE INPUT: true; the input reads as it did. -/
def linearDiffersSpec : ChangeSpec := { name := "linearDiffers", fn := fun _ => fun
  | [d1, d2] => { results := [.lit (.bool true)], args := [d1, d2] }
  | _ => none }
def linearDiffersRow : OpenClaim := { program := "ytopjjdfnnjgnlaa", sum := "43722201ea13c574d693211e5f6a24f1170eb31acb1eaefd0497cf7cf6a29a76", func := "shawm/shawmlaw14.LinearDiffers", spec := "linearDiffers", unfollowed := true, recurses := true, apart := false }
def LinearDiffersSaid : Prop := linearDiffersRow.holds Try.pinned (OpenSpec.ofChange linearDiffersSpec)

/-- ITS FALSE NEIGHBOUR: 'it returns false'. Refute it at one input. -/
def linearDiffersWrong : ChangeSpec := { name := "linearDiffers", fn := fun _ => fun
  | [d1, d2] => { results := [.lit (.bool false)], args := [d1, d2] }
  | _ => none }
def LinearDiffersWrongFalsely : Prop := linearDiffersRow.holds Try.pinned (OpenSpec.ofChange linearDiffersWrong)

/-- 'shawmlaw14.LinearReflects': WHATEVER THE INPUT: true; the input reads as it did. -/
def linearReflectsSpec : ChangeSpec := { name := "linearReflects", fn := fun _ => fun
  | [d1, d2] => { results := [.lit (.bool true)], args := [d1, d2] }
  | _ => none }
def linearReflectsRow : OpenClaim := { program := "ytopjjdfnnjgnlaa", sum := "43722201ea13c574d693211e5f6a24f1170eb31acb1eaefd0497cf7cf6a29a76", func := "shawm/shawmlaw14.LinearReflects", spec := "linearReflects", unfollowed := true, recurses := true, apart := false }
def LinearReflectsSaid : Prop := linearReflectsRow.holds Try.pinned (OpenSpec.ofChange linearReflectsSpec)

/-- ITS FALSE NEIGHBOUR: 'it returns false'. Refute it at one input. -/
def linearReflectsWrong : ChangeSpec := { name := "linearReflects", fn := fun _ => fun
  | [d1, d2] => { results := [.lit (.bool false)], args := [d1, d2] }
  | _ => none }
def LinearReflectsWrongFalsely : Prop := linearReflectsRow.holds Try.pinned (OpenSpec.ofChange linearReflectsWrong)

/-- 'shawmlaw14.LinearWeights': WHATEVER THE INPUT: true; the input reads as it did. -/
def linearWeightsSpec : ChangeSpec := { name := "linearWeights", fn := fun _ => fun
  | [d] => { results := [.lit (.bool true)], args := [d] }
  | _ => none }
def linearWeightsRow : OpenClaim := { program := "ytopjjdfnnjgnlaa", sum := "43722201ea13c574d693211e5f6a24f1170eb31acb1eaefd0497cf7cf6a29a76", func := "shawm/shawmlaw14.LinearWeights", spec := "linearWeights", unfollowed := true, recurses := true, apart := false }
def LinearWeightsSaid : Prop := linearWeightsRow.holds Try.pinned (OpenSpec.ofChange linearWeightsSpec)

/-- ITS FALSE NEIGHBOUR: 'it returns false'. Refute it at one input. -/
def linearWeightsWrong : ChangeSpec := { name := "linearWeights", fn := fun _ => fun
  | [d] => { results := [.lit (.bool false)], args := [d] }
  | _ => none }
def LinearWeightsWrongFalsely : Prop := linearWeightsRow.holds Try.pinned (OpenSpec.ofChange linearWeightsWrong)

/-- 'shawmlaw14.LinearResiduals': WHATEVER THE INPUT: true; the input reads as it did. -/
def linearResidualsSpec : ChangeSpec := { name := "linearResiduals", fn := fun _ => fun
  | [d1, d2] => { results := [.lit (.bool true)], args := [d1, d2] }
  | _ => none }
def linearResidualsRow : OpenClaim := { program := "ytopjjdfnnjgnlaa", sum := "43722201ea13c574d693211e5f6a24f1170eb31acb1eaefd0497cf7cf6a29a76", func := "shawm/shawmlaw14.LinearResiduals", spec := "linearResiduals", unfollowed := true, recurses := true, apart := false }
def LinearResidualsSaid : Prop := linearResidualsRow.holds Try.pinned (OpenSpec.ofChange linearResidualsSpec)

/-- ITS FALSE NEIGHBOUR: 'it returns false'. Refute it at one input. -/
def linearResidualsWrong : ChangeSpec := { name := "linearResiduals", fn := fun _ => fun
  | [d1, d2] => { results := [.lit (.bool false)], args := [d1, d2] }
  | _ => none }
def LinearResidualsWrongFalsely : Prop := linearResidualsRow.holds Try.pinned (OpenSpec.ofChange linearResidualsWrong)

/-- 'shawmlaw14.LinearUndone': WHATEVER THE INPUT: true; the input reads as it did. -/
def linearUndoneSpec : ChangeSpec := { name := "linearUndone", fn := fun _ => fun
  | [d1, d2, d3] => { results := [.lit (.bool true)], args := [d1, d2, d3] }
  | _ => none }
def linearUndoneRow : OpenClaim := { program := "ytopjjdfnnjgnlaa", sum := "43722201ea13c574d693211e5f6a24f1170eb31acb1eaefd0497cf7cf6a29a76", func := "shawm/shawmlaw14.LinearUndone", spec := "linearUndone", unfollowed := true, recurses := true, apart := false }
def LinearUndoneSaid : Prop := linearUndoneRow.holds Try.pinned (OpenSpec.ofChange linearUndoneSpec)

/-- ITS FALSE NEIGHBOUR: 'it returns false'. Refute it at one input. -/
def linearUndoneWrong : ChangeSpec := { name := "linearUndone", fn := fun _ => fun
  | [d1, d2, d3] => { results := [.lit (.bool false)], args := [d1, d2, d3] }
  | _ => none }
def LinearUndoneWrongFalsely : Prop := linearUndoneRow.holds Try.pinned (OpenSpec.ofChange linearUndoneWrong)

/-- 'shawmlaw14.LinearNone': WHATEVER THE INPUT: true; the input reads as it did. -/
def linearNoneSpec : ChangeSpec := { name := "linearNone", fn := fun _ => fun
  | [d1, d2, d3] => { results := [.lit (.bool true)], args := [d1, d2, d3] }
  | _ => none }
def linearNoneRow : OpenClaim := { program := "ytopjjdfnnjgnlaa", sum := "43722201ea13c574d693211e5f6a24f1170eb31acb1eaefd0497cf7cf6a29a76", func := "shawm/shawmlaw14.LinearNone", spec := "linearNone", unfollowed := true, recurses := true, apart := false }
def LinearNoneSaid : Prop := linearNoneRow.holds Try.pinned (OpenSpec.ofChange linearNoneSpec)

/-- ITS FALSE NEIGHBOUR: 'it returns false'. Refute it at one input. -/
def linearNoneWrong : ChangeSpec := { name := "linearNone", fn := fun _ => fun
  | [d1, d2, d3] => { results := [.lit (.bool false)], args := [d1, d2, d3] }
  | _ => none }
def LinearNoneWrongFalsely : Prop := linearNoneRow.holds Try.pinned (OpenSpec.ofChange linearNoneWrong)

/-- 'shawmlaw14.LinearConstant': WHATEVER THE INPUT: true; the input reads as it did. -/
def linearConstantSpec : ChangeSpec := { name := "linearConstant", fn := fun _ => fun
  | [d1, d2, d3] => { results := [.lit (.bool true)], args := [d1, d2, d3] }
  | _ => none }
def linearConstantRow : OpenClaim := { program := "ytopjjdfnnjgnlaa", sum := "43722201ea13c574d693211e5f6a24f1170eb31acb1eaefd0497cf7cf6a29a76", func := "shawm/shawmlaw14.LinearConstant", spec := "linearConstant", unfollowed := true, recurses := true, apart := false }
def LinearConstantSaid : Prop := linearConstantRow.holds Try.pinned (OpenSpec.ofChange linearConstantSpec)

/-- ITS FALSE NEIGHBOUR: 'it returns false'. Refute it at one input. -/
def linearConstantWrong : ChangeSpec := { name := "linearConstant", fn := fun _ => fun
  | [d1, d2, d3] => { results := [.lit (.bool false)], args := [d1, d2, d3] }
  | _ => none }
def LinearConstantWrongFalsely : Prop := linearConstantRow.holds Try.pinned (OpenSpec.ofChange linearConstantWrong)

/- THE SECOND FORM. 'bulk': how many values and letters a reading holds, each counted each time it is reached (what is shared counts as often as it is met; a slice's spare places count too). A statement '..UptoSaid' is the law's where the arguments, and the package variables that the reading takes, are together of bulk at most 1048576: NARROWER than '..Said'. Prove '..Said' where nothing that the law and all that it calls make is longer than what came in: it says more and counts as full. Else prove '..UptoSaid'. A law counts once. -/
mutual
def uptoBulk {H : Type} : DataW H → Nat
  | .lit (.string bytes) => bytes.length + 1
  | .lit _ => 1
  | .nil => 1
  | .ptr d => uptoBulk d + 1
  | .slice elems spare => uptoBulkAll elems + uptoBulkAll spare + 1
  | .agg parts => uptoBulkAll parts + 1
  | .iface _ d => uptoBulk d + 1
  | .map entries => uptoBulkEntries entries + 1
  | .held _ => 1
def uptoBulkAll {H : Type} : List (DataW H) → Nat
  | [] => 0
  | d :: r => uptoBulk d + uptoBulkAll r
def uptoBulkEntries {H : Type} : List (Lit × DataW H) → Nat
  | [] => 0
  | x :: r => uptoBulkEntry x + uptoBulkEntries r
def uptoBulkEntry {H : Type} : Lit × DataW H → Nat
  | (.string bytes, d) => bytes.length + uptoBulk d + 1
  | (_, d) => uptoBulk d + 1
 end
def uptoSmall : (H : Type) → List (DataW H) → Bool := fun _ ds => decide (uptoBulkAll ds ≤ 1048576)
def OpenSpec.upto (s : _root_.Go.ChangeSpec) : _root_.Go.OpenSpec := { _root_.Go.OpenSpec.ofChange s with cond := some uptoSmall }

/-- 'shawmlaw13.StereoChooses', WHERE WHAT IT READS IS OF BULK AT MOST 1048576: true; the input reads as it did. -/
def stereoChoosesUptoRow : OpenClaim := { program := "ytopjjdfnnjgnlaa", sum := "43722201ea13c574d693211e5f6a24f1170eb31acb1eaefd0497cf7cf6a29a76", func := "shawm/shawmlaw13.StereoChooses", spec := "stereoChooses", unfollowed := true, recurses := true, apart := false, narrowed := true }
def StereoChoosesUptoSaid : Prop := stereoChoosesUptoRow.holds Try.pinned (OpenSpec.upto stereoChoosesSpec)

/-- 'shawmlaw13.StereoCouples', WHERE WHAT IT READS IS OF BULK AT MOST 1048576: true; the input reads as it did. -/
def stereoCouplesUptoRow : OpenClaim := { program := "ytopjjdfnnjgnlaa", sum := "43722201ea13c574d693211e5f6a24f1170eb31acb1eaefd0497cf7cf6a29a76", func := "shawm/shawmlaw13.StereoCouples", spec := "stereoCouples", unfollowed := true, recurses := true, apart := false, narrowed := true }
def StereoCouplesUptoSaid : Prop := stereoCouplesUptoRow.holds Try.pinned (OpenSpec.upto stereoCouplesSpec)

/-- 'shawmlaw13.StereoUndone', WHERE WHAT IT READS IS OF BULK AT MOST 1048576: true; the input reads as it did. -/
def stereoUndoneUptoRow : OpenClaim := { program := "ytopjjdfnnjgnlaa", sum := "43722201ea13c574d693211e5f6a24f1170eb31acb1eaefd0497cf7cf6a29a76", func := "shawm/shawmlaw13.StereoUndone", spec := "stereoUndone", unfollowed := true, recurses := true, apart := false, narrowed := true }
def StereoUndoneUptoSaid : Prop := stereoUndoneUptoRow.holds Try.pinned (OpenSpec.upto stereoUndoneSpec)

/-- 'shawmlaw13.StereoSame', WHERE WHAT IT READS IS OF BULK AT MOST 1048576: true; the input reads as it did. -/
def stereoSameUptoRow : OpenClaim := { program := "ytopjjdfnnjgnlaa", sum := "43722201ea13c574d693211e5f6a24f1170eb31acb1eaefd0497cf7cf6a29a76", func := "shawm/shawmlaw13.StereoSame", spec := "stereoSame", unfollowed := true, recurses := true, apart := false, narrowed := true }
def StereoSameUptoSaid : Prop := stereoSameUptoRow.holds Try.pinned (OpenSpec.upto stereoSameSpec)

/-- 'shawmlaw13.StereoBest', WHERE WHAT IT READS IS OF BULK AT MOST 1048576: true; the input reads as it did. -/
def stereoBestUptoRow : OpenClaim := { program := "ytopjjdfnnjgnlaa", sum := "43722201ea13c574d693211e5f6a24f1170eb31acb1eaefd0497cf7cf6a29a76", func := "shawm/shawmlaw13.StereoBest", spec := "stereoBest", unfollowed := true, recurses := true, apart := false, narrowed := true }
def StereoBestUptoSaid : Prop := stereoBestUptoRow.holds Try.pinned (OpenSpec.upto stereoBestSpec)

/-- 'shawmlaw13.StereoCross', WHERE WHAT IT READS IS OF BULK AT MOST 1048576: true; the input reads as it did. -/
def stereoCrossUptoRow : OpenClaim := { program := "ytopjjdfnnjgnlaa", sum := "43722201ea13c574d693211e5f6a24f1170eb31acb1eaefd0497cf7cf6a29a76", func := "shawm/shawmlaw13.StereoCross", spec := "stereoCross", unfollowed := true, recurses := true, apart := false, narrowed := true }
def StereoCrossUptoSaid : Prop := stereoCrossUptoRow.holds Try.pinned (OpenSpec.upto stereoCrossSpec)

/-- 'shawmlaw14.LinearDiffers', WHERE WHAT IT READS IS OF BULK AT MOST 1048576: true; the input reads as it did. -/
def linearDiffersUptoRow : OpenClaim := { program := "ytopjjdfnnjgnlaa", sum := "43722201ea13c574d693211e5f6a24f1170eb31acb1eaefd0497cf7cf6a29a76", func := "shawm/shawmlaw14.LinearDiffers", spec := "linearDiffers", unfollowed := true, recurses := true, apart := false, narrowed := true }
def LinearDiffersUptoSaid : Prop := linearDiffersUptoRow.holds Try.pinned (OpenSpec.upto linearDiffersSpec)

/-- 'shawmlaw14.LinearReflects', WHERE WHAT IT READS IS OF BULK AT MOST 1048576: true; the input reads as it did. -/
def linearReflectsUptoRow : OpenClaim := { program := "ytopjjdfnnjgnlaa", sum := "43722201ea13c574d693211e5f6a24f1170eb31acb1eaefd0497cf7cf6a29a76", func := "shawm/shawmlaw14.LinearReflects", spec := "linearReflects", unfollowed := true, recurses := true, apart := false, narrowed := true }
def LinearReflectsUptoSaid : Prop := linearReflectsUptoRow.holds Try.pinned (OpenSpec.upto linearReflectsSpec)

/-- 'shawmlaw14.LinearWeights', WHERE WHAT IT READS IS OF BULK AT MOST 1048576: true; the input reads as it did. -/
def linearWeightsUptoRow : OpenClaim := { program := "ytopjjdfnnjgnlaa", sum := "43722201ea13c574d693211e5f6a24f1170eb31acb1eaefd0497cf7cf6a29a76", func := "shawm/shawmlaw14.LinearWeights", spec := "linearWeights", unfollowed := true, recurses := true, apart := false, narrowed := true }
def LinearWeightsUptoSaid : Prop := linearWeightsUptoRow.holds Try.pinned (OpenSpec.upto linearWeightsSpec)

/-- 'shawmlaw14.LinearResiduals', WHERE WHAT IT READS IS OF BULK AT MOST 1048576: true; the input reads as it did. -/
def linearResidualsUptoRow : OpenClaim := { program := "ytopjjdfnnjgnlaa", sum := "43722201ea13c574d693211e5f6a24f1170eb31acb1eaefd0497cf7cf6a29a76", func := "shawm/shawmlaw14.LinearResiduals", spec := "linearResiduals", unfollowed := true, recurses := true, apart := false, narrowed := true }
def LinearResidualsUptoSaid : Prop := linearResidualsUptoRow.holds Try.pinned (OpenSpec.upto linearResidualsSpec)

/-- 'shawmlaw14.LinearUndone', WHERE WHAT IT READS IS OF BULK AT MOST 1048576: true; the input reads as it did. -/
def linearUndoneUptoRow : OpenClaim := { program := "ytopjjdfnnjgnlaa", sum := "43722201ea13c574d693211e5f6a24f1170eb31acb1eaefd0497cf7cf6a29a76", func := "shawm/shawmlaw14.LinearUndone", spec := "linearUndone", unfollowed := true, recurses := true, apart := false, narrowed := true }
def LinearUndoneUptoSaid : Prop := linearUndoneUptoRow.holds Try.pinned (OpenSpec.upto linearUndoneSpec)

/-- 'shawmlaw14.LinearNone', WHERE WHAT IT READS IS OF BULK AT MOST 1048576: true; the input reads as it did. -/
def linearNoneUptoRow : OpenClaim := { program := "ytopjjdfnnjgnlaa", sum := "43722201ea13c574d693211e5f6a24f1170eb31acb1eaefd0497cf7cf6a29a76", func := "shawm/shawmlaw14.LinearNone", spec := "linearNone", unfollowed := true, recurses := true, apart := false, narrowed := true }
def LinearNoneUptoSaid : Prop := linearNoneUptoRow.holds Try.pinned (OpenSpec.upto linearNoneSpec)

/-- 'shawmlaw14.LinearConstant', WHERE WHAT IT READS IS OF BULK AT MOST 1048576: true; the input reads as it did. -/
def linearConstantUptoRow : OpenClaim := { program := "ytopjjdfnnjgnlaa", sum := "43722201ea13c574d693211e5f6a24f1170eb31acb1eaefd0497cf7cf6a29a76", func := "shawm/shawmlaw14.LinearConstant", spec := "linearConstant", unfollowed := true, recurses := true, apart := false, narrowed := true }
def LinearConstantUptoSaid : Prop := linearConstantUptoRow.holds Try.pinned (OpenSpec.upto linearConstantSpec)

end Rows
end Go.Proofs.Ytopjjdfnnjgnlaa
