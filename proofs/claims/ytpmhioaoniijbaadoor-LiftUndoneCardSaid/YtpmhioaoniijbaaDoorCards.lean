/-
  DERIVED. GIVEN WITH THE SEED: THE CARDS: each row of YtpmhioaoniijbaaDoorRows.lean that lists a variable, with what it lists TIED to the program's text (the seventh form; the later family's looks); each row that meets fmt, with fmt's text TOLD by the authors' own Lean function (tested against real Go, not proved from fmt's source: count such statements apart). THE CARD IS WHAT COUNTS. Prove the row's statement (the work); the ties are given (YtpmhioaoniijbaaDoorTie.lean); close each card by the builder's one call (the guide's Derived/Test/ToyasCard.lean, 'card_holds'). Laid BY PROGRAM, IN A SANDBOX (cutbox-door.mjs). By AI agents, Wed Nov 11 2026. No macro, syntax, notation, axiom, sorry.
-/
import Derived.Test.YtpmhioaoniijbaaDoorRows
import GoSem.ClaimSeven
namespace Go.Proofs.YtpmhioaoniijbaaDoor
namespace Rows

/-- THE TIED CARD OF 'shawmlaw03.FixedCircle'. -/
def fixedCircleCard : Claim7 := { stood := { row := fixedCircleRow, standIns := [], harness := (true, "738e09beafef83d8b05d71a58864cc19292596413bf31f0650c6d32cbeb0a6cd"), looks := false }, kinds := [], alts := [], laidByText := true, laidKinds := [.data], laidTests := true, laidLooks := .later }
def FixedCircleCardSaid : Prop := Claim7.holds Tryd.pinned (.plain (OpenSpec.ofChange fixedCircleSpec)) fixedCircleCard

/-- THE TIED CARD OF 'shawmlaw06.LiftTurns'. -/
def liftTurnsCard : Claim7 := { stood := { row := liftTurnsRow, standIns := [], harness := (true, "738e09beafef83d8b05d71a58864cc19292596413bf31f0650c6d32cbeb0a6cd"), looks := false }, kinds := [], alts := [], laidByText := true, laidKinds := [.data], laidTests := true, laidLooks := .later }
def LiftTurnsCardSaid : Prop := Claim7.holds Tryd.pinned (.plain (OpenSpec.ofChange liftTurnsSpec)) liftTurnsCard

/-- THE TIED CARD OF 'shawmlaw06.LiftMids'. -/
def liftMidsCard : Claim7 := { stood := { row := liftMidsRow, standIns := [], harness := (true, "738e09beafef83d8b05d71a58864cc19292596413bf31f0650c6d32cbeb0a6cd"), looks := false }, kinds := [], alts := [], laidByText := true, laidKinds := [.data], laidTests := true, laidLooks := .later }
def LiftMidsCardSaid : Prop := Claim7.holds Tryd.pinned (.plain (OpenSpec.ofChange liftMidsSpec)) liftMidsCard

/-- THE TIED CARD OF 'shawmlaw06.LiftApplies'. -/
def liftAppliesCard : Claim7 := { stood := { row := liftAppliesRow, standIns := [], harness := (true, "738e09beafef83d8b05d71a58864cc19292596413bf31f0650c6d32cbeb0a6cd"), looks := false }, kinds := [], alts := [], laidByText := true, laidKinds := [.data], laidTests := true, laidLooks := .later }
def LiftAppliesCardSaid : Prop := Claim7.holds Tryd.pinned (.plain (OpenSpec.ofChange liftAppliesSpec)) liftAppliesCard

/-- THE TIED CARD OF 'shawmlaw06.LiftUndone'. -/
def liftUndoneCard : Claim7 := { stood := { row := liftUndoneRow, standIns := [], harness := (true, "738e09beafef83d8b05d71a58864cc19292596413bf31f0650c6d32cbeb0a6cd"), looks := false }, kinds := [], alts := [], laidByText := true, laidKinds := [.data], laidTests := true, laidLooks := .later }
def LiftUndoneCardSaid : Prop := Claim7.holds Tryd.pinned (.plain (OpenSpec.ofChange liftUndoneSpec)) liftUndoneCard

/-- THE TIED CARD OF 'shawmlaw06.LiftQuarters'. -/
def liftQuartersCard : Claim7 := { stood := { row := liftQuartersRow, standIns := [], harness := (true, "738e09beafef83d8b05d71a58864cc19292596413bf31f0650c6d32cbeb0a6cd"), looks := false }, kinds := [], alts := [], laidByText := true, laidKinds := [.data], laidTests := true, laidLooks := .later }
def LiftQuartersCardSaid : Prop := Claim7.holds Tryd.pinned (.plain (OpenSpec.ofChange liftQuartersSpec)) liftQuartersCard

/-- THE TIED CARD OF 'shawmlaw06.LiftNear'. -/
def liftNearCard : Claim7 := { stood := { row := liftNearRow, standIns := [], harness := (true, "738e09beafef83d8b05d71a58864cc19292596413bf31f0650c6d32cbeb0a6cd"), looks := false }, kinds := [], alts := [], laidByText := true, laidKinds := [.data], laidTests := true, laidLooks := .later }
def LiftNearCardSaid : Prop := Claim7.holds Tryd.pinned (.plain (OpenSpec.ofChange liftNearSpec)) liftNearCard

/-- THE TIED CARD OF 'shawmlaw06.LiftOwn'. -/
def liftOwnCard : Claim7 := { stood := { row := liftOwnRow, standIns := [], harness := (true, "738e09beafef83d8b05d71a58864cc19292596413bf31f0650c6d32cbeb0a6cd"), looks := false }, kinds := [], alts := [], laidByText := true, laidKinds := [.data], laidTests := true, laidLooks := .later }
def LiftOwnCardSaid : Prop := Claim7.holds Tryd.pinned (.plain (OpenSpec.ofChange liftOwnSpec)) liftOwnCard

/-- THE SECOND FORM's CARD OF 'shawmlaw03.FixedCircle'. -/
def fixedCircleUptoCard : Claim7 := { stood := { row := fixedCircleUptoRow, standIns := [], harness := (true, "738e09beafef83d8b05d71a58864cc19292596413bf31f0650c6d32cbeb0a6cd"), looks := false }, kinds := [], alts := [], laidByText := true, laidKinds := [.data], laidTests := true, laidLooks := .later }
def FixedCircleUptoCardSaid : Prop := Claim7.holds Tryd.pinned (.plain (OpenSpec.upto fixedCircleSpec)) fixedCircleUptoCard

/-- THE SECOND FORM's CARD OF 'shawmlaw06.LiftTurns'. -/
def liftTurnsUptoCard : Claim7 := { stood := { row := liftTurnsUptoRow, standIns := [], harness := (true, "738e09beafef83d8b05d71a58864cc19292596413bf31f0650c6d32cbeb0a6cd"), looks := false }, kinds := [], alts := [], laidByText := true, laidKinds := [.data], laidTests := true, laidLooks := .later }
def LiftTurnsUptoCardSaid : Prop := Claim7.holds Tryd.pinned (.plain (OpenSpec.upto liftTurnsSpec)) liftTurnsUptoCard

/-- THE SECOND FORM's CARD OF 'shawmlaw06.LiftMids'. -/
def liftMidsUptoCard : Claim7 := { stood := { row := liftMidsUptoRow, standIns := [], harness := (true, "738e09beafef83d8b05d71a58864cc19292596413bf31f0650c6d32cbeb0a6cd"), looks := false }, kinds := [], alts := [], laidByText := true, laidKinds := [.data], laidTests := true, laidLooks := .later }
def LiftMidsUptoCardSaid : Prop := Claim7.holds Tryd.pinned (.plain (OpenSpec.upto liftMidsSpec)) liftMidsUptoCard

/-- THE SECOND FORM's CARD OF 'shawmlaw06.LiftApplies'. -/
def liftAppliesUptoCard : Claim7 := { stood := { row := liftAppliesUptoRow, standIns := [], harness := (true, "738e09beafef83d8b05d71a58864cc19292596413bf31f0650c6d32cbeb0a6cd"), looks := false }, kinds := [], alts := [], laidByText := true, laidKinds := [.data], laidTests := true, laidLooks := .later }
def LiftAppliesUptoCardSaid : Prop := Claim7.holds Tryd.pinned (.plain (OpenSpec.upto liftAppliesSpec)) liftAppliesUptoCard

/-- THE SECOND FORM's CARD OF 'shawmlaw06.LiftUndone'. -/
def liftUndoneUptoCard : Claim7 := { stood := { row := liftUndoneUptoRow, standIns := [], harness := (true, "738e09beafef83d8b05d71a58864cc19292596413bf31f0650c6d32cbeb0a6cd"), looks := false }, kinds := [], alts := [], laidByText := true, laidKinds := [.data], laidTests := true, laidLooks := .later }
def LiftUndoneUptoCardSaid : Prop := Claim7.holds Tryd.pinned (.plain (OpenSpec.upto liftUndoneSpec)) liftUndoneUptoCard

/-- THE SECOND FORM's CARD OF 'shawmlaw06.LiftQuarters'. -/
def liftQuartersUptoCard : Claim7 := { stood := { row := liftQuartersUptoRow, standIns := [], harness := (true, "738e09beafef83d8b05d71a58864cc19292596413bf31f0650c6d32cbeb0a6cd"), looks := false }, kinds := [], alts := [], laidByText := true, laidKinds := [.data], laidTests := true, laidLooks := .later }
def LiftQuartersUptoCardSaid : Prop := Claim7.holds Tryd.pinned (.plain (OpenSpec.upto liftQuartersSpec)) liftQuartersUptoCard

/-- THE SECOND FORM's CARD OF 'shawmlaw06.LiftNear'. -/
def liftNearUptoCard : Claim7 := { stood := { row := liftNearUptoRow, standIns := [], harness := (true, "738e09beafef83d8b05d71a58864cc19292596413bf31f0650c6d32cbeb0a6cd"), looks := false }, kinds := [], alts := [], laidByText := true, laidKinds := [.data], laidTests := true, laidLooks := .later }
def LiftNearUptoCardSaid : Prop := Claim7.holds Tryd.pinned (.plain (OpenSpec.upto liftNearSpec)) liftNearUptoCard

/-- THE SECOND FORM's CARD OF 'shawmlaw06.LiftOwn'. -/
def liftOwnUptoCard : Claim7 := { stood := { row := liftOwnUptoRow, standIns := [], harness := (true, "738e09beafef83d8b05d71a58864cc19292596413bf31f0650c6d32cbeb0a6cd"), looks := false }, kinds := [], alts := [], laidByText := true, laidKinds := [.data], laidTests := true, laidLooks := .later }
def LiftOwnUptoCardSaid : Prop := Claim7.holds Tryd.pinned (.plain (OpenSpec.upto liftOwnSpec)) liftOwnUptoCard
end Rows
end Go.Proofs.YtpmhioaoniijbaaDoor
