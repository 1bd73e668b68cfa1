/- the law of undoing -/
import Derived.Test.YtpmhioaoniijbaaDoorJX
import Derived.Test.YtpmhioaoniijbaaDoorJXb
namespace Go.Proofs.YtpmhioaoniijbaaDoor
open Go.RowKit Go.Shelf

theorem undone_law (xv tv : Value) (xs : List Int) (ts : List Tn) (n d : Int) (w : World) (hx : Ints w xv xs) (ht : Tns w tv ts) (hp : Parts w) :
    Calls Tryd.prog 7 #[xv, tv, .agg #[.int .i64 n, .int .i64 d]] w fun e w' => e = .returned (.bool true) ∧ Upd NoB w w' := by
  by_cases hE : stpE 1048576 xs ts = 0
  · exact undone_ok xv tv xs ts n d w hx ht hp hE
  · exact undone_no xv tv xs ts n d w hx ht hp hE
end Go.Proofs.YtpmhioaoniijbaaDoor
