/- From the row's condition on the variable parts to the walks; the frame of the rows. -/
import Derived.Test.YtpmhioaoniijbaaDoorFaw
import Derived.Test.YtpmhioaoniijbaaDoorRows
import Derived.Test.YtpmhioaoniijbaaDoorTie
import Derived.Test.YtpmhioaoniijbaaDoorCards
import Derived.LaidMore
import Derived.OpenShut
import Derived.ProofKit
import Derived.Stop.Joined
import Derived.SevenTiedAt
namespace Go.Proofs.YtpmhioaoniijbaaDoor
open Go.ChangeShapes Go.WideShapes Go.ChangeAt Go.WideMaps Go.WideElems Go.RowKit

theorem own : ownKnob Tryd.prog.godebug = none := by kernel_rfl
theorem gParts : Tryd.prog.globalNamed "shawm/fixed.parts" = some 0 := by kernel_rfl
theorem tParts : (Tryd.prog.globals[0]?).map (·.type) = some 79 := by kernel_rfl
def laidL : List (String × DataW Unit) := [("shawm/fixed.parts", Rows.laid_shawm_fixed_parts)]
theorem door_met (os : Os) (args : Array Value) : laidMetH Tryd.prog laidL ((World.doorLaid Tryd.prog 400 os).forCall (fun _ _ => 0) ⟨#[], args, []⟩).memory :=
  laidMetH_of_parts3 (fuel := 8) (laidMet_of_run' 8 (by kernel_rfl) (by kernel_rfl)) (by kernel_rfl) (by kernel_rfl)
theorem parts_datum {H : Type} (i : Nat) (hi : i < 12) : ∃ l : List (DataW H), Rows.laid_shawm_fixed_parts = .agg l ∧ l[i]? = some (.agg [.lit (.int .i64 (pc i : Nat)), .lit (.int .i64 (ps i : Nat))]) := by
  refine ⟨_, rfl, ?_⟩
  rcases (show i = 0 ∨ i = 1 ∨ i = 2 ∨ i = 3 ∨ i = 4 ∨ i = 5 ∨ i = 6 ∨ i = 7 ∨ i = 8 ∨ i = 9 ∨ i = 10 ∨ i = 11 by omega) with rfl | rfl | rfl | rfl | rfl | rfl | rfl | rfl | rfl | rfl | rfl | rfl <;> rfl
theorem of_laid {W : World} (h : laidMetH Tryd.prog laidL W) : Parts W := by
  rw [MakeChecks.laidMetH_plain _ _ _ (by kernel_rfl)] at h
  obtain ⟨ps', ⟨g0, t0, cs0, f0, p0, q0, hg0, ht0, hv0, hd0, _, _⟩, _, _⟩ := h
  obtain rfl := Option.some.inj (gParts.symm.trans hg0)
  obtain rfl := Option.some.inj (tParts.symm.trans ht0)
  intro i hi
  obtain ⟨l, hl, hli⟩ := parts_datum (H := Unit) i hi
  obtain ⟨xs, m1, rfl, hx, hlen, hn, hel⟩ := DataW.trod_array Tryd.underlying79 hd0
  have c3 : Tryd.prog.cellsOf 3 = 1 := by kernel_rfl
  have c40 : Tryd.prog.cellsOf 46 = 2 := by kernel_rfl
  have hx1 : Rows.laid_shawm_fixed_parts = DataW.agg (xs.map (·.1)) := congrArg Prod.fst hx
  rw [hl] at hx1
  injection hx1 with hx1
  rw [hx1] at hli
  have hi' : i < xs.length := by omega
  obtain ⟨y, hy⟩ : ∃ y, xs[i]? = some y := ⟨_, List.getElem?_eq_getElem hi'⟩
  have hy1 : y.1 = .agg [.lit (.int .i64 (pc i : Nat)), .lit (.int .i64 (ps i : Nat))] := by
    rw [List.getElem?_map, hy] at hli
    simpa using hli
  have h0 := hel i hi
  rw [hy, c40] at h0
  obtain ⟨ys, m2, rfl, hz, hl2, hn2, hf⟩ := DataW.trod_struct Tryd.underlying46 h0
  rw [hz] at hy1
  simp only [DataW.agg.injEq] at hy1
  have a0 := hf 0 _ rfl
  have a1 := hf 1 _ rfl
  match ys, hn2, hy1, a0, a1 with
  | [y0, y1], _, hy1, a0, a1 =>
    simp only [List.map_cons, List.map_nil, List.cons.injEq, and_true] at hy1
    obtain ⟨k0, e0, e1, _⟩ := DataW.trod_int Tryd.underlying3 (show DataW.trod _ Tryd.prog W 0 _ false m2 3 _ = some y0 from a0)
    obtain ⟨k1, e2, e3, _⟩ := DataW.trod_int Tryd.underlying3 (show DataW.trod _ Tryd.prog W 0 _ false m2 3 _ = some y1 from a1)
    have q0 : k0 = (pc i : Nat) := by rw [e1] at hy1; simpa using hy1.1
    have q1 : k1 = (ps i : Nat) := by rw [e3] at hy1; simpa using hy1.2
    subst q0 q1
    have v0 := World.var?_cell hg0 hv0 (2 * i)
    have v1 := World.var?_cell hg0 hv0 (2 * i + 1)
    have b0 : cs0.toList[2 * i]? = some (.int .i64 (pc i : Nat)) := by
      have := congrArg (·[0]?) e0
      simpa [List.getElem?_take, List.getElem?_drop, Nat.mul_comm, c3] using this
    have b1 : cs0.toList[2 * i + 1]? = some (.int .i64 (ps i : Nat)) := by
      have := congrArg (·[0]?) e2
      simpa [List.getElem?_take, List.getElem?_drop, Nat.mul_comm, c3] using this
    rw [Array.getElem?_toList] at b0 b1
    exact ⟨by rw [v0]; first | exact b0 | simpa using b0, by rw [v1]; first | exact b1 | simpa using b1⟩
end Go.Proofs.YtpmhioaoniijbaaDoor
