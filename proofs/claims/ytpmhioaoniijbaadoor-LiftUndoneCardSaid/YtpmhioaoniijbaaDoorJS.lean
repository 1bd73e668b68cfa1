/- lists and turns that came in -/
import Derived.Test.YtpmhioaoniijbaaDoorFrow
import Derived.Test.YtpmhioaoniijbaaDoorJM
import Derived.Lib.SmallJoins
import Derived.Deep.Slices
import Derived.SizedLaws
namespace Go.Proofs.YtpmhioaoniijbaaDoor
open Go.ChangeShapes Go.WideShapes Go.ChangeAt Go.WideMaps Go.WideElems Go.RowKit

theorem laidOut : laidOutB Tryd.prog = true := by kernel_rfl
theorem okWide_array {P : Program} {w : World} {r : Reach} {base : Nat} {t e : TypeId} {n : Nat} {v : Value} (ht : P.underlying t = some (.array n e)) (h : Value.okWide P w r base t v) : ∃ cs, v = .agg cs ∧ cs.size = P.cellsOf t := by
  simp only [Value.okWide, ht] at h
  obtain ⟨cs, h1, h2, _⟩ := h
  exact ⟨cs, h1, h2⟩
theorem arr2_open {H : Type} {enc : TypeId × Value → H} {W : World} {sp : Nat → Bool} {base : Nat} {v : Value} {d : DataW H} {p : List MemPlace} (h : DataW.Trod enc Tryd.prog W 0 sp true 27 v d p)
    (hv : Value.okWide Tryd.prog W .any base 27 v) : ∃ x y : Int, v = .agg #[.int .i64 x, .int .i64 y] ∧ (-9223372036854775808 ≤ x ∧ x ≤ 9223372036854775807) ∧ (-9223372036854775808 ≤ y ∧ y ≤ 9223372036854775807) := by
  obtain ⟨cs, rfl, hsz⟩ := okWide_array Tryd.underlying27 hv
  obtain ⟨fuel, hf⟩ := h
  have c3 : Tryd.prog.cellsOf 3 = 1 := by kernel_rfl
  have c22 : Tryd.prog.cellsOf 27 = 2 := by kernel_rfl
  rw [c22] at hsz
  obtain ⟨xs, m, rfl, hx, hl, hn, hel⟩ := DataW.trod_array Tryd.underlying27 hf
  have one : ∀ i, i < 2 → ∃ k : Int, cs[i]? = some (.int .i64 k) ∧ -9223372036854775808 ≤ k ∧ k ≤ 9223372036854775807 := by
    intro i hi
    obtain ⟨y, hy⟩ : ∃ y, xs[i]? = some y := ⟨_, List.getElem?_eq_getElem (show i < xs.length by omega)⟩
    have h0 := hel i hi
    rw [hy, c3] at h0
    obtain ⟨k, e0, _, wf⟩ := DataW.trod_int Tryd.underlying3 h0
    have h1 : IntKind.i64.min = -9223372036854775808 := rfl
    have h2 : IntKind.i64.max = 9223372036854775807 := rfl
    simp only [Lit.wf, Bool.and_eq_true, decide_eq_true_eq] at wf
    refine ⟨k, ?_, by omega, by omega⟩
    have e1 := congrArg (·[0]?) e0
    simpa [Value.cells, List.getElem?_take, List.getElem?_drop] using e1
  obtain ⟨x, hx0, bx⟩ := one 0 (by omega)
  obtain ⟨y, hy0, by'⟩ := one 1 (by omega)
  refine ⟨x, y, ?_, bx, by'⟩
  congr 1
  apply Array.ext
  · simpa using hsz
  · intro i h1 h2
    have h3 : i < 2 := by omega
    have g : cs[i]? = some cs[i] := Array.getElem?_eq_getElem h1
    rcases (show i = 0 ∨ i = 1 by omega) with rfl | rfl
    · rw [hx0] at g; exact (Option.some.inj g).symm
    · rw [hy0] at g; exact (Option.some.inj g).symm
end Go.Proofs.YtpmhioaoniijbaaDoor
