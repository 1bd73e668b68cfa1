/- rows of quant: lists of integers and pairs that came in -/
import Derived.Test.YteioaeceobgbdaaQP
import Derived.Test.YteioaeceobgbdaaRows
import Derived.WalkKit
import Derived.ProofKit
import Derived.OpenShut
import Derived.ShutString
import Derived.ChangeOld
import Derived.Below
import Derived.Lib.SmallJoins
import Derived.Deep.Slices
import Derived.Deep.Grids
import Derived.SizedLaws
namespace Go.Proofs.Yteioaeceobgbdaa
open Go.ChangeShapes Go.WideShapes Go.ChangeAt Go.RowKit

theorem own : ownKnob Try.prog.godebug = none := by kernel_rfl
theorem laidOut : laidOutB Try.prog = true := by kernel_rfl
theorem Try.bytesI : Try.prog.bytesOf 3 = 8 := by kernel_rfl
theorem ints_of_trod {H : Type} {enc : TypeId × Value → H} {W : World} {sp : Nat → Bool} {a0 : Option Addr} {len cap : Nat} {d0 : DataW H} {p0 : List MemPlace} (hsp : ∀ k, sp k = true)
    (h0 : DataW.Trod enc Try.prog W 0 sp true 28 (.slice a0 len cap) d0 p0) (hw : ∀ m ∈ DataW.weights Try.prog 28 d0, m ≤ reachBytes) : ∃ xs, Ints W (.slice a0 len cap) xs := by
  obtain ⟨fuel, hf⟩ := h0
  rcases open_ints Try.underlying28 Try.underlying3 (by kernel_rfl) hf with ⟨hcs, _⟩ | ⟨x, l, c, zs, hcs, _, hl, hm, hz, hy, hcell, hwz⟩
  · simp [Value.cells] at hcs
    obtain ⟨rfl, rfl, rfl⟩ := hcs
    exact ⟨[], Ints.nil W⟩
  · simp [Value.cells] at hcs
    obtain ⟨rfl, rfl, rfl⟩ := hcs
    have hz' : zs.length = cap := by simpa [hsp] using hz
    simp only [Prod.mk.injEq] at hy
    have hb := hw (((zs.take len).length + (zs.drop len).length) * 8) (by rw [hy.1]; simp [DataW.weights, Try.underlying28, Try.bytesI, lits])
    simp only [List.length_take, List.length_drop, reachBytes] at hb
    refine ⟨zs.take len, by simp only [List.length_take]; omega, some x, cap, by simp only [List.length_take]; congr 1; omega, ⟨by simp only [List.length_take]; omega, fun e => by cases e⟩, ?_⟩
    by_cases h0 : len = 0
    · subst h0; exact .inl (by simp)
    · right
      obtain ⟨b, off, spot⟩ := x
      have c0 := hcell 0 (by omega)
      have hs : spot = none := by
        have := World.cell?_spot c0
        simpa [Addr.add] using this
      subst hs
      refine ⟨b, off, rfl, fun j y hj => ?_⟩
      rw [List.getElem?_take] at hj
      by_cases hjl : j < len
      · rw [if_pos hjl] at hj
        have := hcell j (List.getElem?_eq_some_iff.1 hj).1
        rw [addr_add, List.getD_eq_getElem?_getD, hj] at this
        exact this
      · rw [if_neg hjl] at hj; cases hj
theorem okWide_array {P : Program} {w : World} {r : Reach} {base : Nat} {t e : TypeId} {n : Nat} {v : Value} (ht : P.underlying t = some (.array n e)) (h : Value.okWide P w r base t v) : ∃ cs, v = .agg cs ∧ cs.size = P.cellsOf t := by
  simp only [Value.okWide, ht] at h
  obtain ⟨cs, h1, h2, _⟩ := h
  exact ⟨cs, h1, h2⟩
set_option maxRecDepth 100000 in
theorem arr2_open {H : Type} {enc : TypeId × Value → H} {W : World} {sp : Nat → Bool} {base : Nat} {v : Value} {d : DataW H} {p : List MemPlace} (h : DataW.Trod enc Try.prog W 0 sp true 36 v d p)
    (hv : Value.okWide Try.prog W .any base 36 v) : ∃ x y : Int, v = .agg #[.int .i64 x, .int .i64 y] ∧ (-9223372036854775808 ≤ x ∧ x ≤ 9223372036854775807) ∧ (-9223372036854775808 ≤ y ∧ y ≤ 9223372036854775807) := by
  obtain ⟨cs, rfl, hsz⟩ := okWide_array Try.underlying36 hv
  obtain ⟨fuel, hf⟩ := h
  have c3 : Try.prog.cellsOf 3 = 1 := by kernel_rfl
  have c22 : Try.prog.cellsOf 36 = 2 := by kernel_rfl
  rw [c22] at hsz
  obtain ⟨xs, m, rfl, hx, hl, hn, hel⟩ := DataW.trod_array Try.underlying36 hf
  have one : ∀ i, i < 2 → ∃ k : Int, cs[i]? = some (.int .i64 k) ∧ -9223372036854775808 ≤ k ∧ k ≤ 9223372036854775807 := by
    intro i hi
    obtain ⟨y, hy⟩ : ∃ y, xs[i]? = some y := ⟨_, List.getElem?_eq_getElem (show i < xs.length by omega)⟩
    have h0 := hel i hi
    rw [hy, c3] at h0
    obtain ⟨k, e0, _, wf⟩ := DataW.trod_int Try.underlying3 h0
    have h1 : IntKind.i64.min = -9223372036854775808 := rfl
    have h2 : IntKind.i64.max = 9223372036854775807 := rfl
    simp only [Lit.wf, Bool.and_eq_true, decide_eq_true_eq] at wf
    refine ⟨k, ?_, by omega, by omega⟩
    have e1 := congrArg (·[0]?) e0
    simpa [Value.cells, List.getElem?_take, List.getElem?_drop] using e1
  obtain ⟨x, hx0, bx⟩ := one 0 (by omega)
  obtain ⟨y, hy0, by'⟩ := one 1 (by omega)
  refine ⟨x, y, ?_, bx, by'⟩
  congr 1
  apply Array.ext
  · simpa using hsz
  · intro i h1 h2
    have h3 : i < 2 := by omega
    have g : cs[i]? = some cs[i] := Array.getElem?_eq_getElem h1
    rcases (show i = 0 ∨ i = 1 by omega) with rfl | rfl
    · rw [hx0] at g; exact (Option.some.inj g).symm
    · rw [hy0] at g; exact (Option.some.inj g).symm
end Go.Proofs.Yteioaeceobgbdaa
