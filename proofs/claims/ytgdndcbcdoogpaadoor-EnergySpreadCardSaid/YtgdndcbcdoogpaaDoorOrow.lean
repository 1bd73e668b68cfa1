/- rows of energy: from the row's condition on the variables to Gv; lists and pairs that came in -/
import Derived.Test.YtgdndcbcdoogpaaDoorGf
import Derived.Test.YtgdndcbcdoogpaaDoorRows
import Derived.Test.YtgdndcbcdoogpaaDoorTie
import Derived.Test.YtgdndcbcdoogpaaDoorCards
import Derived.LaidMore
import Derived.OpenShut
import Derived.ProofKit
import Derived.Stop.Joined
import Derived.SevenTiedAt
import Derived.Lib.SmallJoins
import Derived.Deep.Slices
import Derived.Deep.Grids
import Derived.SizedLaws
namespace Go.Proofs.YtgdndcbcdoogpaaDoor
open Go.ChangeShapes Go.WideShapes Go.ChangeAt Go.WideMaps Go.WideElems Go.RowKit

theorem own : ownKnob Tryd.prog.godebug = none := by kernel_rfl
theorem gLong : Tryd.prog.globalNamed "shawm/bands.longWidths" = some 1 := by kernel_rfl
theorem tLong : (Tryd.prog.globals[1]?).map (·.type) = some 89 := by kernel_rfl
theorem gShort : Tryd.prog.globalNamed "shawm/bands.shortWidths" = some 0 := by kernel_rfl
theorem tShort : (Tryd.prog.globals[0]?).map (·.type) = some 88 := by kernel_rfl
def laidL : List (String × DataW Unit) := [("shawm/bands.longWidths", Rows.laid_shawm_bands_longWidths), ("shawm/bands.shortWidths", Rows.laid_shawm_bands_shortWidths)]
theorem door_met (os : Os) (args : Array Value) : laidMetH Tryd.prog laidL ((World.doorLaid Tryd.prog 400 os).forCall (fun _ _ => 0) ⟨#[], args, []⟩).memory :=
  laidMetH_of_parts3 (fuel := 8) (laidMet_of_run' 8 (by kernel_rfl) (by kernel_rfl)) (by kernel_rfl) (by kernel_rfl)
theorem long_datum {H : Type} : (Rows.laid_shawm_bands_longWidths : DataW H) = .agg (lwL.map fun x => .lit (Lit.int .i64 x)) := rfl
theorem short_datum {H : Type} : (Rows.laid_shawm_bands_shortWidths : DataW H) = .agg (swL.map fun x => .lit (Lit.int .i64 x)) := rfl
set_option maxRecDepth 100000 in
theorem of_array {W : World} {t : TypeId} {n fuel : Nat} {cs : Array Value} {ls : List Int} {D : DataW Unit} {p : List MemPlace} (ht : Tryd.prog.underlying t = some (.array n 3)) (hd : DataW.trod (fun _ => ()) Tryd.prog W 0 (fun _ => true) false fuel t cs.toList = some (D, p))
    (hD : D = .agg (ls.map fun y => .lit (Lit.int .i64 y))) (hl : ls.length = n) (j : Nat) (y : Int) (hj : ls[j]? = some y) : cs[j]? = some (.int .i64 y) := by
  obtain ⟨xs, m, rfl, hx, _, hn, hel⟩ := DataW.trod_array ht hd
  have c3 : Tryd.prog.cellsOf 3 = 1 := by kernel_rfl
  have hx1 : D = DataW.agg (xs.map (·.1)) := congrArg Prod.fst hx
  rw [hD] at hx1
  injection hx1 with hx1
  have hjl := (List.getElem?_eq_some_iff.1 hj).1
  obtain ⟨z, hz⟩ : ∃ z, xs[j]? = some z := ⟨_, List.getElem?_eq_getElem (by omega)⟩
  have hz1 : z.1 = .lit (Lit.int .i64 y) := by
    have := congrArg (·[j]?) hx1
    simp only [List.getElem?_map, hj, hz, Option.map_some, Option.some.injEq] at this
    exact this.symm
  have h0 := hel j (by omega)
  rw [hz, c3] at h0
  obtain ⟨k, e0, e1, _⟩ := DataW.trod_int Tryd.underlying3 h0
  have hk : k = y := by rw [e1] at hz1; simpa using hz1
  subst hk
  have b0 := congrArg (·[0]?) e0
  simpa [List.getElem?_take, List.getElem?_drop] using b0
set_option maxRecDepth 100000 in
theorem of_laid {W : World} (h : laidMetH Tryd.prog laidL W) : Gv W := by
  rw [MakeChecks.laidMetH_plain _ _ _ (by kernel_rfl)] at h
  obtain ⟨ps', ⟨g0, t0, cs0, f0, p0, q0, hg0, ht0, hv0, hd0, hrest, _⟩, _⟩ := h
  obtain rfl := Option.some.inj (gLong.symm.trans hg0)
  obtain rfl := Option.some.inj (tLong.symm.trans ht0)
  obtain ⟨g1, t1, cs1, f1, p1, q1, hg1, ht1, hv1, hd1, _, _⟩ := hrest
  obtain rfl := Option.some.inj (gShort.symm.trans hg1)
  obtain rfl := Option.some.inj (tShort.symm.trans ht1)
  exact ⟨fun j x hx => (World.var?_cell hg1 hv1 j).trans (of_array Tryd.underlying88 hd1 short_datum rfl j x hx), fun j x hx => (World.var?_cell hg0 hv0 j).trans (of_array Tryd.underlying89 hd0 long_datum rfl j x hx)⟩
theorem laidOut : laidOutB Tryd.prog = true := by kernel_rfl
theorem okWide_array {P : Program} {w : World} {r : Reach} {base : Nat} {t e : TypeId} {n : Nat} {v : Value} (ht : P.underlying t = some (.array n e)) (h : Value.okWide P w r base t v) : ∃ cs, v = .agg cs ∧ cs.size = P.cellsOf t := by
  simp only [Value.okWide, ht] at h
  obtain ⟨cs, h1, h2, _⟩ := h
  exact ⟨cs, h1, h2⟩
set_option maxRecDepth 100000 in
theorem arr2_open {H : Type} {enc : TypeId × Value → H} {W : World} {sp : Nat → Bool} {base : Nat} {v : Value} {d : DataW H} {p : List MemPlace} (h : DataW.Trod enc Tryd.prog W 0 sp true 37 v d p)
    (hv : Value.okWide Tryd.prog W .any base 37 v) : ∃ x y : Int, v = .agg #[.int .i64 x, .int .i64 y] ∧ (-9223372036854775808 ≤ x ∧ x ≤ 9223372036854775807) ∧ (-9223372036854775808 ≤ y ∧ y ≤ 9223372036854775807) := by
  obtain ⟨cs, rfl, hsz⟩ := okWide_array Tryd.underlying37 hv
  obtain ⟨fuel, hf⟩ := h
  have c3 : Tryd.prog.cellsOf 3 = 1 := by kernel_rfl
  have c22 : Tryd.prog.cellsOf 37 = 2 := by kernel_rfl
  rw [c22] at hsz
  obtain ⟨xs, m, rfl, hx, hl, hn, hel⟩ := DataW.trod_array Tryd.underlying37 hf
  have one : ∀ i, i < 2 → ∃ k : Int, cs[i]? = some (.int .i64 k) ∧ -9223372036854775808 ≤ k ∧ k ≤ 9223372036854775807 := by
    intro i hi
    obtain ⟨y, hy⟩ : ∃ y, xs[i]? = some y := ⟨_, List.getElem?_eq_getElem (show i < xs.length by omega)⟩
    have h0 := hel i hi
    rw [hy, c3] at h0
    obtain ⟨k, e0, _, wf⟩ := DataW.trod_int Tryd.underlying3 h0
    have h1 : IntKind.i64.min = -9223372036854775808 := rfl
    have h2 : IntKind.i64.max = 9223372036854775807 := rfl
    simp only [Lit.wf, Bool.and_eq_true, decide_eq_true_eq] at wf
    refine ⟨k, ?_, by omega, by omega⟩
    have e1 := congrArg (·[0]?) e0
    simpa [Value.cells, List.getElem?_take, List.getElem?_drop] using e1
  obtain ⟨x, hx0, bx⟩ := one 0 (by omega)
  obtain ⟨y, hy0, by'⟩ := one 1 (by omega)
  refine ⟨x, y, ?_, bx, by'⟩
  congr 1
  apply Array.ext
  · simpa using hsz
  · intro i h1 h2
    have h3 : i < 2 := by omega
    have g : cs[i]? = some cs[i] := Array.getElem?_eq_getElem h1
    rcases (show i = 0 ∨ i = 1 by omega) with rfl | rfl
    · rw [hx0] at g; exact (Option.some.inj g).symm
    · rw [hy0] at g; exact (Option.some.inj g).symm
theorem Tryd.bytesI : Tryd.prog.bytesOf 3 = 8 := by kernel_rfl
theorem ints_of_trod {H : Type} {enc : TypeId × Value → H} {W : World} {sp : Nat → Bool} {a0 : Option Addr} {len cap : Nat} {d0 : DataW H} {p0 : List MemPlace} (hsp : ∀ k, sp k = true)
    (h0 : DataW.Trod enc Tryd.prog W 0 sp true 22 (.slice a0 len cap) d0 p0) (hw : ∀ m ∈ DataW.weights Tryd.prog 22 d0, m ≤ reachBytes) : ∃ xs, Ints W (.slice a0 len cap) xs := by
  obtain ⟨fuel, hf⟩ := h0
  rcases open_ints Tryd.underlying22 Tryd.underlying3 (by kernel_rfl) hf with ⟨hcs, _⟩ | ⟨x, l, c, zs, hcs, _, hl, hm, hz, hy, hcell, hwz⟩
  · simp [Value.cells] at hcs
    obtain ⟨rfl, rfl, rfl⟩ := hcs
    exact ⟨[], Ints.nil W⟩
  · simp [Value.cells] at hcs
    obtain ⟨rfl, rfl, rfl⟩ := hcs
    have hz' : zs.length = cap := by simpa [hsp] using hz
    simp only [Prod.mk.injEq] at hy
    have hb := hw (((zs.take len).length + (zs.drop len).length) * 8) (by rw [hy.1]; simp [DataW.weights, Tryd.underlying22, Tryd.bytesI, lits])
    simp only [List.length_take, List.length_drop, reachBytes] at hb
    refine ⟨zs.take len, by simp only [List.length_take]; omega, some x, cap, by simp only [List.length_take]; congr 1; omega, ⟨by simp only [List.length_take]; omega, fun e => by cases e⟩, ?_⟩
    by_cases h0 : len = 0
    · subst h0; exact .inl (by simp)
    · right
      obtain ⟨b, off, spot⟩ := x
      have c0 := hcell 0 (by omega)
      have hs : spot = none := by
        have := World.cell?_spot c0
        simpa [Addr.add] using this
      subst hs
      refine ⟨b, off, rfl, fun j y hj => ?_⟩
      rw [List.getElem?_take] at hj
      by_cases hjl : j < len
      · rw [if_pos hjl] at hj
        have := hcell j (List.getElem?_eq_some_iff.1 hj).1
        rw [addr_add, List.getD_eq_getElem?_getD, hj] at this
        exact this
      · rw [if_neg hjl] at hj; cases hj
theorem Tryd.bytesB : Tryd.prog.bytesOf 4 = 1 := by kernel_rfl

end Go.Proofs.YtgdndcbcdoogpaaDoor
