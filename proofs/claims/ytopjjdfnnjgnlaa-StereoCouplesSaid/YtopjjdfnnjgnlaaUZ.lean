/- rows of stereo: lists of integers and flags, and a pair of lists, that came in -/
import Derived.Test.YtopjjdfnnjgnlaaUP
import Derived.Test.YtopjjdfnnjgnlaaRows
import Derived.WalkKit
import Derived.ProofKit
import Derived.OpenShut
import Derived.ShutString
import Derived.ChangeOld
import Derived.Below
import Derived.Lib.SmallJoins
import Derived.Deep.Slices
import Derived.Deep.Grids
import Derived.SizedLaws
namespace Go.Proofs.Ytopjjdfnnjgnlaa
open Go.ChangeShapes Go.WideShapes Go.ChangeAt Go.RowKit

theorem own : ownKnob Try.prog.godebug = none := by kernel_rfl
theorem laidOut : laidOutB Try.prog = true := by kernel_rfl
theorem Try.bytesI : Try.prog.bytesOf 3 = 8 := by kernel_rfl
theorem ints_of_trod {H : Type} {enc : TypeId × Value → H} {W : World} {sp : Nat → Bool} {a0 : Option Addr} {len cap : Nat} {d0 : DataW H} {p0 : List MemPlace} (hsp : ∀ k, sp k = true)
    (h0 : DataW.Trod enc Try.prog W 0 sp true 22 (.slice a0 len cap) d0 p0) (hw : ∀ m ∈ DataW.weights Try.prog 22 d0, m ≤ reachBytes) : ∃ xs, Ints W (.slice a0 len cap) xs := by
  obtain ⟨fuel, hf⟩ := h0
  rcases open_ints Try.underlying22 Try.underlying3 (by kernel_rfl) hf with ⟨hcs, _⟩ | ⟨x, l, c, zs, hcs, _, hl, hm, hz, hy, hcell, hwz⟩
  · simp [Value.cells] at hcs
    obtain ⟨rfl, rfl, rfl⟩ := hcs
    exact ⟨[], Ints.nil W⟩
  · simp [Value.cells] at hcs
    obtain ⟨rfl, rfl, rfl⟩ := hcs
    have hz' : zs.length = cap := by simpa [hsp] using hz
    simp only [Prod.mk.injEq] at hy
    have hb := hw (((zs.take len).length + (zs.drop len).length) * 8) (by rw [hy.1]; simp [DataW.weights, Try.underlying22, Try.bytesI, lits])
    simp only [List.length_take, List.length_drop, reachBytes] at hb
    refine ⟨zs.take len, by simp only [List.length_take]; omega, some x, cap, by simp only [List.length_take]; congr 1; omega, ⟨by simp only [List.length_take]; omega, fun e => by cases e⟩, ?_⟩
    by_cases h0 : len = 0
    · subst h0; exact .inl (by simp)
    · right
      obtain ⟨b, off, spot⟩ := x
      have c0 := hcell 0 (by omega)
      have hs : spot = none := by
        have := World.cell?_spot c0
        simpa [Addr.add] using this
      subst hs
      refine ⟨b, off, rfl, fun j y hj => ?_⟩
      rw [List.getElem?_take] at hj
      by_cases hjl : j < len
      · rw [if_pos hjl] at hj
        have := hcell j (List.getElem?_eq_some_iff.1 hj).1
        rw [addr_add, List.getD_eq_getElem?_getD, hj] at this
        exact this
      · rw [if_neg hjl] at hj; cases hj
theorem Try.bytesB : Try.prog.bytesOf 4 = 1 := by kernel_rfl
theorem bools_of_trod {H : Type} {enc : TypeId × Value → H} {W : World} {sp : Nat → Bool} {a0 : Option Addr} {len cap : Nat} {d0 : DataW H} {p0 : List MemPlace} (hsp : ∀ k, sp k = true)
    (h0 : DataW.Trod enc Try.prog W 0 sp true 27 (.slice a0 len cap) d0 p0) (hw : ∀ m ∈ DataW.weights Try.prog 27 d0, m ≤ reachBytes) : ∃ fs, Bls W (.slice a0 len cap) fs := by
  obtain ⟨fuel, hf⟩ := h0
  obtain rfl : sp = fun _ => true := funext hsp
  rcases Go.Deep.open_bools Try.underlying27 Try.underlying4 (by kernel_rfl) hf with ⟨hcs, _⟩ | ⟨x, l, c, B, hcs, _, hl, hm, hy, hcell⟩
  · simp [Value.cells] at hcs
    obtain ⟨rfl, rfl, rfl⟩ := hcs
    exact ⟨[], Bls.nil W⟩
  · simp [Value.cells] at hcs
    obtain ⟨rfl, rfl, rfl⟩ := hcs
    simp only [Prod.mk.injEq] at hy
    have hb := hw (len + (cap - len)) (by rw [hy.1]; simp [Go.Deep.boolRow, DataW.weights, Try.underlying27, Try.bytesB])
    simp only [reachBytes] at hb
    refine ⟨(List.range len).map B, by simp only [List.length_map, List.length_range]; omega, some x, cap, by simp, ⟨by simpa using hl, fun e => by cases e⟩, ?_⟩
    by_cases h0 : len = 0
    · subst h0; exact .inl (by simp)
    · right
      obtain ⟨b, off, spot⟩ := x
      have c0 := hcell 0 (by omega)
      have hs : spot = none := by
        have := World.cell?_spot c0
        simpa [Addr.add] using this
      subst hs
      refine ⟨b, off, rfl, fun j y hj => ?_⟩
      rw [List.getElem?_map] at hj
      by_cases hjl : j < len
      · rw [List.getElem?_range hjl] at hj
        have := hcell j (by omega)
        rw [addr_add] at this
        rw [this]
        simp only [Option.map_some, Option.some.injEq] at hj
        rw [hj]
      · rw [List.getElem?_eq_none (by simp; omega)] at hj
        simp at hj
set_option maxRecDepth 100000 in
theorem ints_of_trod1 {H : Type} {enc : TypeId × Value → H} {W : World} {sp : Nat → Bool} {fuel : Nat} {cs : List Value} {y : DataW H × List MemPlace} (hsp : ∀ k, sp k = true)
    (hf : DataW.trod enc Try.prog W 0 sp true fuel 22 cs = some y) (hw : ∀ m ∈ DataW.weights Try.prog 22 y.1, m ≤ reachBytes) : ∃ v xs, cs = [v] ∧ Ints W v xs := by
  have hf' := hf
  rcases open_ints Try.underlying22 Try.underlying3 (by kernel_rfl) hf with ⟨hcs, _⟩ | ⟨x, l, c, zs, hcs, _⟩
  · subst hcs
    obtain ⟨xs, hx⟩ := ints_of_trod (a0 := none) (len := 0) (cap := 0) hsp ⟨fuel, hf'⟩ hw
    exact ⟨_, xs, rfl, hx⟩
  · subst hcs
    obtain ⟨xs, hx⟩ := ints_of_trod (a0 := some x) (len := l) (cap := c) hsp ⟨fuel, hf'⟩ hw
    exact ⟨_, xs, rfl, hx⟩
set_option maxRecDepth 100000 in
theorem pair_open {H : Type} {enc : TypeId × Value → H} {W : World} {sp : Nat → Bool} {base : Nat} {v : Value} {d : DataW H} {p : List MemPlace} (hsp : ∀ k, sp k = true)
    (hv : Value.okWide Try.prog W .any base 24 v) (h : DataW.Trod enc Try.prog W 0 sp true 24 v d p) (hw : ∀ m ∈ DataW.weights Try.prog 24 d, m ≤ reachBytes) :
    ∃ lv rv l r, v = .agg #[lv, rv] ∧ Ints W lv l ∧ Ints W rv r := by
  obtain ⟨v0, v1, y0, y1, n, rfl, rfl, rfl, h0, h1⟩ := Go.Joins.open_agg2 Try.underlying24 (by kernel_rfl) (by kernel_rfl) hv h
  obtain ⟨w0, l, e0, i0⟩ := ints_of_trod1 hsp h0 (fun m hm => hw m (by
    simp only [DataW.weights, Try.underlying24]
    simp [DataW.weightsEach]
    exact .inl hm))
  obtain ⟨w1, r, e1, i1⟩ := ints_of_trod1 hsp h1 (fun m hm => hw m (by
    simp only [DataW.weights, Try.underlying24]
    simp [DataW.weightsEach]
    exact .inr hm))
  cases e0
  cases e1
  exact ⟨_, _, l, r, rfl, i0, i1⟩
end Go.Proofs.Ytopjjdfnnjgnlaa
