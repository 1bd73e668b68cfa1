/- energy: rows of laws with lists of flags or of small numbers -/
import Derived.Test.YtgdndcbcdoogpaaDoorOl
import Derived.Test.YtgdndcbcdoogpaaDoorOrow
namespace Go.Proofs.YtgdndcbcdoogpaaDoor
open Go.ChangeShapes Go.WideShapes Go.ChangeAt Go.WideMaps Go.WideElems Go.RowKit

theorem bools_of_trod {H : Type} {enc : TypeId × Value → H} {W : World} {sp : Nat → Bool} {a0 : Option Addr} {len cap : Nat} {d0 : DataW H} {p0 : List MemPlace} (hsp : ∀ k, sp k = true)
    (h0 : DataW.Trod enc Tryd.prog W 0 sp true 40 (.slice a0 len cap) d0 p0) (hw : ∀ m ∈ DataW.weights Tryd.prog 40 d0, m ≤ reachBytes) : ∃ fs, Bls W (.slice a0 len cap) fs := by
  obtain ⟨fuel, hf⟩ := h0
  obtain rfl : sp = fun _ => true := funext hsp
  rcases Go.Deep.open_bools Tryd.underlying40 Tryd.underlying4 (by kernel_rfl) hf with ⟨hcs, _⟩ | ⟨x, l, c, B, hcs, _, hl, hm, hy, hcell⟩
  · simp [Value.cells] at hcs
    obtain ⟨rfl, rfl, rfl⟩ := hcs
    exact ⟨[], Bls.nil W⟩
  · simp [Value.cells] at hcs
    obtain ⟨rfl, rfl, rfl⟩ := hcs
    simp only [Prod.mk.injEq] at hy
    have hb := hw (len + (cap - len)) (by rw [hy.1]; simp [Go.Deep.boolRow, DataW.weights, Tryd.underlying40, Tryd.bytesB])
    simp only [reachBytes] at hb
    refine ⟨(List.range len).map B, by simp only [List.length_map, List.length_range]; omega, some x, cap, by simp, ⟨by simpa using hl, fun e => by cases e⟩, ?_⟩
    by_cases h0 : len = 0
    · subst h0; exact .inl (by simp)
    · right
      obtain ⟨b, off, spot⟩ := x
      have c0 := hcell 0 (by omega)
      have hs : spot = none := by
        have := World.cell?_spot c0
        simpa [Addr.add] using this
      subst hs
      refine ⟨b, off, rfl, fun j y hj => ?_⟩
      rw [List.getElem?_map] at hj
      by_cases hjl : j < len
      · rw [List.getElem?_range hjl] at hj
        have := hcell j (by omega)
        rw [addr_add] at this
        rw [this]
        simp only [Option.map_some, Option.some.injEq] at hj
        rw [hj]
      · rw [List.getElem?_eq_none (by simp; omega)] at hj
        simp at hj
theorem Tryd.bytesU : Tryd.prog.bytesOf 47 = 2 := by kernel_rfl
theorem u16s_of_trod {H : Type} {enc : TypeId × Value → H} {W : World} {sp : Nat → Bool} {a0 : Option Addr} {len cap : Nat} {d0 : DataW H} {p0 : List MemPlace} (hsp : ∀ k, sp k = true)
    (h0 : DataW.Trod enc Tryd.prog W 0 sp true 46 (.slice a0 len cap) d0 p0) (hw : ∀ m ∈ DataW.weights Tryd.prog 46 d0, m ≤ reachBytes) : ∃ xs, U16s W (.slice a0 len cap) xs := by
  obtain ⟨fuel, hf⟩ := h0
  rcases open_ints Tryd.underlying46 Tryd.underlying47 (by kernel_rfl) hf with ⟨hcs, _⟩ | ⟨x, l, c, zs, hcs, _, hl, hm, hz, hy, hcell, hwz⟩
  · simp [Value.cells] at hcs
    obtain ⟨rfl, rfl, rfl⟩ := hcs
    exact ⟨[], U16s.nil W⟩
  · simp [Value.cells] at hcs
    obtain ⟨rfl, rfl, rfl⟩ := hcs
    have hz' : zs.length = cap := by simpa [hsp] using hz
    simp only [Prod.mk.injEq] at hy
    have hb := hw (((zs.take len).length + (zs.drop len).length) * 2) (by rw [hy.1]; simp [DataW.weights, Tryd.underlying46, Tryd.bytesU, lits])
    simp only [List.length_take, List.length_drop, reachBytes] at hb
    refine ⟨zs.take len, by simp only [List.length_take]; omega, some x, cap, by simp only [List.length_take]; congr 1; omega, ?_⟩
    by_cases h0 : len = 0
    · subst h0; exact .inl (by simp)
    · right
      obtain ⟨b, off, spot⟩ := x
      have c0 := hcell 0 (by omega)
      have hs : spot = none := by
        have := World.cell?_spot c0
        simpa [Addr.add] using this
      subst hs
      refine ⟨b, off, rfl, fun j y hj => ?_⟩
      rw [List.getElem?_take] at hj
      by_cases hjl : j < len
      · rw [if_pos hjl] at hj
        have h1 := hcell j (List.getElem?_eq_some_iff.1 hj).1
        rw [addr_add, List.getD_eq_getElem?_getD, hj] at h1
        refine ⟨?_, h1⟩
        have h2 := hwz y (List.mem_of_getElem? hj)
        have m1 : IntKind.u16.min = 0 := rfl
        have m2 : IntKind.u16.max = 65535 := rfl
        simp only [Lit.wf, Bool.and_eq_true, decide_eq_true_eq] at h2
        omega
      · rw [if_neg hjl] at hj; cases hj
end Go.Proofs.YtgdndcbcdoogpaaDoor
