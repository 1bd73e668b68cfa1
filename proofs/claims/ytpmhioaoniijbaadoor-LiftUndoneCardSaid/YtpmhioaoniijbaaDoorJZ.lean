/- lists of integers and of turns that came in -/
import Derived.Test.YtpmhioaoniijbaaDoorJS
namespace Go.Proofs.YtpmhioaoniijbaaDoor
open Go.ChangeShapes Go.WideShapes Go.ChangeAt Go.WideMaps Go.WideElems Go.RowKit

theorem Tryd.cells60 : Tryd.prog.cellsOf 60 = 4 := by kernel_rfl
theorem Tryd.bytesI : Tryd.prog.bytesOf 3 = 8 := by kernel_rfl
theorem Tryd.bytesT : Tryd.prog.bytesOf 60 = 32 := by kernel_rfl
theorem ints_of_trod {H : Type} {enc : TypeId × Value → H} {W : World} {sp : Nat → Bool} {a0 : Option Addr} {len cap : Nat} {d0 : DataW H} {p0 : List MemPlace} (hsp : ∀ k, sp k = true)
    (h0 : DataW.Trod enc Tryd.prog W 0 sp true 33 (.slice a0 len cap) d0 p0) (hw : ∀ m ∈ DataW.weights Tryd.prog 33 d0, m ≤ reachBytes) : ∃ xs, Ints W (.slice a0 len cap) xs := by
  obtain ⟨fuel, hf⟩ := h0
  rcases open_ints Tryd.underlying33 Tryd.underlying3 (by kernel_rfl) hf with ⟨hcs, _⟩ | ⟨x, l, c, zs, hcs, _, hl, hm, hz, hy, hcell, hwz⟩
  · simp [Value.cells] at hcs
    obtain ⟨rfl, rfl, rfl⟩ := hcs
    exact ⟨[], Ints.nil W⟩
  · simp [Value.cells] at hcs
    obtain ⟨rfl, rfl, rfl⟩ := hcs
    have hz' : zs.length = cap := by simpa [hsp] using hz
    simp only [Prod.mk.injEq] at hy
    have hb := hw (((zs.take len).length + (zs.drop len).length) * 8) (by rw [hy.1]; simp [DataW.weights, Tryd.underlying33, Tryd.bytesI, lits])
    simp only [List.length_take, List.length_drop, reachBytes] at hb
    refine ⟨zs.take len, by simp only [List.length_take]; omega, some x, cap, by simp only [List.length_take]; congr 1; omega, ⟨by simp only [List.length_take]; omega, fun e => by cases e⟩, ?_⟩
    by_cases h0 : len = 0
    · subst h0; exact .inl (by simp)
    · right
      obtain ⟨b, off, spot⟩ := x
      have c0 := hcell 0 (by omega)
      have hs : spot = none := by
        have := World.cell?_spot c0
        simpa [Addr.add] using this
      subst hs
      refine ⟨b, off, rfl, fun j y hj => ?_⟩
      rw [List.getElem?_take] at hj
      by_cases hjl : j < len
      · rw [if_pos hjl] at hj
        have := hcell j (List.getElem?_eq_some_iff.1 hj).1
        rw [addr_add, List.getD_eq_getElem?_getD, hj] at this
        exact this
      · rw [if_neg hjl] at hj; cases hj
theorem weightsAll_mem {H : Type} {P : Program} {e : TypeId} : ∀ {l : List (DataW H)} {d : DataW H}, d ∈ l → ∀ n ∈ d.weights P e, n ∈ DataW.weightsAll P e l
  | d' :: r, d, hd, n, hn => by
    simp only [DataW.weightsAll, List.mem_append]
    rcases List.mem_cons.1 hd with rfl | h
    · exact Or.inl hn
    · exact Or.inr (weightsAll_mem h n hn)
theorem tn_of_trod {H : Type} {enc : TypeId × Value → H} {W : World} {sp : Nat → Bool} {fuel : Nat} {cs : List Value} {y : DataW H × List MemPlace}
    (hf : DataW.trod enc Tryd.prog W 0 sp true fuel 60 cs = some y) : ∃ t : Tn, cs = [.int .i64 t.i, .int .i64 t.j, .int .i64 t.n, .int .i64 t.d] := by
  obtain ⟨y0, y1, y2, y3, n, rfl, hl, h0, h1, h2, h3⟩ := Go.Joins.trod_struct4 Tryd.underlying60 hf
  rw [Tryd.cells60] at hl
  match cs, hl with
  | [c0, c1, c2, c3], _ =>
    have k1 : Tryd.prog.cellsOf 3 = 1 := by kernel_rfl
    obtain ⟨a0, e0, _, _⟩ := DataW.trod_int Tryd.underlying3 h0
    obtain ⟨a1, e1, _, _⟩ := DataW.trod_int Tryd.underlying3 h1
    obtain ⟨a2, e2, _, _⟩ := DataW.trod_int Tryd.underlying3 h2
    obtain ⟨a3, e3, _, _⟩ := DataW.trod_int Tryd.underlying3 h3
    simp [k1] at e0
    simp [k1] at e1
    simp [k1] at e2
    simp [k1] at e3
    subst e0 e1 e2 e3
    exact ⟨⟨a0, a1, a2, a3⟩, rfl⟩
theorem tns_of_trod {H : Type} {enc : TypeId × Value → H} {W : World} {sp : Nat → Bool} {a0 : Option Addr} {len cap : Nat} {d0 : DataW H} {p0 : List MemPlace} (hsp : ∀ k, sp k = true)
    (h0 : DataW.Trod enc Tryd.prog W 0 sp true 34 (.slice a0 len cap) d0 p0) (hw : ∀ m ∈ DataW.weights Tryd.prog 34 d0, m ≤ reachBytes) : ∃ ts, Tns W (.slice a0 len cap) ts := by
  obtain ⟨fuel, hf⟩ := h0
  rcases Go.Deep.open_slice Tryd.underlying34 hf with ⟨hcs, _⟩ | ⟨a, l, c, m, n, D, Pl, hcs, _, hl, hm, hmm, hy, hel⟩
  · simp [Value.cells] at hcs
    obtain ⟨rfl, rfl, rfl⟩ := hcs
    exact ⟨[], by simp, none, 0, rfl, .inl rfl⟩
  · simp [Value.cells] at hcs
    obtain ⟨rfl, rfl, rfl⟩ := hcs
    have hmc : m = cap := by simpa [hsp] using hmm
    simp only [Prod.mk.injEq] at hy
    have hb := hw ((len + (m - len)) * 32) (by rw [hy.1]; simp [DataW.weights, Tryd.underlying34, Tryd.bytesT])
    simp only [reachBytes] at hb
    have hall : ∀ i, i < len → ∃ t : Tn, (∀ j, j < 4 → W.cell? ((a.add (i * 4)).add j) = [Value.int .i64 t.i, .int .i64 t.j, .int .i64 t.n, .int .i64 t.d][j]?) := by
      intro i hi
      obtain ⟨cs', hc, ht⟩ := hel i (by omega)
      rw [Tryd.cells60] at hc
      obtain ⟨t, rfl⟩ := tn_of_trod ht
      exact ⟨t, (World.cells?_some hc).2.2⟩
    refine ⟨(List.range len).attach.map fun i => Classical.choose (hall i.1 (List.mem_range.1 i.2)), by simp; omega, some a, cap, by simp, ?_⟩
    by_cases hz : len = 0
    · subst hz; exact .inl rfl
    · right
      obtain ⟨x0, hx0⟩ := hall 0 (by omega)
      obtain ⟨b, off, spot⟩ := a
      have hs : spot = none := by
        have := World.cell?_spot (hx0 0 (by omega))
        simpa [Addr.add] using this
      subst hs
      refine ⟨b, off, rfl, fun j x hx => ?_⟩
      have hj : j < len := by
        have := (List.getElem?_eq_some_iff.1 hx).1
        simpa using this
      have hxe : x = Classical.choose (hall j hj) := by
        simp [hj] at hx
        exact hx.symm
      have hc := Classical.choose_spec (hall j hj)
      rw [← hxe] at hc
      have c0 := hc 0 (by omega)
      have c1 := hc 1 (by omega)
      have c2 := hc 2 (by omega)
      have c3 := hc 3 (by omega)
      rw [addr_add, addr_add] at c0 c1 c2 c3
      exact ⟨c0, c1, c2, c3⟩
end Go.Proofs.YtpmhioaoniijbaaDoor
