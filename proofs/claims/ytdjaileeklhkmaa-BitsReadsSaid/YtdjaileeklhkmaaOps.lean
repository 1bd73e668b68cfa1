/- calls that came in -/
import Derived.Test.YtdjaileeklhkmaaFew
import Derived.Lib.SmallJoins
import Derived.Deep.Slices
import Derived.SizedLaws
namespace Go.Proofs.Ytdjaileeklhkmaa
open Go.ChangeShapes Go.WideShapes Go.ChangeAt Go.RowKit

theorem Try.cells34 : Try.prog.cellsOf 34 = 4 := by kernel_rfl
theorem Try.bytes5 : Try.prog.bytesOf 5 = 1 := by kernel_rfl
theorem weightsAll_mem {H : Type} {P : Program} {e : TypeId} : ∀ {l : List (DataW H)} {d : DataW H}, d ∈ l → ∀ n ∈ d.weights P e, n ∈ DataW.weightsAll P e l
  | d' :: r, d, hd, n, hn => by
    simp only [DataW.weightsAll, List.mem_append]
    rcases List.mem_cons.1 hd with rfl | h
    · exact Or.inl hn
    · exact Or.inr (weightsAll_mem h n hn)
theorem u8_nat {n : Int} (h : (Lit.int .u8 n).wf = true) : ∃ k : Nat, n = k ∧ k ≤ 255 := by
  have := byte_wf h; exact ⟨n.toNat, by omega, by omega⟩
/-- Bytes that came in, within the reach. -/
theorem bytes_of_trod {H : Type} {enc : TypeId × Value → H} {W : World} {sp : Nat → Bool} {fuel : Nat} {cs : List Value} {y : DataW H × List MemPlace} (hsp : ∀ k, sp k = true)
    (hf : DataW.trod enc Try.prog W 0 sp true fuel 27 cs = some y) (hw : ∀ m ∈ DataW.weights Try.prog 27 y.1, m ≤ reachBytes) :
    ∃ a len cap zs, cs = [.slice a len cap] ∧ zs.length = len ∧ Bytes W (.slice a len cap) zs ∧ len ≤ 140737488355328 := by
  rcases open_ints Try.underlying27 Try.underlying5 (by kernel_rfl) hf with ⟨hcs, _⟩ | ⟨x, l, c, zs, hcs, _, hl, hm, hz, hy, hcell, hwz⟩
  · exact ⟨none, 0, 0, [], hcs, rfl, bytes_nil W, by omega⟩
  · have hr : IsRow .u8 W (some x) l c zs := .inr ⟨x, rfl, hl, hm, by simpa [hsp] using hz, hcell, hwz⟩
    obtain ⟨h1, h2, _⟩ := bytes_of_row hr
    refine ⟨some x, l, c, _, hcs, h2, h1, ?_⟩
    have hz' : zs.length = c := by simpa [hsp] using hz
    have := hw ((zs.take l).length + (zs.drop l).length) (by rw [hy]; simp [DataW.weights, Try.underlying27, Try.bytes5, lits])
    simp only [List.length_take, List.length_drop, reachBytes] at this
    omega
theorem op_of_trod {H : Type} {enc : TypeId × Value → H} {W : World} {sp : Nat → Bool} {fuel : Nat} {cs : List Value} {y : DataW H × List MemPlace} (hsp : ∀ k, sp k = true)
    (hf : DataW.trod enc Try.prog W 0 sp true fuel 34 cs = some y) (hw : ∀ m ∈ DataW.weights Try.prog 34 y.1, m ≤ reachBytes) :
    ∃ x : OpD, cs = [.int .u8 x.k, .int .i64 x.v, .int .i64 x.n, x.sv] ∧ x.at W := by
  obtain ⟨y0, y1, y2, y3, n, rfl, hl, h0, h1, h2, h3⟩ := Go.Joins.trod_struct4 Try.underlying34 hf
  rw [Try.cells34] at hl
  match cs, hl with
  | [c0, c1, c2, c3], _ =>
    have k3 : Try.prog.cellsOf 27 = 1 := by kernel_rfl
    have k0 : Try.prog.cellsOf 5 = 1 := by kernel_rfl
    have k1 : Try.prog.cellsOf 3 = 1 := by kernel_rfl
    obtain ⟨a0, e0, _, w0⟩ := DataW.trod_int Try.underlying5 h0
    obtain ⟨a1, e1, _, _⟩ := DataW.trod_int Try.underlying3 h1
    obtain ⟨a2, e2, _, _⟩ := DataW.trod_int Try.underlying3 h2
    simp [k0] at e0
    simp [k1] at e1
    simp [k1] at e2
    subst e0 e1 e2
    obtain ⟨a, len, cap, zs, e3, hz, hb, hle⟩ := bytes_of_trod hsp h3 (fun m hm => hw m (by
      simp only [DataW.weights, Try.underlying34]
      simp [DataW.weightsEach]
      exact .inr (.inr (.inr hm))))
    simp [k3] at e3
    subst e3
    obtain ⟨k, rfl, hk⟩ := u8_nat w0
    exact ⟨⟨k, a1, a2, .slice a len cap, zs⟩, rfl, hk, hb, by rw [hz]; exact hle⟩
theorem ops_of_trod {H : Type} {enc : TypeId × Value → H} {W : World} {sp : Nat → Bool} {a0 : Option Addr} {len cap : Nat} {d0 : DataW H} {p0 : List MemPlace} (hsp : ∀ k, sp k = true)
    (h0 : DataW.Trod enc Try.prog W 0 sp true 22 (.slice a0 len cap) d0 p0) (hw : ∀ m ∈ DataW.weights Try.prog 22 d0, m ≤ reachBytes) : ∃ xs, xs.length = len ∧ Ops W (.slice a0 len cap) xs := by
  obtain ⟨fuel, hf⟩ := h0
  rcases Go.Deep.open_slice Try.underlying22 hf with ⟨hcs, _⟩ | ⟨a, l, c, m, n, D, Pl, hcs, _, hl, hm, hmm, hy, hel⟩
  · simp [Value.cells] at hcs
    obtain ⟨rfl, rfl, rfl⟩ := hcs
    exact ⟨[], rfl, none, 0, rfl, Nat.le_refl _, Nat.zero_le _, .inl rfl⟩
  · simp [Value.cells] at hcs
    obtain ⟨rfl, rfl, rfl⟩ := hcs
    have hmc : m = cap := by simpa [hsp] using hmm
    simp only [Prod.mk.injEq] at hy
    have hall : ∀ i, i < len → ∃ x : OpD, (∀ j, j < 4 → W.cell? ((a.add (i * 4)).add j) = [.int .u8 x.k, .int .i64 x.v, .int .i64 x.n, x.sv][j]?) ∧ x.at W := by
      intro i hi
      obtain ⟨cs', hc, ht⟩ := hel i (by omega)
      rw [Try.cells34] at hc
      obtain ⟨x, rfl, hx⟩ := op_of_trod hsp ht (fun q hq => hw q (by
        rw [hy.1]
        simp only [DataW.weights, Try.underlying22]
        refine List.mem_cons_of_mem _ (List.mem_append_left _ (weightsAll_mem (d := D i) ?_ q hq))
        exact List.mem_map.2 ⟨i, List.mem_range.2 hi, rfl⟩))
      exact ⟨x, (World.cells?_some hc).2.2, hx⟩
    refine ⟨(List.range len).attach.map fun i => Classical.choose (hall i.1 (List.mem_range.1 i.2)), by simp, some a, cap, by simp, by simpa using hl, hm, ?_⟩
    by_cases hz : len = 0
    · subst hz; exact .inl rfl
    · right
      obtain ⟨x0, hx0, _⟩ := hall 0 (by omega)
      obtain ⟨b, off, spot⟩ := a
      have hs : spot = none := by
        have := World.cell?_spot (hx0 0 (by omega))
        simpa [Addr.add] using this
      subst hs
      refine ⟨b, off, rfl, fun j x hx => ?_⟩
      have hj : j < len := by
        have := (List.getElem?_eq_some_iff.1 hx).1
        simpa using this
      have hxe : x = Classical.choose (hall j hj) := by
        simp [hj] at hx
        exact hx.symm
      have hsp2 := Classical.choose_spec (hall j hj)
      rw [← hxe] at hsp2
      obtain ⟨hc, hat⟩ := hsp2
      have c0 := hc 0 (by omega)
      have c1 := hc 1 (by omega)
      have c2 := hc 2 (by omega)
      have c3 := hc 3 (by omega)
      rw [addr_add, addr_add] at c0 c1 c2 c3
      exact ⟨c0, c1, c2, c3, hat⟩
end Go.Proofs.Ytdjaileeklhkmaa
