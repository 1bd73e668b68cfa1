/- linear: from the tied arguments to lists -/
import Derived.Test.YtopjjdfnnjgnlaaTQ
import Derived.Test.YtopjjdfnnjgnlaaRows
import Derived.WalkKit
import Derived.ProofKit
import Derived.OpenShut
import Derived.ShutString
import Derived.ChangeOld
import Derived.Below
import Derived.Lib.SmallJoins
import Derived.Deep.Slices
import Derived.Deep.Grids
import Derived.SizedLaws
namespace Go.Proofs.Ytopjjdfnnjgnlaa
open Go.ChangeShapes Go.WideShapes Go.ChangeAt Go.RowKit

theorem own : ownKnob Try.prog.godebug = none := by kernel_rfl
theorem laidOut : laidOutB Try.prog = true := by kernel_rfl
theorem Try.bytesI : Try.prog.bytesOf 3 = 8 := by kernel_rfl
theorem ints_of_trod {H : Type} {enc : TypeId × Value → H} {W : World} {sp : Nat → Bool} {a0 : Option Addr} {len cap : Nat} {d0 : DataW H} {p0 : List MemPlace} (hsp : ∀ k, sp k = true)
    (h0 : DataW.Trod enc Try.prog W 0 sp true 22 (.slice a0 len cap) d0 p0) (hw : ∀ m ∈ DataW.weights Try.prog 22 d0, m ≤ reachBytes) : ∃ xs, Ints W (.slice a0 len cap) xs := by
  obtain ⟨fuel, hf⟩ := h0
  rcases open_ints Try.underlying22 Try.underlying3 (by kernel_rfl) hf with ⟨hcs, _⟩ | ⟨x, l, c, zs, hcs, _, hl, hm, hz, hy, hcell, hwz⟩
  · simp [Value.cells] at hcs
    obtain ⟨rfl, rfl, rfl⟩ := hcs
    exact ⟨[], Ints.nil W⟩
  · simp [Value.cells] at hcs
    obtain ⟨rfl, rfl, rfl⟩ := hcs
    have hz' : zs.length = cap := by simpa [hsp] using hz
    simp only [Prod.mk.injEq] at hy
    have hb := hw (((zs.take len).length + (zs.drop len).length) * 8) (by rw [hy.1]; simp [DataW.weights, Try.underlying22, Try.bytesI, lits])
    simp only [List.length_take, List.length_drop, reachBytes] at hb
    refine ⟨zs.take len, by simp only [List.length_take]; omega, some x, cap, by simp only [List.length_take]; congr 1; omega, ⟨by simp only [List.length_take]; omega, fun e => by cases e⟩, ?_⟩
    by_cases h0 : len = 0
    · subst h0; exact .inl (by simp)
    · right
      obtain ⟨b, off, spot⟩ := x
      have c0 := hcell 0 (by omega)
      have hs : spot = none := by
        have := World.cell?_spot c0
        simpa [Addr.add] using this
      subst hs
      refine ⟨b, off, rfl, fun j y hj => ?_⟩
      rw [List.getElem?_take] at hj
      by_cases hjl : j < len
      · rw [if_pos hjl] at hj
        have := hcell j (List.getElem?_eq_some_iff.1 hj).1
        rw [addr_add, List.getD_eq_getElem?_getD, hj] at this
        exact this
      · rw [if_neg hjl] at hj; cases hj
end Go.Proofs.Ytopjjdfnnjgnlaa
