/- rows: bytes that came in -/
import Derived.Test.YtmdladcfckoglaaMD
import Derived.Test.YtmdladcfckoglaaRows
import Derived.WalkKit
import Derived.ProofKit
import Derived.OpenShut
import Derived.ShutString
import Derived.ChangeOld
import Derived.Below
namespace Go.Proofs.Ytmdladcfckoglaa
open Go.ChangeShapes Go.WideShapes Go.ChangeAt Go.RowKit

theorem own : ownKnob Try.prog.godebug = none := by kernel_rfl
theorem laidOut : laidOutB Try.prog = true := by kernel_rfl
/-- A slice of integers that came in: none, or a row of cells. -/
def IsRow (k : IntKind) (w : World) (a : Option Addr) (len cap : Nat) (zs : List Int) : Prop :=
  (a = none ∧ len = 0 ∧ cap = 0 ∧ zs = []) ∨
  ∃ x, a = some x ∧ len ≤ cap ∧ cap ≤ maxLen ∧ zs.length = cap ∧ (∀ i, i < zs.length → w.cell? (x.add i) = some (.int k (zs.getD i 0))) ∧ ∀ n ∈ zs, (Lit.int k n).wf = true
theorem byte_wf {x : Int} (h : (Lit.int .u8 x).wf = true) : 0 ≤ x ∧ x < 256 := by
  have h1 : IntKind.u8.min = 0 := rfl
  have h2 : IntKind.u8.max = 255 := rfl
  simp only [Lit.wf, Bool.and_eq_true, decide_eq_true_eq] at h
  omega
def natsOf (zs : List Int) (len : Nat) : List Nat := (zs.take len).map Int.toNat
theorem bytes_of_row {w : World} {a : Option Addr} {len cap : Nat} {zs : List Int} (h : IsRow .u8 w a len cap zs) : Bytes w (.slice a len cap) (natsOf zs len) ∧ (natsOf zs len).length = len ∧ len ≤ maxLen := by
  rcases h with ⟨rfl, rfl, rfl, rfl⟩ | ⟨x, rfl, hl, hm, hz, hc, hw⟩
  · exact ⟨bytes_nil w, rfl, Nat.zero_le _⟩
  · have hn : (natsOf zs len).length = len := by simp [natsOf]; omega
    refine ⟨⟨all255 (fun y hy => ?_), some x, cap, by rw [hn], by omega, ?_⟩, hn, by omega⟩
    · simp only [natsOf, List.mem_map] at hy
      obtain ⟨z, hz, rfl⟩ := hy
      have := byte_wf (hw z (List.mem_of_mem_take hz)); omega
    · by_cases h0 : len = 0
      · exact .inl (List.eq_nil_of_length_eq_zero (by omega))
      · obtain ⟨b, off, rfl, hb⟩ := ints_at hc (by omega)
        refine .inr ⟨b, off, rfl, fun j hj => ?_⟩
        have hj' : j < zs.length := by omega
        rw [hb j hj']
        have hjl : j < len := by omega
        have hm : zs.getD j 0 ∈ zs := by simp only [List.getD_eq_getElem?_getD, List.getElem?_eq_getElem hj', Option.getD_some]; exact List.getElem_mem hj'
        have h1 := byte_wf (hw _ hm)
        have h2 : (natsOf zs len).getD j 0 = (zs.getD j 0).toNat := by
          simp [natsOf, List.getD_eq_getElem?_getD, hjl, hj']
        rw [h2, Int.toNat_of_nonneg h1.1]
/-- Bytes that came in, opened. -/
theorem row_of_trod {H : Type} {enc : TypeId × Value → H} {W : World} {sp : Nat → Bool} {a0 : Option Addr} {len0 cap0 : Nat} {d0 : DataW H} {p0 : List MemPlace} (hsp : ∀ k, sp k = true)
    (h0 : DataW.Trod enc Try.prog W 0 sp true 32 (.slice a0 len0 cap0) d0 p0) : ∃ zs, IsRow .u8 W a0 len0 cap0 zs := by
  obtain ⟨fuel, hf⟩ := h0
  rcases open_ints Try.underlying32 Try.underlying5 (by kernel_rfl) hf with ⟨hcs, _⟩ | ⟨x, l, c, zs, hcs, _, hl, hm, hz, _, hcell, hwz⟩
  · simp [Value.cells] at hcs
    obtain ⟨rfl, rfl, rfl⟩ := hcs
    exact ⟨[], .inl ⟨rfl, rfl, rfl, rfl⟩⟩
  · simp [Value.cells] at hcs
    obtain ⟨rfl, rfl, rfl⟩ := hcs
    exact ⟨zs, .inr ⟨_, rfl, hl, hm, by simpa [hsp] using hz, hcell, hwz⟩⟩
end Go.Proofs.Ytmdladcfckoglaa
