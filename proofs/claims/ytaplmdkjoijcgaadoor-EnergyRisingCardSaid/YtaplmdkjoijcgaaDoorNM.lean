/- bands: the rates of the reference -/
import Derived.Test.YtaplmdkjoijcgaaDoorNK
namespace Go.Proofs.YtaplmdkjoijcgaaDoor
open Go.RowKit Go.Shelf

set_option maxRecDepth 100000 in
set_option maxHeartbeats 1000000 in
theorem rRate_any (r : Int) (w : World) : Calls Tryd.prog 64 #[.int .i64 r] w fun e w' => e = .returned (.bool (rateB r)) ∧ Upd NoB w w' := by
  have u1 : Upd NoB w (w.alloc (.cells #[.int .i64 8000, .int .i64 11025, .int .i64 12000, .int .i64 16000, .int .i64 22050, .int .i64 24000, .int .i64 32000, .int .i64 44100, .int .i64 48000] 3)) := (Upd.refl _ _).alloc _
  have hb : Ints (w.alloc (.cells #[.int .i64 8000, .int .i64 11025, .int .i64 12000, .int .i64 16000, .int .i64 22050, .int .i64 24000, .int .i64 32000, .int .i64 44100, .int .i64 48000] 3)) (.slice (some ⟨w.heap.size, 0, none⟩) 9 9) rates := Ints.ofBlock (xs := rates) (by decide) (heap_alloc_new w (.cells (i64s rates).toArray 3))
  have U1 := Lib.hid u1; have HB := Lib.hid hb; clear u1 hb
  go_enter Tryd.func64, Tryd.ntmps64
  go_wp2_with fail
  generalize w.alloc (.cells #[.int .i64 8000, .int .i64 11025, .int .i64 12000, .int .i64 16000, .int .i64 22050, .int .i64 24000, .int .i64 32000, .int .i64 44100, .int .i64 48000] 3) = W1 at *
  go_loop [7] (fun i => ∃ k : Nat, k ≤ 9 ∧ i = .int .i64 k ∧ ∀ j, j < k → rates[j]? ≠ some r) (fun i => 9 - (intOf i).toNat)
  case atStart => exact ⟨0, Nat.zero_le _, rfl, fun j hj => absurd hj (Nat.not_lt_zero _)⟩
  case round =>
    obtain ⟨k, hk, rfl, hno⟩ := hrel
    have HNo := Lib.hid hno; clear hno
    by_cases hlt : k < 9
    · obtain ⟨x, hx⟩ : ∃ x, rates[k]? = some x := ⟨_, List.getElem?_eq_getElem (show k < rates.length from hlt)⟩
      obtain ⟨b, off, e, c0⟩ := HB.out.cellAt hx
      cases e
      rw [Nat.zero_add] at c0
      by_cases hxy : r = x
      · subst hxy
        have HM := Lib.hid (show rateB r = true from decide_eq_true (List.mem_of_getElem? hx))
        clear hx
        go_wp2
        go_ret
        exact ⟨by rw [HM.out]; rfl, U1.out⟩
      · have t1 : (r == x) = false := beq_eq_false_iff_ne.2 hxy
        have HN := Lib.hid (show ∀ j, j < k + 1 → rates[j]? ≠ some r from fun j hj e => by
          by_cases ej : j = k
          · subst ej; rw [hx] at e; cases e; exact hxy rfl
          · exact HNo.out j (by omega) e)
        clear hx hxy
        go_wp2
        go_round
        case rel => exact ⟨k + 1, by omega, by go_num, HN.out⟩
        case measure => simp [intOf]; omega
    · obtain rfl : k = 9 := by omega
      have HM := Lib.hid (show rateB r = false from mem_no (xs := rates) (y := r) HNo.out)
      go_wp2
      go_ret
      exact ⟨by rw [HM.out]; rfl, U1.out⟩
end Go.Proofs.YtaplmdkjoijcgaaDoor
