/- bands: the rates -/
import Derived.Test.YtaplmdkjoijcgaaDoorNJ
namespace Go.Proofs.YtaplmdkjoijcgaaDoor
open Go.RowKit Go.Shelf

def rates : List Int := [8000, 11025, 12000, 16000, 22050, 24000, 32000, 44100, 48000]
def rateB (r : Int) : Bool := decide (r ∈ rates)
theorem mem_no {xs : List Int} {y : Int} (h : ∀ j, j < xs.length → xs[j]? ≠ some y) : decide (y ∈ xs) = false := decide_eq_false fun hm => by
  obtain ⟨j, hj⟩ := List.getElem?_of_mem hm
  exact h j (List.getElem?_eq_some_iff.1 hj).1 hj
set_option maxRecDepth 100000 in
set_option maxHeartbeats 1000000 in
theorem index_any (v : Value) (xs : List Int) (y : Int) (w : World) (h : Ints w v xs) (hl : xs.length ≤ 1000) :
    Calls Tryd.prog 103 #[v, .int .i64 y] w fun e w' => (∃ i : Int, e = .returned (.int .i64 i) ∧ (0 ≤ i ↔ y ∈ xs)) ∧ w = w' := by
  obtain ⟨a, cap, rfl⟩ := h.form
  have H := Lib.hid h
  obtain ⟨L, hL⟩ : ∃ L, xs.length = L := ⟨_, rfl⟩
  have HL := Lib.hid hL
  rw [hL] at H hl ⊢
  clear h hL
  go_enter Tryd.func103, Tryd.ntmps103
  go_wp2
  go_loop [8] (fun i => ∃ k : Nat, k ≤ L ∧ i = .int .i64 k ∧ ∀ j, j < k → xs[j]? ≠ some y) (fun i => L - (intOf i).toNat)
  case atStart => exact ⟨0, Nat.zero_le _, rfl, fun j hj => by omega⟩
  case round =>
    obtain ⟨k, hk, rfl, hno⟩ := hrel
    have HNo := Lib.hid hno; clear hno
    by_cases hlt : k < L
    · obtain ⟨x, hx⟩ : ∃ x, xs[k]? = some x := ⟨_, List.getElem?_eq_getElem (by rw [HL.out]; exact hlt)⟩
      obtain ⟨b, off, rfl, c0⟩ := H.out.cellAt hx
      by_cases hxy : y = x
      · subst hxy
        have HM := Lib.hid (List.mem_of_getElem? hx)
        clear hx
        go_wp2
        go_ret
        exact ⟨⟨(k : Int), rfl, iff_of_true (by omega) HM.out⟩, rfl⟩
      · have t1 : (y == x) = false := beq_eq_false_iff_ne.2 hxy
        have HN := Lib.hid (show ∀ j, j < k + 1 → xs[j]? ≠ some y from fun j hj e => by
          by_cases ej : j = k
          · subst ej; rw [hx] at e; cases e; exact hxy rfl
          · exact HNo.out j (by omega) e)
        clear hx hxy
        go_wp2
        go_round
        case rel => exact ⟨k + 1, by omega, by go_num, HN.out⟩
        case measure => simp [intOf]; omega
    · obtain rfl : k = L := by omega
      have HM := Lib.hid (mem_no (xs := xs) (y := y) (by rw [HL.out]; exact HNo.out))
      go_wp2
      go_ret
      exact ⟨⟨-1, rfl, iff_of_false (by omega) (of_decide_eq_false HM.out)⟩, rfl⟩
set_option maxRecDepth 100000 in
set_option maxHeartbeats 1000000 in
theorem contains_any (v : Value) (xs : List Int) (y : Int) (w : World) (h : Ints w v xs) (hl : xs.length ≤ 1000) :
    Calls Tryd.prog 88 #[v, .int .i64 y] w fun e w' => e = .returned (.bool (decide (y ∈ xs))) ∧ w = w' := by
  have HI := Lib.hid (index_any v xs y w h hl)
  obtain ⟨a, cap, rfl⟩ := h.form
  obtain ⟨z, hz⟩ : ∃ z, decide (y ∈ xs) = z := ⟨_, rfl⟩
  have HZ := Lib.hid hz
  rw [hz]
  clear hz
  generalize xs.length = L at *
  clear h
  go_enter Tryd.func88, Tryd.ntmps88
  go_wp2_with fail
  refine HI.out.mono ?_
  rintro e w' ⟨⟨i, rfl, hi⟩, rfl⟩
  have HIz := Lib.hid (show decide (0 ≤ i) = z by rw [← HZ.out]; exact decide_eq_decide.2 hi)
  clear hi
  go_wp2_with fail
  go_ret
  exact ⟨by rw [← HIz.out]; rfl, rfl⟩
set_option maxRecDepth 100000 in
theorem isRate_any (r : Int) (w : World) : Calls Tryd.prog 63 #[.int .i64 r] w fun e w' => e = .returned (.bool (rateB r)) ∧ Upd NoB w w' := by
  have HC := Lib.hid (contains_any _ rates r _ (Ints.ofBlock (xs := rates) (by decide) (heap_alloc_new w (.cells (i64s rates).toArray 3))) (by decide))
  go_enter Tryd.func63, Tryd.ntmps63
  go_wp2_with fail
  refine HC.out.mono ?_
  rintro e w' ⟨rfl, rfl⟩
  go_wp2_with fail
  go_ret
  exact ⟨rfl, (Upd.refl _ _).alloc _⟩
end Go.Proofs.YtaplmdkjoijcgaaDoor
