/- energy: within; the reference's Within -/
import Derived.Test.YtgdndcbcdoogpaaDoorGf
namespace Go.Proofs.YtgdndcbcdoogpaaDoor
open Go.RowKit Go.Shelf

def inB (lo hi : Int) (xs : List Int) : Bool := xs.all fun v => decide (lo ≤ v ∧ v ≤ hi)
theorem inB_no {lo hi : Int} {xs : List Int} {k : Nat} {x : Int} (h : xs[k]? = some x) (hx : x < lo ∨ hi < x) : inB lo hi xs = false := by
  cases e : inB lo hi xs with
  | false => rfl
  | true =>
    have := of_decide_eq_true (List.all_eq_true.1 e x (List.mem_of_getElem? h))
    omega
theorem inB_all {lo hi : Int} {xs : List Int} (h : ∀ (j : Nat) (y : Int), xs[j]? = some y → lo ≤ y ∧ y ≤ hi) : inB lo hi xs = true := by
  unfold inB
  rw [List.all_eq_true]
  intro x hx
  obtain ⟨j, hj⟩ := List.getElem?_of_mem hx
  exact decide_eq_true (h j x hj)
theorem inB_yes {lo hi : Int} {xs : List Int} (h : inB lo hi xs = true) {j : Nat} {x : Int} (hj : xs[j]? = some x) : lo ≤ x ∧ x ≤ hi := of_decide_eq_true (List.all_eq_true.1 h x (List.mem_of_getElem? hj))
set_option maxRecDepth 100000 in
theorem within1_any (v lo hi : Int) (b : Nat) (w : World) (h0 : w.cell? ⟨b, 0, none⟩ = some (.int .i64 lo)) (h1 : w.cell? ⟨b + 1, 0, none⟩ = some (.int .i64 hi)) :
    Calls Tryd.prog 96 #[.int .i64 v, .pointer (some ⟨b, 0, none⟩), .pointer (some ⟨b + 1, 0, none⟩)] w fun e w' => e = .returned (.bool (decide (v < lo ∨ hi < v))) ∧ w = w' := by
  by_cases c0 : v < lo
  · have t0 : decide (v < lo) = true := decide_eq_true c0
    have hr := Lib.hid (show decide (v < lo ∨ hi < v) = true from decide_eq_true (.inl c0))
    rw [hr.out]
    clear c0
    go_enter Tryd.func96, Tryd.ntmps96
    go_wp2
    go_ret
    exact ⟨rfl, rfl⟩
  · have t0 : decide (v < lo) = false := decide_eq_false c0
    have hr := Lib.hid (show decide (v < lo ∨ hi < v) = decide (hi < v) from decide_eq_decide.2 ⟨fun h => h.resolve_left c0, .inr⟩)
    rw [hr.out]
    clear c0
    go_enter Tryd.func96, Tryd.ntmps96
    go_wp2
    go_ret
    exact ⟨rfl, rfl⟩
set_option maxRecDepth 100000 in
set_option maxHeartbeats 2000000 in
theorem idxIn_any (sv : Value) (xs : List Int) (lo hi : Int) (b : Nat) (w : World) (h : Ints w sv xs) (h0 : w.cell? ⟨b, 0, none⟩ = some (.int .i64 lo)) (h1 : w.cell? ⟨b + 1, 0, none⟩ = some (.int .i64 hi)) :
    Calls Tryd.prog 104 #[sv, .func (.func 96) #[] #[.pointer (some ⟨b, 0, none⟩), .pointer (some ⟨b + 1, 0, none⟩)]] w fun e w' => (∃ r : Int, e = .returned (.int .i64 r) ∧ decide (0 ≤ r) = !inB lo hi xs) ∧ w = w' := by
  obtain ⟨a, cap, rfl⟩ := h.form
  have hlb := h.1
  have H := Lib.hid h
  obtain ⟨L, hL⟩ : ∃ L, xs.length = L := ⟨_, rfl⟩
  have HL := Lib.hid hL
  rw [hL] at H hlb ⊢
  have HW := Lib.hid (fun v => within1_any v lo hi b w h0 h1)
  clear h hL h0 h1
  go_enter Tryd.func104, Tryd.ntmps104
  go_wp2_with fail
  go_loop [8] (fun i => ∃ k : Nat, k ≤ L ∧ i = .int .i64 k ∧ ∀ (j : Nat) (y : Int), j < k → xs[j]? = some y → lo ≤ y ∧ y ≤ hi) (fun i => L - (intOf i).toNat)
  case atStart => exact ⟨0, Nat.zero_le _, rfl, fun j y hj => by omega⟩
  case round =>
    obtain ⟨k, hk, rfl, hin⟩ := hrel
    have HIn := Lib.hid hin; clear hin
    by_cases hlt : k < L
    · obtain ⟨x, hx⟩ : ∃ x, xs[k]? = some x := ⟨_, List.getElem?_eq_getElem (by rw [HL.out]; exact hlt)⟩
      obtain ⟨bb, off, rfl, c0⟩ := H.out.cellAt hx
      by_cases hbad : x < lo ∨ hi < x
      · have HD := Lib.hid (show decide (x < lo ∨ hi < x) = true from decide_eq_true hbad)
        have HN := Lib.hid (inB_no hx hbad)
        clear hx hbad
        go_wp2_with fail
        refine (HW.out x).mono ?_
        rw [HD.out]
        rintro e w' ⟨rfl, rfl⟩
        go_wp2_with fail
        go_ret
        exact ⟨⟨_, rfl, by rw [HN.out]; exact decide_eq_true (by omega)⟩, rfl⟩
      · have HD := Lib.hid (show decide (x < lo ∨ hi < x) = false from decide_eq_false hbad)
        have HM := Lib.hid (show ∀ (j : Nat) (y : Int), j < k + 1 → xs[j]? = some y → lo ≤ y ∧ y ≤ hi from fun j y hj hy => by
          by_cases e : j = k
          · subst e; rw [hx] at hy; cases hy; omega
          · exact HIn.out j y (by omega) hy)
        clear hx hbad
        go_wp2_with fail
        refine (HW.out x).mono ?_
        rw [HD.out]
        rintro e w' ⟨rfl, rfl⟩
        go_wp2_with fail
        go_round
        case rel => exact ⟨k + 1, by omega, by go_num, HM.out⟩
        case measure => simp [intOf]; omega
    · obtain rfl : k = L := by omega
      have HN := Lib.hid (inB_all fun j y hy => HIn.out j y (by have := (List.getElem?_eq_some_iff.1 hy).1; rw [HL.out] at this; exact this) hy)
      clear hlt
      go_wp2_with fail
      go_ret
      exact ⟨⟨_, rfl, by rw [HN.out]; rfl⟩, rfl⟩
set_option maxRecDepth 100000 in
theorem containsIn_any (sv : Value) (xs : List Int) (lo hi : Int) (b : Nat) (w : World) (h : Ints w sv xs) (h0 : w.cell? ⟨b, 0, none⟩ = some (.int .i64 lo)) (h1 : w.cell? ⟨b + 1, 0, none⟩ = some (.int .i64 hi)) :
    Calls Tryd.prog 95 #[sv, .func (.func 96) #[] #[.pointer (some ⟨b, 0, none⟩), .pointer (some ⟨b + 1, 0, none⟩)]] w fun e w' => e = .returned (.bool (!inB lo hi xs)) ∧ w = w' := by
  have HI := Lib.hid (idxIn_any sv xs lo hi b w h h0 h1)
  obtain ⟨a, cap, rfl⟩ := h.form
  obtain ⟨z, hz⟩ : ∃ z, (!inB lo hi xs) = z := ⟨_, rfl⟩
  rw [hz] at HI ⊢
  generalize xs.length = L at *
  clear h h0 h1 hz
  go_enter Tryd.func95, Tryd.ntmps95
  go_wp2_with fail
  refine HI.out.mono ?_
  rintro e w' ⟨⟨i, rfl, hi⟩, rfl⟩
  have HIz := Lib.hid hi
  clear hi
  go_wp2_with fail
  go_ret
  exact ⟨by rw [← HIz.out]; rfl, rfl⟩
set_option maxRecDepth 100000 in
theorem within_any (sv : Value) (xs : List Int) (lo hi : Int) (w : World) (h : Ints w sv xs) :
    Calls Tryd.prog 76 #[sv, .int .i64 lo, .int .i64 hi] w fun e w' => e = .returned (.bool (inB lo hi xs)) ∧ Upd NoB w w' := by
  obtain ⟨W, hW⟩ : ∃ W, W = (w.alloc (.cells #[.int .i64 lo] 3)).alloc (.cells #[.int .i64 hi] 3) := ⟨_, rfl⟩
  have u1 : Upd NoB w (w.alloc (.cells #[.int .i64 lo] 3)) := (Upd.refl _ _).alloc _
  have u0 : Upd NoB w W := by rw [hW]; exact u1.alloc _
  have s1 : (w.alloc (.cells #[.int .i64 lo] 3)).heap.size = w.heap.size + 1 := by simp
  have b1 : W.heap[w.heap.size + 1]? = some (.cells #[.int .i64 hi] 3 (0, 0)) := by rw [hW, ← s1]; exact heap_alloc_new _ _
  have b0 : W.heap[w.heap.size]? = some (.cells #[.int .i64 lo] 3 (0, 0)) := by rw [hW]; exact ((Upd.refl NoB _).alloc _).heap (heap_alloc_new w _) (noB _)
  have HC := Lib.hid (containsIn_any sv xs lo hi w.heap.size W (h.later u0) (blk_cell b0 0) (blk_cell b1 0))
  have U0 := Lib.hid u0; have HW := Lib.hid hW
  obtain ⟨a, cap, rfl⟩ := h.form
  obtain ⟨z, hz⟩ : ∃ z, inB lo hi xs = z := ⟨_, rfl⟩
  rw [hz] at HC ⊢
  generalize xs.length = L at *
  clear h hW u1 u0 s1 b1 b0 hz
  go_enter Tryd.func76, Tryd.ntmps76
  go_wp2_with fail
  rw [← HW.out]
  refine HC.out.mono ?_
  rintro e w' ⟨rfl, rfl⟩
  go_wp2_with fail
  go_ret
  exact ⟨by cases z <;> rfl, U0.out⟩
set_option maxRecDepth 100000 in
theorem areCoef_any (sv : Value) (xs : List Int) (w : World) (h : Ints w sv xs) : Calls Tryd.prog 80 #[sv] w fun e w' => e = .returned (.bool (inB (-2097152) 2097152 xs)) ∧ Upd NoB w w' := by
  have HC := Lib.hid (within_any sv xs (-2097152) 2097152 w h)
  obtain ⟨a, cap, rfl⟩ := h.form
  generalize xs.length = L at *
  clear h
  go_enter Tryd.func80, Tryd.ntmps80
  go_wp2_with fail
  refine HC.out.mono ?_
  rintro e w' ⟨rfl, u1⟩
  have U1 := Lib.hid u1
  clear u1
  go_wp2_with fail
  go_ret
  exact ⟨rfl, U1.out⟩
end Go.Proofs.YtgdndcbcdoogpaaDoor
