/- stereo: areWithin, areWidths -/
import Derived.Test.YtopjjdfnnjgnlaaUB
namespace Go.Proofs.Ytopjjdfnnjgnlaa
open Go.RowKit Go.Shelf

set_option maxRecDepth 100000 in
theorem sW1_any (v m : Int) (b : Nat) (w : World) (hm : 0 ≤ m ∧ m ≤ 1152921504606846976) (h0 : w.cell? ⟨b, 0, none⟩ = some (.int .i64 m)) :
    Calls Try.prog 109 #[.int .i64 v, .pointer (some ⟨b, 0, none⟩)] w fun e w' => e = .returned (.bool (decide (v < -m ∨ m < v))) ∧ w = w' := by
  have y1 : IntKind.i64.wrap (-m) = -m := IntWalk.i64_in _ (by omega)
  have y2 : wrap64 (-m) = -m := IntWalk.wrap64_in _ (by omega)
  clear hm
  by_cases h1 : v < -m
  · have t1 : decide (v < -m) = true := decide_eq_true h1
    have HR := Lib.hid (show decide (v < -m ∨ m < v) = true from decide_eq_true (.inl h1))
    rw [HR.out]
    clear h1
    go_enter Try.func109, Try.ntmps109
    go_wp2_with fail
    go_ret
    exact ⟨rfl, rfl⟩
  · have t1 : decide (v < -m) = false := decide_eq_false h1
    have HR := Lib.hid (show decide (v < -m ∨ m < v) = decide (m < v) from decide_eq_decide.2 ⟨fun h => h.resolve_left h1, .inr⟩)
    rw [HR.out]
    clear h1
    go_enter Try.func109, Try.ntmps109
    go_wp2_with fail
    go_ret
    exact ⟨rfl, rfl⟩
set_option maxRecDepth 100000 in
set_option maxHeartbeats 2000000 in
theorem sIdx_any (sv : Value) (xs : List Int) (m : Int) (b : Nat) (w : World) (h : Ints w sv xs) (hm : 0 ≤ m ∧ m ≤ 1152921504606846976) (h0 : w.cell? ⟨b, 0, none⟩ = some (.int .i64 m)) :
    Calls Try.prog 114 #[sv, .func (.func 109) #[] #[.pointer (some ⟨b, 0, none⟩)]] w fun e w' => (∃ r : Int, e = .returned (.int .i64 r) ∧ decide (0 ≤ r) = !inM m xs) ∧ w = w' := by
  obtain ⟨a, cap, rfl⟩ := h.form
  have hlb := h.1
  have H := Lib.hid h
  obtain ⟨L, hL⟩ : ∃ L, xs.length = L := ⟨_, rfl⟩
  have HL := Lib.hid hL
  rw [hL] at H hlb ⊢
  have HW := Lib.hid (fun v => sW1_any v m b w hm h0)
  clear h hL h0
  go_enter Try.func114, Try.ntmps114
  go_wp2_with fail
  go_loop [8] (fun i => ∃ k : Nat, k ≤ L ∧ i = .int .i64 k ∧ ∀ (j : Nat) (y : Int), j < k → xs[j]? = some y → -m ≤ y ∧ y ≤ m) (fun i => L - (intOf i).toNat)
  case atStart => exact ⟨0, Nat.zero_le _, rfl, fun j y hj => by omega⟩
  case round =>
    obtain ⟨k, hk, rfl, hin⟩ := hrel
    have HIn := Lib.hid hin; clear hin
    by_cases hlt : k < L
    · obtain ⟨x, hx⟩ : ∃ x, xs[k]? = some x := ⟨_, List.getElem?_eq_getElem (by rw [HL.out]; exact hlt)⟩
      obtain ⟨bb, off, rfl, c0⟩ := H.out.cellAt hx
      by_cases hbad : x < -m ∨ m < x
      · have HD := Lib.hid (show decide (x < -m ∨ m < x) = true from decide_eq_true hbad)
        have HN := Lib.hid (inM_no hx hbad)
        clear hx hbad
        go_wp2_with fail
        refine (HW.out x).mono ?_
        rw [HD.out]
        rintro e w' ⟨rfl, rfl⟩
        go_wp2_with fail
        go_ret
        exact ⟨⟨_, rfl, by rw [HN.out]; exact decide_eq_true (by omega)⟩, rfl⟩
      · have HD := Lib.hid (show decide (x < -m ∨ m < x) = false from decide_eq_false hbad)
        have HM := Lib.hid (show ∀ (j : Nat) (y : Int), j < k + 1 → xs[j]? = some y → -m ≤ y ∧ y ≤ m from fun j y hj hy => by
          by_cases e : j = k
          · subst e; rw [hx] at hy; cases hy; omega
          · exact HIn.out j y (by omega) hy)
        clear hx hbad
        go_wp2_with fail
        refine (HW.out x).mono ?_
        rw [HD.out]
        rintro e w' ⟨rfl, rfl⟩
        go_wp2_with fail
        go_round
        case rel => exact ⟨k + 1, by omega, by go_num, HM.out⟩
        case measure => simp [intOf]; omega
    · obtain rfl : k = L := by omega
      have HN := Lib.hid (inM_get fun j y hy => HIn.out j y (by have := (List.getElem?_eq_some_iff.1 hy).1; rw [HL.out] at this; exact this) hy)
      clear hlt
      go_wp2_with fail
      go_ret
      exact ⟨⟨_, rfl, by rw [HN.out]; rfl⟩, rfl⟩
set_option maxRecDepth 100000 in
theorem sContains_any (sv : Value) (xs : List Int) (m : Int) (b : Nat) (w : World) (h : Ints w sv xs) (hm : 0 ≤ m ∧ m ≤ 1152921504606846976) (h0 : w.cell? ⟨b, 0, none⟩ = some (.int .i64 m)) :
    Calls Try.prog 99 #[sv, .func (.func 109) #[] #[.pointer (some ⟨b, 0, none⟩)]] w fun e w' => e = .returned (.bool (!inM m xs)) ∧ w = w' := by
  have HI := Lib.hid (sIdx_any sv xs m b w h hm h0)
  obtain ⟨a, cap, rfl⟩ := h.form
  obtain ⟨z, hz⟩ : ∃ z, (!inM m xs) = z := ⟨_, rfl⟩
  rw [hz] at HI ⊢
  generalize xs.length = L at *
  clear h h0 hz
  go_enter Try.func99, Try.ntmps99
  go_wp2_with fail
  refine HI.out.mono ?_
  rintro e w' ⟨⟨i, rfl, hi⟩, rfl⟩
  have HIz := Lib.hid hi
  clear hi
  go_wp2_with fail
  go_ret
  exact ⟨by rw [← HIz.out]; rfl, rfl⟩
set_option maxRecDepth 100000 in
theorem sWithin_any (sv : Value) (xs : List Int) (m : Int) (w : World) (hm : 0 ≤ m ∧ m ≤ 1152921504606846976) (h : Ints w sv xs) :
    Calls Try.prog 86 #[sv, .int .i64 m] w fun e w' => e = .returned (.bool (inM m xs)) ∧ Upd NoB w w' := by
  obtain ⟨W, hW⟩ : ∃ W, W = w.alloc (.cells #[.int .i64 m] 3) := ⟨_, rfl⟩
  have u0 : Upd NoB w W := by rw [hW]; exact (Upd.refl _ _).alloc _
  have b0 : W.heap[w.heap.size]? = some (.cells #[.int .i64 m] 3 (0, 0)) := by rw [hW]; exact heap_alloc_new w _
  have HC := Lib.hid (sContains_any sv xs m w.heap.size W (h.later u0) hm (blk_cell b0 0))
  have U0 := Lib.hid u0; have HW := Lib.hid hW
  obtain ⟨a, cap, rfl⟩ := h.form
  obtain ⟨z, hz⟩ : ∃ z, inM m xs = z := ⟨_, rfl⟩
  rw [hz] at HC ⊢
  generalize xs.length = L at *
  clear h hW u0 b0 hz hm
  go_enter Try.func86, Try.ntmps86
  go_wp2_with fail
  rw [← HW.out]
  refine HC.out.mono ?_
  rintro e w' ⟨rfl, rfl⟩
  go_wp2_with fail
  go_ret
  exact ⟨by cases z <;> rfl, U0.out⟩
theorem wdR_cons (l x : Int) (t : List Int) : wdR l (x :: t) = if x < 1 ∨ l < x then false else wdR (l - x) t := rfl
theorem wdR_drop {ws : List Int} {k : Nat} {x : Int} (h : ws[k]? = some x) (l : Int) : wdR l (ws.drop k) = if x < 1 ∨ l < x then false else wdR (l - x) (ws.drop (k + 1)) := by
  have e : ws.drop k = x :: ws.drop (k + 1) := by
    obtain ⟨hk, rfl⟩ := List.getElem?_eq_some_iff.1 h
    exact List.drop_eq_getElem_cons hk
  rw [e, wdR_cons]
set_option maxRecDepth 100000 in
set_option maxHeartbeats 2000000 in
theorem areWidths_any (sv : Value) (ws : List Int) (w : World) (h : Ints w sv ws) : Calls Try.prog 85 #[sv] w fun e w' => e = .returned (.bool (isW ws)) ∧ w = w' := by
  obtain ⟨a, cap, rfl⟩ := h.form
  have H := Lib.hid h
  have hlb := h.1
  have HW := Lib.hid (show isW ws = (decide (ws.length ≤ 32) && wdR 128 ws) from rfl)
  have H0 := Lib.hid (show wdR 128 ws = wdR 128 (ws.drop 0) by rw [List.drop_zero])
  have HD := Lib.hid (fun k x (hx : ws[k]? = some x) l => wdR_drop hx l)
  have HE := Lib.hid (show ∀ l, wdR l (ws.drop ws.length) = decide (l = 0) from fun l => by rw [List.drop_length]; rfl)
  obtain ⟨L, hL⟩ : ∃ L, ws.length = L := ⟨_, rfl⟩
  have HL := Lib.hid hL
  rw [hL] at H hlb HW HE ⊢
  clear h hL
  by_cases h1 : 32 < L
  · have t1 : decide ((32 : Int) < (L : Int)) = true := decide_eq_true (by omega)
    have t1n : decide (32 < L) = true := decide_eq_true h1
    have HR := Lib.hid (show isW ws = false by rw [HW.out, decide_eq_false (by omega)]; rfl)
    rw [HR.out]
    clear h1
    go_enter Try.func85, Try.ntmps85
    go_wp2_with fail
    go_ret
    exact ⟨rfl, rfl⟩
  · have t1 : decide ((32 : Int) < (L : Int)) = false := decide_eq_false (by omega)
    have t1n : decide (32 < L) = false := decide_eq_false h1
    have HR := Lib.hid (show isW ws = wdR 128 (ws.drop 0) by rw [HW.out, decide_eq_true (by omega), Bool.true_and, H0.out])
    have hL32 : L ≤ 32 := by omega
    rw [HR.out]
    obtain ⟨Z, hZ⟩ : ∃ Z, wdR 128 (ws.drop 0) = Z := ⟨_, rfl⟩
    have HZ := Lib.hid hZ
    rw [hZ]
    clear h1 hZ
    go_enter Try.func85, Try.ntmps85
    go_wp2_with fail
    go_loop [3, 11] (fun l i => ∃ (k : Nat) (y : Int), k ≤ L ∧ i = .int .i64 k ∧ l = .int .i64 y ∧ (0 ≤ y ∧ y ≤ 128) ∧ wdR y (ws.drop k) = Z) (fun _ i => L - (intOf i).toNat)
    case atStart => exact ⟨0, 128, Nat.zero_le _, rfl, rfl, by omega, HZ.out⟩
    case round =>
      obtain ⟨k, y, hk, rfl, rfl, hy, hz⟩ := hrel
      by_cases hlt : k < L
      · obtain ⟨x, hx⟩ : ∃ x, ws[k]? = some x := ⟨_, List.getElem?_eq_getElem (by rw [HL.out]; exact hlt)⟩
        obtain ⟨bb, off, rfl, c0⟩ := H.out.cellAt hx
        have hd := HD.out k x hx y
        rw [hz] at hd
        by_cases c1 : x < 1
        · have s1 : decide (x < 1) = true := decide_eq_true c1
          rw [if_pos (.inl c1)] at hd
          have HDz := Lib.hid hd
          clear hx hd c1 hz hy
          go_wp2_with fail
          go_ret
          exact ⟨by rw [HDz.out]; rfl, rfl⟩
        · have s1 : decide (x < 1) = false := decide_eq_false c1
          by_cases c2 : y < x
          · have s2 : decide (y < x) = true := decide_eq_true c2
            rw [if_pos (.inr c2)] at hd
            have HDz := Lib.hid hd
            clear hx hd c1 c2 hz hy
            go_wp2_with fail
            go_ret
            exact ⟨by rw [HDz.out]; rfl, rfl⟩
          · have s2 : decide (y < x) = false := decide_eq_false c2
            rw [if_neg (by omega)] at hd
            have z1 : wrap64 (y - x) = y - x := IntWalk.wrap64_in _ (by omega)
            have z2 : IntKind.i64.wrap (y - x) = y - x := IntWalk.i64_in _ (by omega)
            have HDz := Lib.hid hd; have HY := Lib.hid (show 0 ≤ y - x ∧ y - x ≤ 128 by omega)
            clear hx hd c1 c2 hz hy
            go_wp2_with fail
            go_round
            case rel => exact ⟨k + 1, y - x, by omega, by go_num, rfl, HY.out, HDz.out.symm⟩
            case measure => simp [intOf]; omega
      · obtain rfl : k = L := by omega
        rw [HE.out] at hz
        have Hz := Lib.hid hz
        have hs : (y == 0) = decide (y = 0) := by by_cases h : y = 0 <;> simp [h]
        have HS := Lib.hid hs
        clear hlt hz hy hs
        go_wp2_with fail
        go_ret
        exact ⟨by rw [← Hz.out, ← HS.out]; rfl, rfl⟩
end Go.Proofs.Ytopjjdfnnjgnlaa
