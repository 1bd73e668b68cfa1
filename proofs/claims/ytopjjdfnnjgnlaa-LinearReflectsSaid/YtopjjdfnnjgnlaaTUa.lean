/- linear: the reference's Is, Trim -/
import Derived.Test.YtopjjdfnnjgnlaaTTm
namespace Go.Proofs.Ytopjjdfnnjgnlaa
open Go.RowKit Go.Shelf

def inB (lo hi : Int) (xs : List Int) : Bool := xs.all fun v => decide (lo ≤ v ∧ v ≤ hi)
theorem inB_no {lo hi : Int} {xs : List Int} {k : Nat} {x : Int} (h : xs[k]? = some x) (hx : x < lo ∨ hi < x) : inB lo hi xs = false := by
  cases e : inB lo hi xs with
  | false => rfl
  | true =>
    have := of_decide_eq_true (List.all_eq_true.1 e x (List.mem_of_getElem? h))
    omega
theorem inB_all {lo hi : Int} {xs : List Int} (h : ∀ (j : Nat) (y : Int), xs[j]? = some y → lo ≤ y ∧ y ≤ hi) : inB lo hi xs = true := by
  unfold inB
  rw [List.all_eq_true]
  intro x hx
  obtain ⟨j, hj⟩ := List.getElem?_of_mem hx
  exact decide_eq_true (h j x hj)
set_option maxRecDepth 100000 in
set_option maxHeartbeats 2000000 in
theorem rwithin_any (m : Int) (sv : Value) (xs : List Int) (w : World) (hm : 0 ≤ m ∧ m ≤ 1152921504606846976) (h : Ints w sv xs) : Calls Try.prog 64 #[.int .i64 m, sv] w fun e w' => e = .returned (.bool (inB (-m) m xs)) ∧ w = w' := by
  obtain ⟨a, cap, rfl⟩ := h.form
  have H := Lib.hid h
  have hlb := h.1
  obtain ⟨L, hL⟩ : ∃ L, xs.length = L := ⟨_, rfl⟩
  have HL := Lib.hid hL
  rw [hL] at H hlb ⊢
  obtain ⟨d, hd⟩ : ∃ d, -m = d := ⟨_, rfl⟩
  have y1 : IntKind.i64.wrap (-m) = d := by rw [hd]; exact IntWalk.i64_in _ (by omega)
  have y2 : wrap64 (-m) = d := by rw [hd]; exact IntWalk.wrap64_in _ (by omega)
  rw [hd]
  clear h hL hd hm
  go_enter Try.func64, Try.ntmps64
  go_wp2_with fail
  go_loop [9] (fun i => ∃ k : Nat, k ≤ L ∧ i = .int .i64 k ∧ ∀ (j : Nat) (y : Int), j < k → xs[j]? = some y → d ≤ y ∧ y ≤ m) (fun i => L - (intOf i).toNat)
  case atStart => exact ⟨0, Nat.zero_le _, rfl, fun j y hj => by omega⟩
  case round =>
    obtain ⟨k, hk, rfl, hin⟩ := hrel
    have HIn := Lib.hid hin; clear hin
    by_cases hlt : k < L
    · obtain ⟨x, hx⟩ : ∃ x, xs[k]? = some x := ⟨_, List.getElem?_eq_getElem (by rw [HL.out]; exact hlt)⟩
      obtain ⟨bb, off, rfl, c0⟩ := H.out.cellAt hx
      by_cases hlo : x < d
      · have t1 : decide (x < d) = true := decide_eq_true hlo
        have HN := Lib.hid (inB_no (lo := d) (hi := m) hx (.inl hlo))
        clear hx hlo
        go_wp2_with fail
        go_ret
        exact ⟨by rw [HN.out]; rfl, rfl⟩
      · have t1 : decide (x < d) = false := decide_eq_false hlo
        by_cases hhi : m < x
        · have t2 : decide (m < x) = true := decide_eq_true hhi
          have HN := Lib.hid (inB_no (lo := d) (hi := m) hx (.inr hhi))
          clear hx hlo hhi
          go_wp2_with fail
          go_ret
          exact ⟨by rw [HN.out]; rfl, rfl⟩
        · have t2 : decide (m < x) = false := decide_eq_false hhi
          have HM := Lib.hid (show ∀ (j : Nat) (y : Int), j < k + 1 → xs[j]? = some y → d ≤ y ∧ y ≤ m from fun j y hj hy => by
            by_cases e : j = k
            · subst e; rw [hx] at hy; cases hy; omega
            · exact HIn.out j y (by omega) hy)
          clear hx hlo hhi
          go_wp2_with fail
          go_round
          case rel => exact ⟨k + 1, by omega, by go_num, HM.out⟩
          case measure => simp [intOf]; omega
    · obtain rfl : k = L := by omega
      have HN := Lib.hid (inB_all (lo := d) (hi := m) fun j y hy => HIn.out j y (by have := (List.getElem?_eq_some_iff.1 hy).1; rw [HL.out] at this; exact this) hy)
      clear hlt
      go_wp2_with fail
      go_ret
      exact ⟨by rw [HN.out]; rfl, rfl⟩
set_option maxRecDepth 100000 in
theorem rWithin_any (m : Int) (sv : Value) (xs : List Int) (w : World) (hm : 0 ≤ m ∧ m ≤ 1152921504606846976) (h : Ints w sv xs) : Calls Try.prog 30 #[.int .i64 m, sv] w fun e w' => e = .returned (.bool (inB (-m) m xs)) ∧ w = w' := by
  have HW := Lib.hid (rwithin_any m sv xs w hm h)
  obtain ⟨a, cap, rfl⟩ := h.form
  generalize inB (-m) m xs = z at *
  generalize xs.length = L at *
  clear h hm
  go_enter Try.func30, Try.ntmps30
  go_wp2_with fail
  refine HW.out.mono ?_
  rintro e w' ⟨rfl, rfl⟩
  go_wp2_with fail
  go_ret
  exact ⟨rfl, rfl⟩
theorem rWithinM_any (m : Int) (sv : Value) (xs : List Int) (w : World) (hm : 0 ≤ m ∧ m ≤ 1152921504606846976) (h : Ints w sv xs) : Calls Try.prog 30 #[.int .i64 m, sv] w fun e w' => e = .returned (.bool (inM m xs)) ∧ w = w' :=
  rWithin_any m sv xs w hm h
set_option maxRecDepth 100000 in
theorem rIs_any (sv : Value) (f : List Int) (w : World) (h : Ints w sv f) : Calls Try.prog 79 #[sv] w fun e w' => e = .returned (.bool (isF f)) ∧ w = w' := by
  have HW := Lib.hid (rWithinM_any 127 sv f w (by decide) h)
  have HF := Lib.hid (show isF f = (decide (f.length ≤ 12) && inM 127 f) from rfl)
  rw [HF.out]
  obtain ⟨a, cap, rfl⟩ := h.form
  generalize inM 127 f = z at *
  generalize f.length = L at *
  clear h HF
  by_cases hL : L ≤ 12
  · have t1 : decide ((L : Int) ≤ 12) = true := decide_eq_true (by omega)
    have t2 : decide (L ≤ 12) = true := decide_eq_true hL
    rw [t2]
    clear hL
    go_enter Try.func79, Try.ntmps79
    go_wp2_with fail
    refine HW.out.mono ?_
    rintro e w' ⟨rfl, rfl⟩
    go_wp2_with fail
    go_ret
    exact ⟨by simp, rfl⟩
  · have t1 : decide ((L : Int) ≤ 12) = false := decide_eq_false (by omega)
    have t2 : decide (L ≤ 12) = false := decide_eq_false hL
    rw [t2]
    clear hL
    go_enter Try.func79, Try.ntmps79
    go_wp2_with fail
    go_ret
    exact ⟨rfl, rfl⟩
end Go.Proofs.Ytopjjdfnnjgnlaa
