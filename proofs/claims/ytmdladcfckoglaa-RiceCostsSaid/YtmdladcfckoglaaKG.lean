/- rice: the errors of a list -/
import Derived.Test.YtmdladcfckoglaaKF
namespace Go.Proofs.Ytmdladcfckoglaa
open Go.RowKit Go.Shelf

theorem allNum_more {l : List Int} {j : Nat} {v : Int} (h : ∀ x ∈ l.take j, isNum x = true) (hj : l[j]? = some v) (hv : isNum v = true) : ∀ x ∈ l.take (j + 1), isNum x = true := by
  rw [List.take_add_one, hj]
  intro x hx
  simp only [Option.toList_some, List.mem_append, List.mem_singleton] at hx
  rcases hx with hx | rfl
  · exact h x hx
  · exact hv
theorem listE_bad {l : List Int} {j : Nat} {v : Int} (hl : l.length ≤ 8192) (hj : l[j]? = some v) (hv : isNum v = false) : listE l = 6 := by
  unfold listE
  rw [if_neg (by omega), if_neg]
  intro h
  have := List.all_eq_true.1 h v (List.mem_of_getElem? hj)
  rw [hv] at this
  cases this
theorem Ints.cellAt {w : World} {a : Option Addr} {n cap : Nat} {xs : List Int} (h : Ints w (.slice a n cap) xs) {k : Nat} {x : Int} (hx : xs[k]? = some x) : ∃ b off, a = some ⟨b, off, none⟩ ∧ w.cell? ⟨b, off + k, none⟩ = some (.int .i64 x) := by
  obtain ⟨_, a', cap', e, _, h3⟩ := h
  injection e with e1 e2 e3
  subst e1
  rcases h3 with h3 | ⟨b, off, rfl, h3⟩
  · subst h3; simp at hx
  · exact ⟨b, off, rfl, h3 k x hx⟩
set_option maxRecDepth 100000 in
set_option maxHeartbeats 1000000 in
theorem kcheck_any (xv : Value) (xs : List Int) (w : World) (h : Ints w xv xs) : Calls Try.prog 54 #[xv] w fun e w' => e = .returned (.int .i64 (listE xs)) ∧ w = w' := by
  obtain ⟨xa, xc, rfl⟩ := h.form
  have hb := h.1
  have H := Lib.hid h; clear h
  by_cases hl : 8192 < xs.length
  · have HE := Lib.hid (show listE xs = 2 from if_pos hl)
    generalize xs.length = L at *
    have t : decide ((8192 : Int) < (L : Int)) = true := decide_eq_true (by omega)
    clear hl
    go_enter Try.func54, Try.ntmps54
    go_wp2
    go_ret
    rw [HE.out]
    exact ⟨rfl, rfl⟩
  · obtain ⟨L, hL⟩ : ∃ L, xs.length = L := ⟨_, rfl⟩
    have HL := Lib.hid hL
    rw [hL] at H hl hb ⊢
    have t : decide ((8192 : Int) < (L : Int)) = false := decide_eq_false (by omega)
    have hl' : L ≤ 8192 := by omega
    clear hL hl hb
    go_enter Try.func54, Try.ntmps54
    go_wp2_with fail
    go_loop [10] (fun i => ∃ k : Nat, k ≤ L ∧ i = .int .i64 k ∧ Hid (∀ x ∈ xs.take k, isNum x = true)) (fun i => L - (intOf i).toNat)
    case atStart => exact ⟨0, Nat.zero_le _, rfl, Lib.hid (by simp)⟩
    case round =>
      obtain ⟨k, hk, rfl, HN⟩ := hrel
      by_cases hlt : k < L
      · obtain ⟨x, hx⟩ : ∃ x, xs[k]? = some x := ⟨_, List.getElem?_eq_getElem (by rw [HL.out]; exact hlt)⟩
        obtain ⟨b, off, rfl, hc⟩ := H.out.cellAt hx
        cases hn : isNum x with
        | true =>
          have HM := Lib.hid (allNum_more HN.out hx hn)
          have Hn := Lib.hid hn
          clear hx hn
          go_wp2_with (go_at_call 48; refine (isNumber_any _ _).mono ?_; rw [Hn.out]; rintro e w' ⟨rfl, rfl⟩)
          go_round
          case rel => exact ⟨k + 1, by omega, by go_num, HM⟩
          case measure => simp [intOf]; omega
        | false =>
          have HE := Lib.hid (listE_bad (by rw [HL.out]; exact hl') hx hn)
          have Hn := Lib.hid hn
          clear hx hn
          go_wp2_with (go_at_call 48; refine (isNumber_any _ _).mono ?_; rw [Hn.out]; rintro e w' ⟨rfl, rfl⟩)
          go_ret
          rw [HE.out]
          exact ⟨rfl, rfl⟩
      · obtain rfl : k = L := by omega
        have HE := Lib.hid (listE_of (by rw [HL.out]; exact hl') (by have := HN.out; rw [List.take_of_length_le (by rw [HL.out]; exact Nat.le_refl _)] at this; exact this))
        go_wp2
        go_ret
        rw [HE.out]
        exact ⟨rfl, rfl⟩
set_option maxRecDepth 100000 in
set_option maxHeartbeats 1000000 in
theorem listed_any (xv : Value) (xs : List Int) (w : World) (h : Ints w xv xs) : Calls Try.prog 56 #[xv] w fun e w' => e = .returned (.int .i64 (listE xs)) ∧ w = w' := by
  obtain ⟨xa, xc, rfl⟩ := h.form
  have hb := h.1
  have H := Lib.hid h; clear h
  by_cases hl : 8192 < xs.length
  · have HE := Lib.hid (show listE xs = 2 from if_pos hl)
    generalize xs.length = L at *
    have t : decide ((8192 : Int) < (L : Int)) = true := decide_eq_true (by omega)
    clear hl
    go_enter Try.func56, Try.ntmps56
    go_wp2
    go_ret
    rw [HE.out]
    exact ⟨rfl, rfl⟩
  · obtain ⟨L, hL⟩ : ∃ L, xs.length = L := ⟨_, rfl⟩
    have HL := Lib.hid hL
    rw [hL] at H hl hb ⊢
    have t : decide ((8192 : Int) < (L : Int)) = false := decide_eq_false (by omega)
    have hl' : L ≤ 8192 := by omega
    clear hL hl hb
    go_enter Try.func56, Try.ntmps56
    go_wp2_with fail
    go_loop [10] (fun i => ∃ k : Nat, k ≤ L ∧ i = .int .i64 k ∧ Hid (∀ x ∈ xs.take k, isNum x = true)) (fun i => L - (intOf i).toNat)
    case atStart => exact ⟨0, Nat.zero_le _, rfl, Lib.hid (by simp)⟩
    case round =>
      obtain ⟨k, hk, rfl, HN⟩ := hrel
      by_cases hlt : k < L
      · obtain ⟨x, hx⟩ : ∃ x, xs[k]? = some x := ⟨_, List.getElem?_eq_getElem (by rw [HL.out]; exact hlt)⟩
        obtain ⟨b, off, rfl, hc⟩ := H.out.cellAt hx
        cases hn : isNum x with
        | true =>
          have HM := Lib.hid (allNum_more HN.out hx hn)
          have Hn := Lib.hid hn
          clear hx hn
          go_wp2_with (go_at_call 50; refine (small_any _ _).mono ?_; rw [Hn.out]; rintro e w' ⟨rfl, rfl⟩)
          go_round
          case rel => exact ⟨k + 1, by omega, by go_num, HM⟩
          case measure => simp [intOf]; omega
        | false =>
          have HE := Lib.hid (listE_bad (by rw [HL.out]; exact hl') hx hn)
          have Hn := Lib.hid hn
          clear hx hn
          go_wp2_with (go_at_call 50; refine (small_any _ _).mono ?_; rw [Hn.out]; rintro e w' ⟨rfl, rfl⟩)
          go_ret
          rw [HE.out]
          exact ⟨rfl, rfl⟩
      · obtain rfl : k = L := by omega
        have HE := Lib.hid (listE_of (by rw [HL.out]; exact hl') (by have := HN.out; rw [List.take_of_length_le (by rw [HL.out]; exact Nat.le_refl _)] at this; exact this))
        go_wp2
        go_ret
        rw [HE.out]
        exact ⟨rfl, rfl⟩
end Go.Proofs.Ytmdladcfckoglaa
