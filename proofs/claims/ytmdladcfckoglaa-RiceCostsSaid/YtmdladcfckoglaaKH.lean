/- rice: the reference's Cost and Best -/
import Derived.Test.YtmdladcfckoglaaKG
namespace Go.Proofs.Ytmdladcfckoglaa
open Go.RowKit Go.Shelf

/-- a list that can be coded -/
def NumL (xs : List Int) : Prop := xs.length ≤ 8192 ∧ ∀ v ∈ xs, isNum v = true
theorem NumL.get {xs : List Int} (h : NumL xs) {k : Nat} {x : Int} (hx : xs[k]? = some x) : isNum x = true := h.2 x (List.mem_of_getElem? hx)
theorem NumL.ofE {xs : List Int} (h : listE xs = 0) : NumL xs := ⟨(listE_ok h).1, listE_mem h⟩
theorem lc_step_le (xs : List Int) (k j : Nat) (hk : k ≤ 14) (hj : j ≤ 8192) : lc (xs.take j) k ≤ 466944 := by
  have := lc_take_le xs j hk
  have := Nat.mul_le_mul_left 57 hj
  omega
theorem lc_all_le {xs : List Int} (h : NumL xs) {k : Nat} (hk : k ≤ 14) : lc xs k ≤ 466944 := by
  have := lc_le xs hk
  have := Nat.mul_le_mul_left 57 h.1
  omega
set_option maxRecDepth 100000 in
set_option maxHeartbeats 1000000 in
theorem rcost_any (xv : Value) (xs : List Int) (k : Nat) (w : World) (h : Ints w xv xs) (hn : NumL xs) (hk : k ≤ 14) : Calls Try.prog 57 #[xv, .int .i64 (k : Int)] w fun e w' => e = .returned (.int .i64 (lc xs k : Nat)) ∧ w = w' := by
  obtain ⟨xa, xc, rfl⟩ := h.form
  have H := Lib.hid h; have HN := Lib.hid hn
  have hl := hn.1
  obtain ⟨L, hL⟩ : ∃ L, xs.length = L := ⟨_, rfl⟩
  have HL := Lib.hid hL
  rw [hL] at H hl ⊢
  clear h hn hL
  go_enter Try.func57, Try.ntmps57
  go_wp2_with fail
  go_loop [5, 10] (fun n i => ∃ j : Nat, j ≤ L ∧ i = .int .i64 j ∧ n = .int .i64 (lc (xs.take j) k : Nat)) (fun _ i => L - (intOf i).toNat)
  case atStart => exact ⟨0, Nat.zero_le _, rfl, rfl⟩
  case round =>
    obtain ⟨j, hj, rfl, rfl⟩ := hrel
    by_cases hlt : j < L
    · obtain ⟨x, hx⟩ : ∃ x, xs[j]? = some x := ⟨_, List.getElem?_eq_getElem (by rw [HL.out]; exact hlt)⟩
      obtain ⟨b, off, rfl, hc⟩ := H.out.cellAt hx
      have hb1 := lc_step_le xs k j hk (by omega)
      have hb2 := wSz_le (fo x) hk
      have HX := Lib.hid (HN.out.get hx)
      have HS := Lib.hid (lc_take hx k)
      generalize lc (xs.take j) k = c at *
      have HZ := Lib.hid (fun w' => size_any x k w' HX.out hk)
      generalize wSz (fo x) k = z at *
      clear hx
      go_wp2_with (go_at_call 74; refine (HZ.out _).mono ?_; rintro e w' ⟨rfl, rfl⟩)
      go_round
      case rel => exact ⟨j + 1, by omega, by go_num, by rw [HS.out]; go_num⟩
      case measure => simp [intOf]; omega
    · obtain rfl : j = L := by omega
      have HS := Lib.hid (show xs.take j = xs from List.take_of_length_le (by rw [HL.out]; exact Nat.le_refl _))
      rw [HS.out]
      go_wp2
      go_ret
      exact ⟨rfl, rfl⟩
set_option maxRecDepth 100000 in
set_option maxHeartbeats 1000000 in
theorem rbest_any (xv : Value) (xs : List Int) (w : World) (h : Ints w xv xs) (hn : NumL xs) : Calls Try.prog 59 #[xv] w fun e w' => e = .returned (.tuple #[.int .i64 (bst xs : Nat), .int .i64 (lc xs (bst xs) : Nat)]) ∧ w = w' := by
  have HC := Lib.hid (fun (k : Nat) (hk : k ≤ 14) => rcost_any xv xs k w h hn hk)
  have HC0 := Lib.hid (rcost_any xv xs 0 w h hn (by omega))
  have HB := Lib.hid (show bst xs = amin (lc xs) 14 from rfl)
  rw [HB.out]
  have hbd : ∀ k, k ≤ 14 → lc xs k ≤ 466944 := fun k hk => lc_all_le hn hk
  have HBd := Lib.hid hbd
  clear h hn hbd
  generalize lc xs = f at *
  go_enter Try.func59, Try.ntmps59
  go_wp2_with fail
  refine HC0.out.mono ?_
  rintro e w1 ⟨rfl, rfl⟩
  go_wp2_with fail
  go_loop [4, 5, 6, 7] (fun a l i _ => ∃ k : Nat, k ≤ 14 ∧ i = .int .i64 (k + 1 : Nat) ∧ a = .int .i64 (amin f k : Nat) ∧ l = .int .i64 (f (amin f k) : Nat)) (fun _ _ i _ => 16 - (intOf i).toNat)
  case atStart => exact ⟨0, Nat.zero_le _, rfl, rfl, rfl⟩
  case round =>
    obtain ⟨k, hk, rfl, rfl, rfl⟩ := hrel
    have hb1 := HBd.out (amin f k) (by have := amin_le f k; omega)
    have hb0 := amin_le f k
    by_cases hlt : k < 14
    · have hb2 := HBd.out (k + 1) (by omega)
      have HK := Lib.hid (HC.out (k + 1) (by omega))
      have HA := Lib.hid (show amin f (k + 1) = if f (k + 1) < f (amin f k) then k + 1 else amin f k from rfl)
      by_cases hc : f (k + 1) < f (amin f k)
      · have HA2 := Lib.hid (show amin f (k + 1) = k + 1 by rw [HA.out, if_pos hc])
        have HF := Lib.hid (show f (amin f (k + 1)) = f (k + 1) by rw [HA2.out])
        generalize f (amin f k) = p at *
        generalize f (k + 1) = q at *
        have t : decide ((q : Int) < (p : Int)) = true := decide_eq_true (by omega)
        have t2 : decide (q < p) = true := decide_eq_true hc
        clear hc HA
        go_wp2_with (go_at_call 57; refine HK.out.mono ?_; rintro e w' ⟨rfl, rfl⟩)
        go_round
        case rel => exact ⟨k + 1, by omega, by go_num, by rw [HA2.out]; go_num, by rw [HF.out]⟩
        case measure => simp [intOf]; omega
      · have HA2 := Lib.hid (show amin f (k + 1) = amin f k by rw [HA.out, if_neg hc])
        have HF := Lib.hid (show f (amin f (k + 1)) = f (amin f k) by rw [HA2.out])
        have t2 : decide (f (k + 1) < f (amin f k)) = false := decide_eq_false hc
        generalize f (amin f k) = p at *
        generalize f (k + 1) = q at *
        have t : decide ((q : Int) < (p : Int)) = false := decide_eq_false (by omega)
        clear hc HA
        go_wp2_with (go_at_call 57; refine HK.out.mono ?_; rintro e w' ⟨rfl, rfl⟩)
        go_round
        case rel => exact ⟨k + 1, by omega, by go_num, by rw [HA2.out], by rw [HF.out]⟩
        case measure => simp [intOf]; omega
    · obtain rfl : k = 14 := by omega
      go_wp2
      go_ret2
      exact ⟨rfl, rfl⟩
def costE (xs : List Int) (k : Int) : Int := if isPar k = false then 1 else listE xs
def costS (xs : List Int) (k : Int) : Int := if costE xs k = 0 then (lc xs k.toNat : Int) else 0
theorem costE_ok {xs : List Int} {k : Int} (h : costE xs k = 0) : isPar k = true ∧ listE xs = 0 := by
  unfold costE at h
  split at h
  · omega
  · rename_i h1; exact ⟨by simpa using h1, h⟩
set_option maxRecDepth 100000 in
set_option maxHeartbeats 1000000 in
theorem rCost_any (xv : Value) (xs : List Int) (k : Int) (w : World) (h : Ints w xv xs) : Calls Try.prog 18 #[xv, .int .i64 k] w fun e w' => e = .returned (.tuple #[.int .i64 (costS xs k), .int .i64 (costE xs k)]) ∧ w = w' := by
  by_cases k0 : k < 0
  · have hE : costE xs k = 1 := if_pos (decide_eq_false (by omega))
    have HS := Lib.hid (show costS xs k = 0 by unfold costS; rw [hE]; rfl)
    have HE := Lib.hid hE
    clear h hE
    rw [HS.out, HE.out]
    go_enter Try.func18, Try.ntmps18
    go_wp2
    go_ret2
    exact ⟨rfl, rfl⟩
  by_cases k1 : 14 < k
  · have hE : costE xs k = 1 := if_pos (decide_eq_false (by omega))
    have HS := Lib.hid (show costS xs k = 0 by unfold costS; rw [hE]; rfl)
    have HE := Lib.hid hE
    clear h hE
    rw [HS.out, HE.out]
    go_enter Try.func18, Try.ntmps18
    go_wp2
    go_ret2
    exact ⟨rfl, rfl⟩
  obtain ⟨k, rfl⟩ := Int.eq_ofNat_of_zero_le (show 0 ≤ k by omega)
  have hE : costE xs k = listE xs := if_neg (by rw [show isPar (k : Int) = true from decide_eq_true (by omega)]; simp)
  have HL := Lib.hid (listed_any xv xs w h)
  by_cases h0 : listE xs = 0
  · have HS := Lib.hid (show costS xs k = (lc xs k : Nat) by unfold costS; rw [hE, if_pos h0, Int.toNat_natCast])
    have HE := Lib.hid (hE.trans h0)
    have HC := Lib.hid (rcost_any xv xs k w h (NumL.ofE h0) (by omega))
    have H0 := Lib.hid h0
    clear hE h0 h
    rw [HS.out, HE.out]
    rw [H0.out] at HL
    go_enter Try.func18, Try.ntmps18
    go_wp2_with (first | (go_at_call 56; refine HL.out.mono ?_; rintro e w' ⟨rfl, rfl⟩) | (go_at_call 57; refine HC.out.mono ?_; rintro e w' ⟨rfl, rfl⟩))
    go_ret2
    exact ⟨rfl, rfl⟩
  · have HS := Lib.hid (show costS xs k = 0 by unfold costS; rw [hE, if_neg h0])
    have HE := Lib.hid hE
    have t : (listE xs != 0) = true := by simpa using h0
    clear hE h0 h
    rw [HS.out, HE.out]
    generalize listE xs = E at *
    go_enter Try.func18, Try.ntmps18
    go_wp2_with (go_at_call 56; refine HL.out.mono ?_; rintro e w' ⟨rfl, rfl⟩)
    go_ret2
    exact ⟨rfl, rfl⟩
def bestK (xs : List Int) : Int := if listE xs = 0 then (bst xs : Int) else 0
def bestC (xs : List Int) : Int := if listE xs = 0 then (lc xs (bst xs) : Int) else 0
set_option maxRecDepth 100000 in
set_option maxHeartbeats 1000000 in
theorem rBest_any (xv : Value) (xs : List Int) (w : World) (h : Ints w xv xs) : Calls Try.prog 20 #[xv] w fun e w' => e = .returned (.tuple #[.int .i64 (bestK xs), .int .i64 (bestC xs), .int .i64 (listE xs)]) ∧ w = w' := by
  have HL := Lib.hid (listed_any xv xs w h)
  by_cases h0 : listE xs = 0
  · have HK := Lib.hid (show bestK xs = (bst xs : Nat) from if_pos h0)
    have HS := Lib.hid (show bestC xs = (lc xs (bst xs) : Nat) from if_pos h0)
    have HC := Lib.hid (rbest_any xv xs w h (NumL.ofE h0))
    have H0 := Lib.hid h0
    clear h0 h
    rw [HS.out, HK.out, H0.out]
    rw [H0.out] at HL
    go_enter Try.func20, Try.ntmps20
    go_wp2_with (first | (go_at_call 56; refine HL.out.mono ?_; rintro e w' ⟨rfl, rfl⟩) | (go_at_call 59; refine HC.out.mono ?_; rintro e w' ⟨rfl, rfl⟩))
    go_ret3
    exact ⟨rfl, rfl⟩
  · have HK := Lib.hid (show bestK xs = 0 from if_neg h0)
    have HS := Lib.hid (show bestC xs = 0 from if_neg h0)
    have t : (listE xs != 0) = true := by simpa using h0
    clear h0 h
    rw [HS.out, HK.out]
    generalize listE xs = E at *
    go_enter Try.func20, Try.ntmps20
    go_wp2_with (go_at_call 56; refine HL.out.mono ?_; rintro e w' ⟨rfl, rfl⟩)
    go_ret3
    exact ⟨rfl, rfl⟩
end Go.Proofs.Ytmdladcfckoglaa
