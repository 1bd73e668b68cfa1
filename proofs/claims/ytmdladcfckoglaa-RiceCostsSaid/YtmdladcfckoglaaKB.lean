/- rice: folding, words -/
import Derived.Test.YtmdladcfckoglaaKA
namespace Go.Proofs.Ytmdladcfckoglaa
open Go.RowKit Go.Shelf

theorem isNumber_any (v : Int) (w : World) : Calls Try.prog 48 #[.int .i64 v] w fun e w' => e = .returned (.bool (isNum v)) ∧ w = w' := by
  cases h : isNum v with
  | true =>
    obtain ⟨h1, h2⟩ := isNum_yes h
    clear h
    go_enter Try.func48, Try.ntmps48
    go_wp2
    go_ret
    exact ⟨rfl, rfl⟩
  | false =>
    have h1 := isNum_no h
    clear h
    by_cases h2 : v < -2147483648
    · have h3 : decide (-2147483648 ≤ v) = false := decide_eq_false (by omega)
      clear h1
      go_enter Try.func48, Try.ntmps48
      go_wp2
      go_ret
      exact ⟨rfl, rfl⟩
    · have h3 : -2147483648 ≤ v := by omega
      have h4 : decide (v < 2147483648) = false := decide_eq_false (by omega)
      clear h1 h2
      go_enter Try.func48, Try.ntmps48
      go_wp2
      go_ret
      exact ⟨rfl, rfl⟩
theorem small_any (v : Int) (w : World) : Calls Try.prog 50 #[.int .i64 v] w fun e w' => e = .returned (.bool (isNum v)) ∧ w = w' := by
  cases h : isNum v with
  | true =>
    obtain ⟨h1, h2⟩ := isNum_yes h
    clear h
    go_enter Try.func50, Try.ntmps50
    go_wp2
    go_ret
    exact ⟨rfl, rfl⟩
  | false =>
    have h1 := isNum_no h
    clear h
    by_cases h2 : v < -2147483648
    · have h3 : decide (-2147483648 ≤ v) = false := decide_eq_false (by omega)
      clear h1
      go_enter Try.func50, Try.ntmps50
      go_wp2
      go_ret
      exact ⟨rfl, rfl⟩
    · have h3 : -2147483648 ≤ v := by omega
      have h4 : decide (v < 2147483648) = false := decide_eq_false (by omega)
      clear h1 h2
      go_enter Try.func50, Try.ntmps50
      go_wp2
      go_ret
      exact ⟨rfl, rfl⟩
theorem isParameter_any (k : Int) (w : World) : Calls Try.prog 53 #[.int .i64 k] w fun e w' => e = .returned (.bool (isPar k)) ∧ w = w' := by
  cases h : isPar k with
  | true =>
    obtain ⟨h1, h2⟩ := isPar_yes h
    clear h
    go_enter Try.func53, Try.ntmps53
    go_wp2
    go_ret
    exact ⟨rfl, rfl⟩
  | false =>
    have h1 := isPar_no h
    clear h
    by_cases h2 : k < 0
    · have h3 : decide (0 ≤ k) = false := decide_eq_false (by omega)
      clear h1
      go_enter Try.func53, Try.ntmps53
      go_wp2
      go_ret
      exact ⟨rfl, rfl⟩
    · have h3 : 0 ≤ k := by omega
      have h4 : decide (k ≤ 14) = false := decide_eq_false (by omega)
      clear h1 h2
      go_enter Try.func53, Try.ntmps53
      go_wp2
      go_ret
      exact ⟨rfl, rfl⟩
theorem fold_any (v : Int) (w : World) (h : isNum v = true) : Calls Try.prog 49 #[.int .i64 v] w fun e w' => e = .returned (.int .i64 (fo v : Nat)) ∧ w = w' := by
  obtain ⟨h1, h2⟩ := isNum_yes h
  clear h
  by_cases h0 : v < 0
  · have H := Lib.hid (fo_neg h0)
    go_enter Try.func49, Try.ntmps49
    go_wp2
    go_ret
    rw [H.out]
    exact ⟨rfl, rfl⟩
  · have h0' : 0 ≤ v := by omega
    have H := Lib.hid (fo_pos h0')
    clear h0
    go_enter Try.func49, Try.ntmps49
    go_wp2
    go_ret
    rw [H.out]
    exact ⟨rfl, rfl⟩
theorem folded_any (v : Int) (w : World) (h : isNum v = true) : Calls Try.prog 51 #[.int .i64 v] w fun e w' => e = .returned (.int .i64 (fo v : Nat)) ∧ w = w' := by
  obtain ⟨h1, h2⟩ := isNum_yes h
  clear h
  by_cases h0 : v < 0
  · have H := Lib.hid (fo_neg h0)
    go_enter Try.func51, Try.ntmps51
    go_wp2
    go_ret
    rw [H.out]
    exact ⟨rfl, rfl⟩
  · have h0' : 0 ≤ v := by omega
    have H := Lib.hid (fo_pos h0')
    clear h0
    go_enter Try.func51, Try.ntmps51
    go_wp2
    go_ret
    rw [H.out]
    exact ⟨rfl, rfl⟩
/-- Fold: the number and the error -/
def foldS (v : Int) : Int := if isNum v then (fo v : Int) else 0
def foldE (v : Int) : Int := if isNum v then 0 else 6
theorem Fold_any (v : Int) (w : World) : Calls Try.prog 12 #[.int .i64 v] w fun e w' => e = .returned (.tuple #[.int .i64 (foldS v), .int .i64 (foldE v)]) ∧ w = w' := by
  cases h : isNum v with
  | true =>
    have HS := Lib.hid (show foldS v = (fo v : Int) by unfold foldS; rw [h]; rfl)
    have HE := Lib.hid (show foldE v = 0 by unfold foldE; rw [h]; rfl)
    have H := Lib.hid h; clear h
    go_enter Try.func12, Try.ntmps12
    go_wp2_with (first | (go_at_call 48; refine (isNumber_any _ _).mono ?_; rw [H.out]; rintro e w' ⟨rfl, rfl⟩) | (go_at_call 49; refine (fold_any _ _ H.out).mono ?_; rintro e w' ⟨rfl, rfl⟩))
    go_ret2
    rw [HS.out, HE.out]
    exact ⟨rfl, rfl⟩
  | false =>
    have HS := Lib.hid (show foldS v = 0 by unfold foldS; rw [h]; rfl)
    have HE := Lib.hid (show foldE v = 6 by unfold foldE; rw [h]; rfl)
    have H := Lib.hid h; clear h
    go_enter Try.func12, Try.ntmps12
    go_wp2_with (go_at_call 48; refine (isNumber_any _ _).mono ?_; rw [H.out]; rintro e w' ⟨rfl, rfl⟩)
    go_ret2
    rw [HS.out, HE.out]
    exact ⟨rfl, rfl⟩
theorem rFold_any (v : Int) (w : World) : Calls Try.prog 13 #[.int .i64 v] w fun e w' => e = .returned (.tuple #[.int .i64 (foldS v), .int .i64 (foldE v)]) ∧ w = w' := by
  cases h : isNum v with
  | true =>
    have HS := Lib.hid (show foldS v = (fo v : Int) by unfold foldS; rw [h]; rfl)
    have HE := Lib.hid (show foldE v = 0 by unfold foldE; rw [h]; rfl)
    have H := Lib.hid h; clear h
    go_enter Try.func13, Try.ntmps13
    go_wp2_with (first | (go_at_call 50; refine (small_any _ _).mono ?_; rw [H.out]; rintro e w' ⟨rfl, rfl⟩) | (go_at_call 51; refine (folded_any _ _ H.out).mono ?_; rintro e w' ⟨rfl, rfl⟩))
    go_ret2
    rw [HS.out, HE.out]
    exact ⟨rfl, rfl⟩
  | false =>
    have HS := Lib.hid (show foldS v = 0 by unfold foldS; rw [h]; rfl)
    have HE := Lib.hid (show foldE v = 6 by unfold foldE; rw [h]; rfl)
    have H := Lib.hid h; clear h
    go_enter Try.func13, Try.ntmps13
    go_wp2_with (go_at_call 50; refine (small_any _ _).mono ?_; rw [H.out]; rintro e w' ⟨rfl, rfl⟩)
    go_ret2
    rw [HS.out, HE.out]
    exact ⟨rfl, rfl⟩
theorem unfold_any (u : Nat) (w : World) (h : u < 4294967296) : Calls Try.prog 52 #[.int .i64 (u : Int)] w fun e w' => e = .returned (.int .i64 (uf u)) ∧ w = w' := by
  by_cases h1 : u % 2 = 1
  · have t : (((u : Int) % 2) == 1) = true := beq_iff_eq.2 (by omega)
    have e : uf u = -(((u : Int) + 1) / 2) := by unfold uf; rw [if_pos h1]; omega
    have H := Lib.hid e
    have Hd := Lib.hid (show wrap64 (-((u : Int) + 1).tdiv 2) = -(((u : Int) + 1) / 2) by rw [Int.tdiv_eq_ediv_of_nonneg (by omega)]; exact IntWalk.wrap64_in _ (by omega))
    clear h1 e
    go_enter Try.func52, Try.ntmps52
    go_wp2
    go_ret
    rw [H.out, ← Hd.out]
    exact ⟨rfl, rfl⟩
  · have t : (((u : Int) % 2) == 1) = false := by rw [Bool.eq_false_iff]; intro hh; have := beq_iff_eq.1 hh; omega
    have e : uf u = (u : Int) / 2 := by unfold uf; rw [if_neg h1]; omega
    have H := Lib.hid e
    clear h1 e
    go_enter Try.func52, Try.ntmps52
    go_wp2
    go_ret
    rw [H.out]
    exact ⟨rfl, rfl⟩
def ufS (u : Int) : Int := if 0 ≤ u ∧ u ≤ 4294967295 then uf u.toNat else 0
def ufE (u : Int) : Int := if 0 ≤ u ∧ u ≤ 4294967295 then 0 else 6
theorem unfoldI_any (u : Int) (w : World) (h0 : 0 ≤ u) (h : u ≤ 4294967295) : Calls Try.prog 52 #[.int .i64 u] w fun e w' => e = .returned (.int .i64 (uf u.toNat)) ∧ w = w' := by
  obtain ⟨n, rfl⟩ := Int.eq_ofNat_of_zero_le h0
  exact unfold_any n w (by omega)
set_option maxRecDepth 100000 in
theorem Unfold_any (u : Int) (w : World) : Calls Try.prog 14 #[.int .i64 u] w fun e w' => e = .returned (.tuple #[.int .i64 (ufS u), .int .i64 (ufE u)]) ∧ w = w' := by
  by_cases h0 : u < 0
  · have HS := Lib.hid (show ufS u = 0 by unfold ufS; rw [if_neg (by omega)])
    have HE := Lib.hid (show ufE u = 6 by unfold ufE; rw [if_neg (by omega)])
    go_enter Try.func14, Try.ntmps14
    go_wp2
    go_ret2
    rw [HS.out, HE.out]
    exact ⟨rfl, rfl⟩
  have h0' : 0 ≤ u := by omega
  by_cases h1 : u ≤ 4294967295
  · have HS := Lib.hid (show ufS u = uf u.toNat by unfold ufS; rw [if_pos (by omega)])
    have HE := Lib.hid (show ufE u = 0 by unfold ufE; rw [if_pos (by omega)])
    have t : decide ((4294967296 : Int) ≤ u) = false := decide_eq_false (by omega)
    clear h0
    go_enter Try.func14, Try.ntmps14
    go_wp2_with (go_at_call 52; refine (unfoldI_any _ _ h0' h1).mono ?_; rintro e w' ⟨rfl, rfl⟩)
    go_ret2
    rw [HS.out, HE.out]
    exact ⟨rfl, rfl⟩
  · have HS := Lib.hid (show ufS u = 0 by unfold ufS; rw [if_neg (by omega)])
    have HE := Lib.hid (show ufE u = 6 by unfold ufE; rw [if_neg (by omega)])
    have t : decide ((4294967296 : Int) ≤ u) = true := decide_eq_true (by omega)
    clear h1 h0
    go_enter Try.func14, Try.ntmps14
    go_wp2
    go_ret2
    rw [HS.out, HE.out]
    exact ⟨rfl, rfl⟩
set_option maxRecDepth 100000 in
theorem rUnfold_any (u : Int) (w : World) : Calls Try.prog 15 #[.int .i64 u] w fun e w' => e = .returned (.tuple #[.int .i64 (ufS u), .int .i64 (ufE u)]) ∧ w = w' := by
  by_cases h0 : u < 0
  · have HS := Lib.hid (show ufS u = 0 by unfold ufS; rw [if_neg (by omega)])
    have HE := Lib.hid (show ufE u = 6 by unfold ufE; rw [if_neg (by omega)])
    go_enter Try.func15, Try.ntmps15
    go_wp2
    go_ret2
    rw [HS.out, HE.out]
    exact ⟨rfl, rfl⟩
  have h0' : 0 ≤ u := by omega
  by_cases h1 : u ≤ 4294967295
  · have HE := Lib.hid (show ufE u = 0 by unfold ufE; rw [if_pos (by omega)])
    have t : decide ((4294967296 : Int) ≤ u) = false := decide_eq_false (by omega)
    clear h0
    by_cases hp : u % 2 = 0
    · have HS := Lib.hid (show ufS u = u / 2 by unfold ufS; rw [if_pos (by omega)]; unfold uf; rw [if_neg (by omega)]; omega)
      have t2 : ((u % 2) == 0) = true := beq_iff_eq.2 (by omega)
      clear hp
      go_enter Try.func15, Try.ntmps15
      go_wp2
      go_ret2
      rw [HS.out, HE.out]
      exact ⟨rfl, rfl⟩
    · have HS := Lib.hid (show ufS u = wrap64 (-(u + 1).tdiv 2) by unfold ufS; rw [if_pos (by omega)]; unfold uf; rw [if_pos (by omega), Int.tdiv_eq_ediv_of_nonneg (by omega), IntWalk.wrap64_in _ (by omega)]; omega)
      have t2 : ((u % 2) == 0) = false := by rw [Bool.eq_false_iff]; intro hh; have := beq_iff_eq.1 hh; omega
      clear hp
      go_enter Try.func15, Try.ntmps15
      go_wp2
      go_ret2
      rw [HS.out, HE.out]
      exact ⟨rfl, rfl⟩
  · have HS := Lib.hid (show ufS u = 0 by unfold ufS; rw [if_neg (by omega)])
    have HE := Lib.hid (show ufE u = 6 by unfold ufE; rw [if_neg (by omega)])
    have t : decide ((4294967296 : Int) ≤ u) = true := decide_eq_true (by omega)
    clear h1 h0
    go_enter Try.func15, Try.ntmps15
    go_wp2
    go_ret2
    rw [HS.out, HE.out]
    exact ⟨rfl, rfl⟩
end Go.Proofs.Ytmdladcfckoglaa
