/- quarters, the circle of the program, the checks of angles -/
import Derived.Test.YtpmhioaoniijbaaDoorFW
import Derived.Laws.Rows
namespace Go.Proofs.YtpmhioaoniijbaaDoor
open Go.RowKit Go.Shelf

/-! the checks of angles -/
def pow2 (d : Int) : Bool := decide (∃ k : Fin 15, d = 2 ^ k.val)
theorem pow2_cases {d : Int} (h : pow2 d = true) : ∃ k, k < 15 ∧ d = ((2 ^ k : Nat) : Int) := by
  obtain ⟨k, hk⟩ := of_decide_eq_true h
  exact ⟨k.val, k.isLt, by rw [hk]; simp⟩
theorem pow2_mk {k : Nat} (h : k < 15) : pow2 ((2 ^ k : Nat) : Int) = true := decide_eq_true ⟨⟨k, h⟩, by simp⟩
theorem pow2_in {d : Int} (h : pow2 d = true) : 1 ≤ d ∧ d ≤ 16384 := by
  obtain ⟨k, hk, rfl⟩ := pow2_cases h
  have a := Nat.two_pow_pos k
  have b := Nat.pow_le_pow_right (show 0 < 2 by omega) (show k ≤ 14 by omega)
  omega
theorem tab_pow : allB (fun d => (decide ((d + 1) &&& d = 0)) == pow2 ((d + 1 : Nat) : Int)) 16384 = true := by decide +kernel
theorem pow2_and {d : Nat} (h1 : 1 ≤ d) (h2 : d ≤ 16384) : decide (d &&& (d - 1) = 0) = pow2 (d : Int) := by
  have := allB_of tab_pow (d - 1) (by omega)
  simp only [beq_iff_eq] at this
  rw [show d - 1 + 1 = d by omega] at this
  exact this
theorem i64_and_nat (a b : Nat) (ha : a < 9223372036854775808) (hb : b < 9223372036854775808) : Go.bits .and .i64 (a : Int) (b : Int) = ((a &&& b : Nat) : Int) := by
  have key : (BitVec.ofInt 64 (a : Int) &&& BitVec.ofInt 64 (b : Int)).toNat = a &&& b := by
    rw [BitVec.toNat_and, BitVec.toNat_ofInt, BitVec.toNat_ofInt]
    congr 1 <;> omega
  show IntKind.i64.wrap ((BitVec.ofInt 64 (a : Int) &&& BitVec.ofInt 64 (b : Int)).toNat : Nat) = _
  have : a &&& b ≤ a := Nat.and_le_left
  rw [key, IntWalk.i64_in _ (by omega)]
theorem i64_mask (n : Int) : Go.bits .and .i64 n 16383 = n % 16384 := by
  have h1 : (BitVec.ofInt 64 16383).toNat = 2 ^ 14 - 1 := by decide
  have key : (BitVec.ofInt 64 n &&& BitVec.ofInt 64 16383).toNat = (n % ((2 ^ 64 : Nat) : Int)).toNat % 2 ^ 14 := by
    rw [BitVec.toNat_and, BitVec.toNat_ofInt, h1, Nat.and_two_pow_sub_one_eq_mod]
  show IntKind.i64.wrap ((BitVec.ofInt 64 n &&& BitVec.ofInt 64 16383).toNat : Nat) = n % 16384
  rw [key, IntKind.wrap_i64]
  omega
def angE (n d : Int) : Int := if pow2 d = false then 1 else if n < -1099511627776 ∨ 1099511627776 < n then 6 else 0
theorem angE_cases (n d : Int) : (pow2 d = false ∧ angE n d = 1) ∨ (pow2 d = true ∧ n < -1099511627776 ∧ angE n d = 6) ∨ (pow2 d = true ∧ ¬ n < -1099511627776 ∧ 1099511627776 < n ∧ angE n d = 6) ∨
    (pow2 d = true ∧ ¬ n < -1099511627776 ∧ ¬ 1099511627776 < n ∧ angE n d = 0) := by
  unfold angE
  cases pow2 d with
  | false => simp
  | true =>
    simp only [reduceCtorEq, if_false, false_and, false_or, true_and]
    split <;> omega
set_option maxRecDepth 100000 in
theorem checkAngle_any (n d : Int) (w : World) : Calls Tryd.prog 35 #[.int .i64 n, .int .i64 d] w fun e w' => e = .returned (.int .i64 (angE n d)) ∧ w' = w := by
  by_cases d1 : d < 1
  · have hp : pow2 d = false := by cases h : pow2 d with
      | false => rfl
      | true => have := pow2_in h; omega
    have E := Lib.hid (show angE n d = 1 by unfold angE; rw [if_pos hp])
    clear hp
    go_enter Tryd.func35, Tryd.ntmps35
    go_wp2
    go_ret
    exact ⟨ret_int E.out.symm, rfl⟩
  by_cases d2 : 16384 < d
  · have hp : pow2 d = false := by cases h : pow2 d with
      | false => rfl
      | true => have := pow2_in h; omega
    have E := Lib.hid (show angE n d = 1 by unfold angE; rw [if_pos hp])
    clear hp
    go_enter Tryd.func35, Tryd.ntmps35
    go_wp2
    go_ret
    exact ⟨ret_int E.out.symm, rfl⟩
  obtain ⟨m, rfl⟩ : ∃ m : Nat, d = m := ⟨d.toNat, by omega⟩
  have pa := pow2_and (d := m) (by omega) (by omega)
  have hand := i64_and_nat m (m - 1) (by omega) (by omega)
  rw [show ((m - 1 : Nat) : Int) = (m : Int) - 1 by omega] at hand
  have w1 : IntKind.i64.wrap ((m : Int) - 1) = (m : Int) - 1 := IntWalk.i64_in _ (by omega)
  obtain ⟨z, hz⟩ : ∃ z, m &&& (m - 1) = z := ⟨_, rfl⟩
  rw [hz] at pa hand
  clear hz
  rcases angE_cases n m with ⟨h, e⟩ | ⟨h, h2, e⟩ | ⟨h, h2, h3, e⟩ | ⟨h, h2, h3, e⟩
  · have E := Lib.hid e
    have t : ((z : Int) != 0) = true := by rw [h] at pa; have := of_decide_eq_false pa; simp; omega
    clear e h pa
    go_enter Tryd.func35, Tryd.ntmps35
    go_wp2
    go_ret
    exact ⟨ret_int E.out.symm, rfl⟩
  all_goals
    have E := Lib.hid e
    have t : ((z : Int) != 0) = false := by rw [h] at pa; have := of_decide_eq_true pa; simp; omega
    clear e h pa
    go_enter Tryd.func35, Tryd.ntmps35
    go_wp2
    go_ret
    exact ⟨ret_int E.out.symm, rfl⟩
set_option maxRecDepth 100000 in
theorem power_any (d : Int) (w : World) : Calls Tryd.prog 66 #[.int .i64 d, .int .i64 16384] w fun e w' => e = .returned (.bool (pow2 d)) ∧ w' = w := by
  go_enter Tryd.func66, Tryd.ntmps66
  go_wp2_with fail
  go_loop [5] (fun pv => ∃ (k p : Nat), pv = .int .i64 p ∧ p = 2 ^ k ∧ k ≤ 15 ∧ ∀ j, j < k → d ≠ ((2 ^ j : Nat) : Int)) (fun pv => 32769 - (intOf pv).toNat)
  case atStart => exact ⟨0, 1, rfl, rfl, by omega, fun j hj => by omega⟩
  case round =>
    obtain ⟨k, p, rfl, hp, hk, hj⟩ := hrel
    by_cases hk14 : k < 15
    · have p1 := Nat.pow_le_pow_right (show 0 < 2 by omega) (show k ≤ 14 by omega)
      have p0 := Nat.two_pow_pos k
      rw [← hp] at p1 p0
      have p2 : (p : Int) ≤ 16384 := by omega
      have p3 : (1 : Int) ≤ (p : Int) := by omega
      by_cases hd : d = (p : Int)
      · have E := Lib.hid (show pow2 d = true by rw [hd, hp]; exact pow2_mk hk14)
        have t : (d == (p : Int)) = true := by simpa using hd
        clear hp hj hd p0 p1
        go_wp2
        go_ret
        exact ⟨by rw [E.out]; rfl, rfl⟩
      · have t : (d == (p : Int)) = false := by simpa using hd
        have Hp := Lib.hid hp; have Hj := Lib.hid hj; have Hd := Lib.hid hd
        have mm : 32769 - p * 2 < 32769 - p := by omega
        clear hp hj hd p0 p1
        go_wp2
        go_round
        case rel =>
          refine ⟨k + 1, p * 2, by go_num, by rw [Hp.out, Nat.pow_succ], by omega, fun j hj => ?_⟩
          rcases Nat.lt_or_ge j k with h | h
          · exact Hj.out j h
          · obtain rfl : j = k := by omega
            rw [← Hp.out]; exact Hd.out
        case measure => simp [intOf]; omega
    · obtain rfl : k = 15 := by omega
      have E := Lib.hid (show pow2 d = false by
        cases h : pow2 d with
        | false => rfl
        | true =>
          obtain ⟨j, hj', e⟩ := pow2_cases h
          exact absurd e (hj j hj'))
      subst hp
      clear hj
      go_wp2
      go_ret
      exact ⟨by rw [E.out]; rfl, rfl⟩
theorem Power_any (d : Int) (w : World) : Calls Tryd.prog 53 #[.int .i64 d, .int .i64 16384] w fun e w' => e = .returned (.bool (pow2 d)) ∧ w' = w := by
  go_enter Tryd.func53, Tryd.ntmps53
  go_wp2_with fail
  refine (power_any d _).mono ?_
  rintro e w' ⟨rfl, rfl⟩
  go_wp2
  go_ret
  exact ⟨rfl, rfl⟩
theorem angle_any (n d : Int) (w : World) : Calls Tryd.prog 37 #[.int .i64 n, .int .i64 d] w fun e w' => e = .returned (.int .i64 (angE n d)) ∧ w' = w := by
  rcases angE_cases n d with ⟨h, e⟩ | ⟨h, h2, e⟩ | ⟨h, h2, h3, e⟩ | ⟨h, h2, h3, e⟩
  all_goals
    have E := Lib.hid e
    have H := Lib.hid h
    clear e h
    go_enter Tryd.func37, Tryd.ntmps37
    go_wp2_with fail
    refine (power_any d _).mono ?_
    rintro e w' ⟨rfl, rfl⟩
    rw [H.out]
    go_wp2
    go_ret
    exact ⟨ret_int E.out.symm, rfl⟩
end Go.Proofs.YtpmhioaoniijbaaDoor
