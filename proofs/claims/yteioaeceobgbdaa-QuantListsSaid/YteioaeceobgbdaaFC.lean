/- floor, round and their like: the contracts -/
import Derived.Test.YteioaeceobgbdaaBase
import Derived.Test.YteioaeceobgbdaaFA
import Derived.Test.YteioaeceobgbdaaProg
import Derived.IntWalk
namespace Go.Proofs.Yteioaeceobgbdaa
open Go.RowKit

theorem ediv_of {a b q r : Int} (hb : 0 < b) (h : r + b * q = a) (h0 : 0 ≤ r) (h1 : r < b) : a / b = q := ((Int.ediv_emod_unique hb).2 ⟨h, h0, h1⟩).1
theorem neg_parts {a b : Int} (ha : a < 0) (hb : 1 ≤ b) : ∃ q r : Int, a.tdiv b = -q ∧ a.tmod b = -r ∧ 0 ≤ r ∧ r < b ∧ 0 ≤ q ∧ q ≤ -a ∧ a = -(b * q + r) := by
  obtain ⟨n, rfl⟩ : ∃ n : Nat, a = -(n : Int) := ⟨(-a).toNat, by omega⟩
  obtain ⟨m, rfl⟩ : ∃ m : Nat, b = (m : Int) := ⟨b.toNat, by omega⟩
  have hq := Nat.div_le_self n m
  have hr := Nat.mod_lt n (show 0 < m by omega)
  refine ⟨((n / m : Nat) : Int), ((n % m : Nat) : Int), ?_, ?_, Int.natCast_nonneg _, Int.ofNat_lt.2 hr, Int.natCast_nonneg _, ?_, ?_⟩
  · rw [Int.neg_tdiv]; rfl
  · rw [Int.neg_tmod]; rfl
  · rw [Int.neg_neg]; exact Int.ofNat_le.2 hq
  · have := Nat.div_add_mod n m
    have h : ((m * (n / m) + n % m : Nat) : Int) = (n : Int) := by rw [this]
    rw [Int.natCast_add, Int.natCast_mul] at h
    rw [h]
theorem down_lo {a b : Int} (ha : a < 0) (hb : 1 ≤ b) (h : a.tmod b < 0) : a.tdiv b - 1 = a / b := by
  obtain ⟨q, r, e1, e2, h1, h2, h3, h4, h5⟩ := neg_parts ha hb
  rw [e2] at h
  rw [e1]
  refine (ediv_of (r := b - r) (by omega) ?_ (by omega) (by omega)).symm
  rw [h5, Int.mul_sub, Int.mul_neg]; omega
theorem down_eq {a b : Int} (ha : a < 0) (hb : 1 ≤ b) (h : ¬ a.tmod b < 0) : a.tdiv b = a / b := by
  obtain ⟨q, r, e1, e2, h1, h2, h3, h4, h5⟩ := neg_parts ha hb
  rw [e2] at h
  rw [e1]
  refine (ediv_of (r := 0) (by omega) ?_ (by omega) (by omega)).symm
  rw [h5, Int.mul_neg]; omega
theorem tdiv_in {a b : Int} (ha : a < 0) (hb : 1 ≤ b) : a ≤ a.tdiv b ∧ a.tdiv b ≤ 0 ∧ -b < a.tmod b ∧ a.tmod b ≤ 0 := by
  obtain ⟨q, r, e1, e2, h1, h2, h3, h4, h5⟩ := neg_parts ha hb
  omega
theorem ediv_in {a b : Int} (hb : 1 ≤ b) (h1 : -4611686018427387905 ≤ a) (h2 : a ≤ 4611686018427387905) : -4611686018427387905 ≤ a / b ∧ a / b ≤ 4611686018427387905 := by
  rcases Int.lt_or_le a 0 with h | h
  · have a1 : a / b < 0 := Int.ediv_neg_of_neg_of_pos h (by omega)
    have a2 : a ≤ a / b := by
      have e := Int.mul_ediv_add_emod a b
      have e2 := Int.emod_nonneg a (show b ≠ 0 by omega)
      have e3 := Int.emod_lt_of_pos a (show 0 < b by omega)
      by_cases h' : a.tmod b < 0
      · have := down_lo h hb h'
        obtain ⟨q, r, e1, e2, h1, h2, h3, h4, h5⟩ := neg_parts h hb
        rw [e1] at this
        have : q ≤ b * q := by
          have := Int.mul_le_mul_of_nonneg_right hb h3
          omega
        omega
      · have := down_eq h hb h'
        obtain ⟨q, r, e1, e2, h1, h2, h3, h4, h5⟩ := neg_parts h hb
        omega
    omega
  · have a1 : 0 ≤ a / b := Int.ediv_nonneg h (by omega)
    have a2 : a / b ≤ a := Int.ediv_le_self b h
    omega

theorem ret_int {k : IntKind} {a b : Int} (h : a = b) : Ending.returned (.int k a) = .returned (.int k b) := by rw [h]

set_option maxHeartbeats 1000000 in
theorem floor_any (a b : Int) (w : World) (hb : 1 ≤ b) (hb2 : b ≤ 4611686018427387904) (h1 : -4611686018427387904 ≤ a) (h2 : a ≤ 9223372036854775807) :
    Calls Try.prog 130 #[.int .i64 a, .int .i64 b] w fun e w' => e = .returned (.int .i64 (a / b)) ∧ w' = w := by
  rcases Int.lt_or_le a 0 with h | h
  · have t := tdiv_in h hb
    have q1 := IntWalk.i64_quo' a b (by omega)
    have w1 : IntKind.i64.wrap (a.tdiv b - 1) = a.tdiv b - 1 := IntWalk.i64_in _ (by omega)
    have w2 : IntKind.i64.wrap (a.tmod b) = a.tmod b := IntWalk.i64_in _ (by omega)
    have nz : b ≠ 0 := by omega
    by_cases hm : a.tmod b < 0
    · have e := Lib.hid (down_lo h hb hm)
      have tm : decide (a.tmod b < 0) = true := decide_eq_true hm
      go_enter Try.func130, Try.ntmps130
      go_wp2
      go_ret
      exact ⟨ret_int e.out, rfl⟩
    · have e := Lib.hid (down_eq h hb hm)
      have tm : decide (a.tmod b < 0) = false := decide_eq_false hm
      go_enter Try.func130, Try.ntmps130
      go_wp2
      go_ret
      exact ⟨ret_int e.out, rfl⟩
  · have hm : 0 ≤ a % b := Int.emod_nonneg a (by omega)
    have tm : decide (a % b < 0) = false := decide_eq_false (by omega)
    have nz : b ≠ 0 := by omega
    go_enter Try.func130, Try.ntmps130
    go_wp2
    go_ret
    exact ⟨rfl, rfl⟩

set_option maxHeartbeats 1000000 in
theorem down_any (a b : Int) (w : World) (hb : 1 ≤ b) (hb2 : b ≤ 4611686018427387904) (h1 : -4611686018427387904 ≤ a) (h2 : a ≤ 9223372036854775807) :
    Calls Try.prog 131 #[.int .i64 a, .int .i64 b] w fun e w' => e = .returned (.int .i64 (a / b)) ∧ w' = w := by
  rcases Int.lt_or_le a 0 with h | h
  · have t := tdiv_in h hb
    have q1 := IntWalk.i64_quo' a b (by omega)
    have w1 : IntKind.i64.wrap (a.tdiv b - 1) = a.tdiv b - 1 := IntWalk.i64_in _ (by omega)
    have w2 : IntKind.i64.wrap (a.tmod b) = a.tmod b := IntWalk.i64_in _ (by omega)
    have nz : b ≠ 0 := by omega
    by_cases hm : a.tmod b < 0
    · have e := Lib.hid (down_lo h hb hm)
      have tm : decide (a.tmod b < 0) = true := decide_eq_true hm
      go_enter Try.func131, Try.ntmps131
      go_wp2
      go_ret
      exact ⟨ret_int e.out, rfl⟩
    · have e := Lib.hid (down_eq h hb hm)
      have tm : decide (a.tmod b < 0) = false := decide_eq_false hm
      go_enter Try.func131, Try.ntmps131
      go_wp2
      go_ret
      exact ⟨ret_int e.out, rfl⟩
  · have hm : 0 ≤ a % b := Int.emod_nonneg a (by omega)
    have tm : decide (a % b < 0) = false := decide_eq_false (by omega)
    have nz : b ≠ 0 := by omega
    go_enter Try.func131, Try.ntmps131
    go_wp2
    go_ret
    exact ⟨rfl, rfl⟩

def rnd (a b : Int) : Int := (2 * a + b) / (2 * b)
theorem round_any (a b : Int) (w : World) (hb : 1 ≤ b) (hb2 : b ≤ 1152921504606846976) (h1 : -2305843009213693952 ≤ a) (h2 : a ≤ 2305843009213693952) :
    Calls Try.prog 121 #[.int .i64 a, .int .i64 b] w fun e w' => e = .returned (.int .i64 (rnd a b)) ∧ w' = w := by
  have w1 : IntKind.i64.wrap (2 * a) = 2 * a := IntWalk.i64_in _ (by omega)
  have w2 : IntKind.i64.wrap (2 * a + b) = 2 * a + b := IntWalk.i64_in _ (by omega)
  have w3 : IntKind.i64.wrap (2 * b) = 2 * b := IntWalk.i64_in _ (by omega)
  go_enter Try.func121, Try.ntmps121
  go_wp2_with fail
  refine (floor_any (2 * a + b) (2 * b) _ (by omega) (by omega) (by omega) (by omega)).mono ?_
  rintro e w' ⟨rfl, rfl⟩
  go_wp2
  go_ret
  exact ⟨rfl, rfl⟩
end Go.Proofs.Yteioaeceobgbdaa
