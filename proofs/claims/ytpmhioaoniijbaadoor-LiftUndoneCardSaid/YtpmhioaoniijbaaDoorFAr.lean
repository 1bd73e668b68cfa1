/- The squares of sine and cosine have a sum that differs from 2^28 by at most 2^15; a quarter of a turn more makes the cosine of the sine, and the sine is odd, the cosine even; for angles below 2^39 in absolute value. No condition; the variable parts holds what the program's text lays (tied). -/
import Derived.Test.YtpmhioaoniijbaaDoorFrow
namespace Go.Proofs.YtpmhioaoniijbaaDoor
open Go.ChangeShapes Go.WideShapes Go.ChangeAt Go.WideMaps Go.WideElems Go.RowKit

theorem cir_eq {S : Int} {Q r : Nat} (h : S % 16384 = ((4096 * Q + r : Nat) : Int)) (hr : r < 4096) : cir S = rot ((cosR r : Nat), (sinR r : Nat)) Q := by
  unfold cir
  rw [h, Int.toNat_natCast, show (4096 * Q + r) % 4096 = r by omega, show (4096 * Q + r) / 4096 = Q by omega]
theorem cir_parts (S : Int) : ∃ Q r : Nat, S % 16384 = ((4096 * Q + r : Nat) : Int) ∧ r < 4096 ∧ Q ≤ 3 := by
  refine ⟨(S % 16384).toNat / 4096, (S % 16384).toNat % 4096, by omega, by omega, by omega⟩
theorem cir_quarter (S : Int) : cir (S + 4096) = (-(cir S).2, (cir S).1) := by
  obtain ⟨Q, r, h, hr, hQ⟩ := cir_parts S
  rw [cir_eq h hr]
  rcases (show Q = 0 ∨ Q = 1 ∨ Q = 2 ∨ Q = 3 by omega) with rfl | rfl | rfl | rfl
  · rw [cir_eq (Q := 1) (r := r) (by omega) hr]; rfl
  · rw [cir_eq (Q := 2) (r := r) (by omega) hr]; rfl
  · rw [cir_eq (Q := 3) (r := r) (by omega) hr]; rfl
  · rw [cir_eq (Q := 0) (r := r) (by omega) hr]; simp [rot]
theorem cir_neg (S : Int) : cir (-S) = ((cir S).1, -(cir S).2) := by
  obtain ⟨Q, r, h, hr, hQ⟩ := cir_parts S
  rw [cir_eq h hr]
  by_cases h0 : r = 0
  · subst h0
    have z := sin_zero
    rcases (show Q = 0 ∨ Q = 1 ∨ Q = 2 ∨ Q = 3 by omega) with rfl | rfl | rfl | rfl
    · rw [cir_eq (Q := 0) (r := 0) (by omega) hr, z.1, z.2]; simp [rot]
    · rw [cir_eq (Q := 3) (r := 0) (by omega) hr, z.1, z.2]; simp [rot]
    · rw [cir_eq (Q := 2) (r := 0) (by omega) hr, z.1, z.2]; simp [rot]
    · rw [cir_eq (Q := 1) (r := 0) (by omega) hr, z.1, z.2]; simp [rot]
  · have a := sin_sym (r := r) (by omega) (by omega)
    have b := cos_sym (r := r) (by omega) (by omega)
    rcases (show Q = 0 ∨ Q = 1 ∨ Q = 2 ∨ Q = 3 by omega) with rfl | rfl | rfl | rfl
    · rw [cir_eq (Q := 3) (r := 4096 - r) (by omega) (by omega), a, b]; simp [rot]
    · rw [cir_eq (Q := 2) (r := 4096 - r) (by omega) (by omega), a, b]; simp [rot]
    · rw [cir_eq (Q := 1) (r := 4096 - r) (by omega) (by omega), a, b]; simp [rot]
    · rw [cir_eq (Q := 0) (r := 4096 - r) (by omega) (by omega), a, b]; simp [rot]
theorem cir_around (S : Int) : (cir S).2 * (cir S).2 + (cir S).1 * (cir S).1 ≤ 268435456 + 32768 ∧ 268435456 - 32768 ≤ (cir S).2 * (cir S).2 + (cir S).1 * (cir S).1 := by
  obtain ⟨Q, r, h, hr, hQ⟩ := cir_parts S
  rw [cir_eq h hr]
  have a := around hr
  generalize cosR r = c at *
  generalize sinR r = s at *
  have e1 : (s : Int) * s = ((s * s : Nat) : Int) := by simp
  have e2 : (c : Int) * c = ((c * c : Nat) : Int) := by simp
  rcases (show Q = 0 ∨ Q = 1 ∨ Q = 2 ∨ Q = 3 by omega) with rfl | rfl | rfl | rfl
  all_goals
    simp only [rot, Int.neg_mul, Int.mul_neg, Int.neg_neg]
    rw [e1, e2]
    omega
theorem sq_nonneg (x : Int) : 0 ≤ x * x := by
  rcases Int.lt_or_le x 0 with h | h
  · have := Int.mul_nonneg (show 0 ≤ -x by omega) (show 0 ≤ -x by omega)
    rw [Int.neg_mul_neg] at this; exact this
  · exact Int.mul_nonneg h h
theorem abs_le_of_sq {x : Int} (h : x * x ≤ 4611686018427387904) : -2147483648 ≤ x ∧ x ≤ 2147483648 := by
  refine ⟨?_, ?_⟩
  · rcases Int.lt_or_le x (-2147483648) with g | g
    · have := Int.mul_le_mul (show 2147483649 ≤ -x by omega) (show 2147483649 ≤ -x by omega) (by omega) (by omega)
      rw [Int.neg_mul_neg] at this; omega
    · exact g
  · rcases Int.lt_or_le 2147483648 x with g | g
    · have := Int.mul_le_mul (show 2147483649 ≤ x by omega) (show 2147483649 ≤ x by omega) (by omega) (by omega)
      omega
    · exact g
theorem quarter_of {d : Int} (h : pow2 d = true) (h4 : 4 ≤ d) : d / 4 * (16384 / d) = 4096 := by
  obtain ⟨k, hk, rfl⟩ := pow2_cases h
  have : ∀ k, k < 15 → 4 ≤ 2 ^ k → 2 ^ k / 4 * (16384 / 2 ^ k) = 4096 := by decide +kernel
  have := this k hk (by omega)
  have e : (((2 ^ k : Nat) : Int) / 4 * (16384 / ((2 ^ k : Nat) : Int))) = ((2 ^ k / 4 * (16384 / 2 ^ k) : Nat) : Int) := by rw [Int.natCast_mul]; rfl
  rw [e, this]; rfl
theorem angE_zero {n d : Int} (h : pow2 d = true) (h1 : -1099511627776 ≤ n) (h2 : n ≤ 1099511627776) : angE n d = 0 := by
  rcases angE_cases n d with ⟨h', _⟩ | h' | h' | h'
  · rw [h] at h'; cases h'
  · omega
  · omega
  · exact h'.2.2.2
end Go.Proofs.YtpmhioaoniijbaaDoor
