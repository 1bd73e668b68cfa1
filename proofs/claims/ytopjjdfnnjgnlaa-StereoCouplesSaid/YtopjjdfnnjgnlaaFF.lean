/- Root and Cube of the reference -/
import Derived.Test.YtopjjdfnnjgnlaaFE
namespace Go.Proofs.Ytopjjdfnnjgnlaa
open Go.RowKit

def RR (n : Nat) (k r b : Nat) : Prop := k ≤ 32 ∧ b = 2 ^ k / 2 ∧ rtGo k n r = rt n ∧ r + 2 ^ k ≤ 4294967296
theorem RR.zero {n k r : Nat} (h : RR n k r 0) : r = rt n := by
  obtain ⟨h1, h2, h3, h4⟩ := h
  cases k with
  | zero => exact h3
  | succ k => rw [Nat.pow_succ, Nat.mul_div_cancel _ (by omega)] at h2; have := Nat.two_pow_pos k; omega
theorem RR.next {n k r b : Nat} (h : RR n k r b) (hb : 0 < b) : ∃ j, k = j + 1 ∧ b = 2 ^ j ∧ r + 2 * b ≤ 4294967296 := by
  obtain ⟨h1, h2, h3, h4⟩ := h
  cases k with
  | zero => simp at h2; omega
  | succ k =>
    rw [Nat.pow_succ, Nat.mul_div_cancel _ (by omega)] at h2
    rw [Nat.pow_succ] at h4
    exact ⟨k, rfl, h2, by omega⟩
theorem RR.yes {n k r b : Nat} (h : RR n k r b) (hb : 0 < b) (hy : (r + b) * (r + b) ≤ n) : RR n (k - 1) (r + b) (b / 2) := by
  obtain ⟨j, rfl, rfl, h4⟩ := h.next hb
  obtain ⟨h1, h2, h3, h5⟩ := h
  unfold rtGo at h3
  rw [if_pos hy] at h3
  exact ⟨by omega, rfl, h3, by simp only [Nat.add_sub_cancel]; omega⟩
theorem RR.no {n k r b : Nat} (h : RR n k r b) (hb : 0 < b) (hy : ¬ (r + b) * (r + b) ≤ n) : RR n (k - 1) r (b / 2) := by
  obtain ⟨j, rfl, rfl, h4⟩ := h.next hb
  obtain ⟨h1, h2, h3, h5⟩ := h
  unfold rtGo at h3
  rw [if_neg hy] at h3
  exact ⟨by omega, rfl, h3, by simp only [Nat.add_sub_cancel]; omega⟩
def RC (n : Nat) (k r b : Nat) : Prop := k ≤ 21 ∧ b = 2 ^ k / 2 ∧ cbGo k n r = cb n ∧ r + 2 ^ k ≤ 2097152
theorem RC.zero {n k r : Nat} (h : RC n k r 0) : r = cb n := by
  obtain ⟨h1, h2, h3, h4⟩ := h
  cases k with
  | zero => exact h3
  | succ k => rw [Nat.pow_succ, Nat.mul_div_cancel _ (by omega)] at h2; have := Nat.two_pow_pos k; omega
theorem RC.next {n k r b : Nat} (h : RC n k r b) (hb : 0 < b) : ∃ j, k = j + 1 ∧ b = 2 ^ j ∧ r + 2 * b ≤ 2097152 := by
  obtain ⟨h1, h2, h3, h4⟩ := h
  cases k with
  | zero => simp at h2; omega
  | succ k =>
    rw [Nat.pow_succ, Nat.mul_div_cancel _ (by omega)] at h2
    rw [Nat.pow_succ] at h4
    exact ⟨k, rfl, h2, by omega⟩
theorem RC.yes {n k r b : Nat} (h : RC n k r b) (hb : 0 < b) (hy : cube (r + b) ≤ n) : RC n (k - 1) (r + b) (b / 2) := by
  obtain ⟨j, rfl, rfl, h4⟩ := h.next hb
  obtain ⟨h1, h2, h3, h5⟩ := h
  unfold cbGo at h3
  rw [if_pos hy] at h3
  exact ⟨by omega, rfl, h3, by simp only [Nat.add_sub_cancel]; omega⟩
theorem RC.no {n k r b : Nat} (h : RC n k r b) (hb : 0 < b) (hy : ¬ cube (r + b) ≤ n) : RC n (k - 1) r (b / 2) := by
  obtain ⟨j, rfl, rfl, h4⟩ := h.next hb
  obtain ⟨h1, h2, h3, h5⟩ := h
  unfold cbGo at h3
  rw [if_neg hy] at h3
  exact ⟨by omega, rfl, h3, by simp only [Nat.add_sub_cancel]; omega⟩
end Go.Proofs.Ytopjjdfnnjgnlaa
