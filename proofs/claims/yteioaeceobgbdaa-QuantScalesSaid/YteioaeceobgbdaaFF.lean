/- Root and Cube of the reference -/
import Derived.Test.YteioaeceobgbdaaFE
namespace Go.Proofs.Yteioaeceobgbdaa
open Go.RowKit

def RR (n : Nat) (k r b : Nat) : Prop := k ≤ 32 ∧ b = 2 ^ k / 2 ∧ rtGo k n r = rt n ∧ r + 2 ^ k ≤ 4294967296
theorem RR.zero {n k r : Nat} (h : RR n k r 0) : r = rt n := by
  obtain ⟨h1, h2, h3, h4⟩ := h
  cases k with
  | zero => exact h3
  | succ k => rw [Nat.pow_succ, Nat.mul_div_cancel _ (by omega)] at h2; have := Nat.two_pow_pos k; omega
theorem RR.next {n k r b : Nat} (h : RR n k r b) (hb : 0 < b) : ∃ j, k = j + 1 ∧ b = 2 ^ j ∧ r + 2 * b ≤ 4294967296 := by
  obtain ⟨h1, h2, h3, h4⟩ := h
  cases k with
  | zero => simp at h2; omega
  | succ k =>
    rw [Nat.pow_succ, Nat.mul_div_cancel _ (by omega)] at h2
    rw [Nat.pow_succ] at h4
    exact ⟨k, rfl, h2, by omega⟩
theorem RR.yes {n k r b : Nat} (h : RR n k r b) (hb : 0 < b) (hy : (r + b) * (r + b) ≤ n) : RR n (k - 1) (r + b) (b / 2) := by
  obtain ⟨j, rfl, rfl, h4⟩ := h.next hb
  obtain ⟨h1, h2, h3, h5⟩ := h
  unfold rtGo at h3
  rw [if_pos hy] at h3
  exact ⟨by omega, rfl, h3, by simp only [Nat.add_sub_cancel]; omega⟩
theorem RR.no {n k r b : Nat} (h : RR n k r b) (hb : 0 < b) (hy : ¬ (r + b) * (r + b) ≤ n) : RR n (k - 1) r (b / 2) := by
  obtain ⟨j, rfl, rfl, h4⟩ := h.next hb
  obtain ⟨h1, h2, h3, h5⟩ := h
  unfold rtGo at h3
  rw [if_neg hy] at h3
  exact ⟨by omega, rfl, h3, by simp only [Nat.add_sub_cancel]; omega⟩
def RC (n : Nat) (k r b : Nat) : Prop := k ≤ 21 ∧ b = 2 ^ k / 2 ∧ cbGo k n r = cb n ∧ r + 2 ^ k ≤ 2097152
theorem RC.zero {n k r : Nat} (h : RC n k r 0) : r = cb n := by
  obtain ⟨h1, h2, h3, h4⟩ := h
  cases k with
  | zero => exact h3
  | succ k => rw [Nat.pow_succ, Nat.mul_div_cancel _ (by omega)] at h2; have := Nat.two_pow_pos k; omega
theorem RC.next {n k r b : Nat} (h : RC n k r b) (hb : 0 < b) : ∃ j, k = j + 1 ∧ b = 2 ^ j ∧ r + 2 * b ≤ 2097152 := by
  obtain ⟨h1, h2, h3, h4⟩ := h
  cases k with
  | zero => simp at h2; omega
  | succ k =>
    rw [Nat.pow_succ, Nat.mul_div_cancel _ (by omega)] at h2
    rw [Nat.pow_succ] at h4
    exact ⟨k, rfl, h2, by omega⟩
theorem RC.yes {n k r b : Nat} (h : RC n k r b) (hb : 0 < b) (hy : cube (r + b) ≤ n) : RC n (k - 1) (r + b) (b / 2) := by
  obtain ⟨j, rfl, rfl, h4⟩ := h.next hb
  obtain ⟨h1, h2, h3, h5⟩ := h
  unfold cbGo at h3
  rw [if_pos hy] at h3
  exact ⟨by omega, rfl, h3, by simp only [Nat.add_sub_cancel]; omega⟩
theorem RC.no {n k r b : Nat} (h : RC n k r b) (hb : 0 < b) (hy : ¬ cube (r + b) ≤ n) : RC n (k - 1) r (b / 2) := by
  obtain ⟨j, rfl, rfl, h4⟩ := h.next hb
  obtain ⟨h1, h2, h3, h5⟩ := h
  unfold cbGo at h3
  rw [if_neg hy] at h3
  exact ⟨by omega, rfl, h3, by simp only [Nat.add_sub_cancel]; omega⟩
set_option maxHeartbeats 1000000 in
theorem rCube_any (n : Int) (w : World) : Calls Try.prog 90 #[.int .i64 n] w fun e w' => e = .returned (.tuple #[.int .i64 (onOk (rtE n) (cb n.toNat : Nat)), .int .i64 (rtE n)]) ∧ w' = w := by
  rcases rtE_cases n with ⟨h, e⟩ | ⟨h1, h, e⟩ | ⟨h1, h, e⟩
  · have V := Lib.hid (show onOk (rtE n) (cb n.toNat : Nat) = 0 by rw [e]; rfl)
    have E := Lib.hid e; clear e
    go_enter Try.func90, Try.ntmps90
    go_wp2
    go_ret2
    exact ⟨ret2_int V.out.symm E.out.symm, rfl⟩
  · have V := Lib.hid (show onOk (rtE n) (cb n.toNat : Nat) = 0 by rw [e]; rfl)
    have E := Lib.hid e; clear e
    go_enter Try.func90, Try.ntmps90
    go_wp2
    go_ret2
    exact ⟨ret2_int V.out.symm E.out.symm, rfl⟩
  · have V := Lib.hid (show onOk (rtE n) (cb n.toNat : Nat) = (cb n.toNat : Nat) by rw [e]; rfl)
    have E := Lib.hid e; clear e
    obtain ⟨m, rfl⟩ : ∃ m : Nat, n = m := ⟨n.toNat, by omega⟩
    rw [Int.toNat_natCast] at V ⊢
    have Hs := Lib.hid (show RC m 21 0 1048576 from ⟨Nat.le_refl _, rfl, rfl, by omega⟩)
    go_enter Try.func90, Try.ntmps90
    go_wp2
    go_loop [4, 5] (fun rv bv => ∃ k r b : Nat, rv = .int .i64 r ∧ bv = .int .i64 b ∧ RC m k r b) (fun _ bv => (intOf bv).toNat)
    case atStart => exact ⟨21, 0, 1048576, rfl, rfl, Hs.out⟩
    case round =>
      obtain ⟨k, r, b, rfl, rfl, hr⟩ := hrel
      by_cases hb : 0 < b
      · have hx : r + 2 * b ≤ 2097152 := by obtain ⟨_, _, _, hx⟩ := hr.next hb; exact hx
        have Yes := Lib.hid (hr.yes hb); have No := Lib.hid (hr.no hb); clear hr
        obtain ⟨x, ex⟩ : ∃ x : Nat, r + b = x := ⟨_, rfl⟩
        have w1 : IntKind.i64.wrap ((r : Int) + b) = (x : Int) := by rw [← ex]; exact IntWalk.i64_in _ (by omega)
        have w2 : ((b : Int) / 2) = ((b / 2 : Nat) : Int) := by omega
        rw [ex] at Yes No
        have hxl : x < 2097152 := by omega
        have W2 := Lib.hid w2; clear w2
        have q := cu_le (x := x) (by omega) (by omega)
        have q2 : (x : Int) * x * x < 9223372036854775808 := by
          have := Int.mul_le_mul (Int.mul_le_mul (show (x : Int) ≤ 2097151 by omega) (show (x : Int) ≤ 2097151 by omega) (by omega) (by omega)) (show (x : Int) ≤ 2097151 by omega) (by omega) (by omega)
          omega
        have w3 : IntKind.i64.wrap ((x : Int) * x) = (x : Int) * x := IntWalk.i64_in _ (by omega)
        have w4 : IntKind.i64.wrap ((x : Int) * x * x) = (x : Int) * x * x := IntWalk.i64_in _ (by omega)
        by_cases c2 : cube x ≤ m
        · have t2 : decide ((x : Int) * x * x ≤ (m : Int)) = true := decide_eq_true (by unfold cube at c2; exact_mod_cast c2)
          have Y := Lib.hid (Yes.out c2)
          clear Yes No c2 ex
          go_wp2
          go_round
          case rel => exact ⟨k - 1, x, b / 2, rfl, by rw [W2.out], Y.out⟩
          case measure => simp [intOf]; omega
        · have t2 : decide ((x : Int) * x * x ≤ (m : Int)) = false := decide_eq_false (fun c => c2 (by unfold cube; exact_mod_cast c))
          have Y := Lib.hid (No.out c2)
          clear Yes No c2 ex
          go_wp2
          go_round
          case rel => exact ⟨k - 1, r, b / 2, rfl, by rw [W2.out], Y.out⟩
          case measure => simp [intOf]; omega
      · obtain rfl : b = 0 := by omega
        have Hr := Lib.hid hr.zero; clear hr
        go_wp2
        go_ret2
        exact ⟨ret2_int (by rw [V.out, Hr.out]) E.out.symm, rfl⟩
end Go.Proofs.Yteioaeceobgbdaa
