/- Exp of the reference -/
import Derived.Test.YtpmhioaoniijbaaDoorFO
namespace Go.Proofs.YtpmhioaoniijbaaDoor
open Go.RowKit

theorem i64_and1 (n : Int) : Go.bits .and .i64 n 1 = n % 2 := by
  have h1 : (BitVec.ofInt 64 1).toNat = 2 ^ 1 - 1 := by decide
  have key : (BitVec.ofInt 64 n &&& BitVec.ofInt 64 1).toNat = (n % ((2 ^ 64 : Nat) : Int)).toNat % 2 ^ 1 := by
    rw [BitVec.toNat_and, BitVec.toNat_ofInt, h1, Nat.and_two_pow_sub_one_eq_mod]
  show IntKind.i64.wrap ((BitVec.ofInt 64 n &&& BitVec.ofInt 64 1).toNat : Nat) = n % 2
  rw [key, IntKind.wrap_i64]
  omega
theorem rtE_ok {n : Int} (h0 : 0 ≤ n) (h1 : n ≤ 4611686018427387904) : rtE n = 0 := by
  have := rtE_cases n
  omega
theorem rRoot_at (x : Int) (N c : Nat) (w : World) (hx : x.toNat = N) (h0 : 0 ≤ x) (h1 : x ≤ 4611686018427387904) (hr : rt N = c) :
    Calls Tryd.prog 34 #[.int .i64 x] w fun e w' => e = .returned (.tuple #[.int .i64 c, .int .i64 0]) ∧ w' = w := by
  have h := rRoot_any x w
  rw [rtE_ok h0 h1, hx, hr] at h
  exact h
theorem and_bit (x : Nat) (hx : x ≤ 1152921504606846976) : Go.bits .and .i64 (x : Int) 1 = ((x % 2 : Nat) : Int) := by
  rw [i64_and1]; omega
def exE (q : Int) : Int := if q < 0 ∨ 15871 < q then 6 else 0
theorem exE_cases (q : Int) : (q < 0 ∧ exE q = 6) ∨ (¬ q < 0 ∧ 15871 < q ∧ exE q = 6) ∨ (¬ q < 0 ∧ ¬ 15871 < q ∧ exE q = 0) := by
  unfold exE; split <;> omega
/-- after k bits of j -/
def EI (j k m c : Nat) : Prop := k ≤ 8 ∧ exM j k = m ∧ c8 k = c ∧ InM m ∧ 1073741824 ≤ c ∧ c ≤ 2147483648
theorem EI.start (j : Nat) : EI j 0 1073741824 2147483648 := ⟨by omega, rfl, rfl, ⟨by omega, by omega⟩, by omega, by omega⟩
theorem EI.one {j k m c : Nat} (h : EI j k m c) (hj : j < 256) (hk : k < 8) (hb : j / 2 ^ (7 - k) % 2 = 1) : EI j (k + 1) (m * c8 (k + 1) / 1073741824) (c8 (k + 1)) := by
  obtain ⟨h1, rfl, h3, h4⟩ := h
  have e : exM j (k + 1) = exM j k * c8 (k + 1) / 1073741824 := by rw [exM, if_pos hb]
  have a := exM_in j (k + 1) hj (by omega)
  rw [e] at a
  exact ⟨by omega, e, rfl, a, (c8_le (k + 1) (by omega)).1, (c8_le (k + 1) (by omega)).2⟩
theorem EI.zero {j k m c : Nat} (h : EI j k m c) (hk : k < 8) (hb : ¬ j / 2 ^ (7 - k) % 2 = 1) : EI j (k + 1) m (c8 (k + 1)) := by
  obtain ⟨h1, rfl, h3, h4⟩ := h
  have e : exM j (k + 1) = exM j k := by rw [exM, if_neg hb]
  exact ⟨by omega, e, rfl, h4.1, (c8_le (k + 1) (by omega)).1, (c8_le (k + 1) (by omega)).2⟩
theorem EI.root {j k m c : Nat} (h : EI j k m c) (hk : k < 8) : rt (c * 1073741824) = c8 (k + 1) := by
  obtain ⟨h1, h2, rfl, h4⟩ := h
  exact c8_root k hk
end Go.Proofs.YtpmhioaoniijbaaDoor
