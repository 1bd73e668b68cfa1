/- the search: roots, cubes, the greatest power of two -/
import Derived.Test.YtopjjdfnnjgnlaaFD
namespace Go.Proofs.Ytopjjdfnnjgnlaa
open Go.RowKit

def sqI (x n : Int) : Bool := decide (x * x ≤ n)
theorem sq_le {x : Int} (h0 : 0 ≤ x) (h1 : x ≤ 2147483648) : 0 ≤ x * x ∧ x * x ≤ 4611686018427387904 := by
  have a := Int.mul_nonneg h0 h0
  have b := Int.mul_le_mul h1 h1 h0 (by omega)
  omega
def RtI (n lo hi : Int) : Prop := 0 ≤ lo ∧ lo ≤ hi ∧ hi ≤ 2147483648 ∧ lo * lo ≤ n ∧ n < (hi + 1) * (hi + 1)
theorem rtI_end {n lo : Int} (h : RtI n lo lo) : lo = (rt n.toNat : Nat) := by
  obtain ⟨h0, _, h1, h2, h3⟩ := h
  have hs := sq_le h0 h1
  obtain ⟨k, rfl⟩ : ∃ k : Nat, lo = k := ⟨lo.toNat, by omega⟩
  obtain ⟨m, rfl⟩ : ∃ m : Nat, n = m := ⟨n.toNat, by omega⟩
  have h2' : k * k ≤ m := by exact_mod_cast h2
  have h3' : m < (k + 1) * (k + 1) := by exact_mod_cast h3
  have hb : m < 2 ^ 64 := by
    have := sq_mono (show k + 1 ≤ 2147483649 by omega)
    omega
  rw [Int.toNat_natCast, rt_eq hb h2' h3']
/-! cubes: in 64 bits without sign -/
def cuI (x n : Int) : Bool := decide (x * x * x ≤ n)
theorem cu_le {x : Int} (h0 : 0 ≤ x) (h1 : x ≤ 2097152) : 0 ≤ x * x ∧ x * x ≤ 4398046511104 ∧ 0 ≤ x * x * x ∧ x * x * x ≤ 9223372036854775808 := by
  have a := Int.mul_nonneg h0 h0
  have b := Int.mul_le_mul h1 h1 h0 (by omega)
  have c := Int.mul_nonneg a h0
  have d := Int.mul_le_mul b h1 h0 (by omega)
  omega
def CuI (n lo hi : Int) : Prop := 0 ≤ lo ∧ lo ≤ hi ∧ hi ≤ 2097152 ∧ lo * lo * lo ≤ n ∧ n < (hi + 1) * (hi + 1) * (hi + 1)
theorem cuI_end {n lo : Int} (hn : n ≤ 4611686018427387904) (h : CuI n lo lo) : lo = (cb n.toNat : Nat) := by
  obtain ⟨h0, _, h1, h2, h3⟩ := h
  have hs := cu_le h0 h1
  obtain ⟨k, rfl⟩ : ∃ k : Nat, lo = k := ⟨lo.toNat, by omega⟩
  obtain ⟨m, rfl⟩ : ∃ m : Nat, n = m := ⟨n.toNat, by omega⟩
  have h2' : k * k * k ≤ m := by exact_mod_cast h2
  have h3' : m < (k + 1) * (k + 1) * (k + 1) := by exact_mod_cast h3
  rw [Int.toNat_natCast, cb_eq (by omega) h2' h3']
def rtE (n : Int) : Int := if n < 0 ∨ 4611686018427387904 < n then 6 else 0
theorem rtE_cases (n : Int) : (n < 0 ∧ rtE n = 6) ∨ (¬ n < 0 ∧ 4611686018427387904 < n ∧ rtE n = 6) ∨ (¬ n < 0 ∧ ¬ 4611686018427387904 < n ∧ rtE n = 0) := by
  unfold rtE; split <;> omega
def hasB (n : Int) : Bool := decide (rtE n = 0)
end Go.Proofs.Ytopjjdfnnjgnlaa
