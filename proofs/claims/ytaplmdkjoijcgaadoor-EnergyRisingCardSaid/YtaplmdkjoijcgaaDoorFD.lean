/- Floor, Round, Clip of the program and of the reference -/
import Derived.Test.YtaplmdkjoijcgaaDoorFC
namespace Go.Proofs.YtaplmdkjoijcgaaDoor
open Go.RowKit

def ratE (a b : Int) : Int := if b < 1 ∨ 1099511627776 < b then 1 else if a < -1152921504606846976 ∨ 1152921504606846976 < a then 6 else 0
/-- v where there is no error, else 0 -/
def onOk (e v : Int) : Int := if e = 0 then v else 0
theorem ret2_int {k m : IntKind} {a b c d : Int} (h : a = b) (h' : c = d) : Ending.returned (.tuple #[.int k a, .int m c]) = .returned (.tuple #[.int k b, .int m d]) := by rw [h, h']
theorem ratE_cases (a b : Int) : (b < 1 ∧ ratE a b = 1) ∨ (¬ b < 1 ∧ 1099511627776 < b ∧ ratE a b = 1) ∨ (¬ b < 1 ∧ ¬ 1099511627776 < b ∧ a < -1152921504606846976 ∧ ratE a b = 6) ∨
    (¬ b < 1 ∧ ¬ 1099511627776 < b ∧ ¬ a < -1152921504606846976 ∧ 1152921504606846976 < a ∧ ratE a b = 6) ∨ (¬ b < 1 ∧ ¬ 1099511627776 < b ∧ ¬ a < -1152921504606846976 ∧ ¬ 1152921504606846976 < a ∧ ratE a b = 0) := by
  unfold ratE
  split
  · omega
  · split <;> omega
theorem ratE_ok {a b : Int} (h : ratE a b = 0) : 1 ≤ b ∧ b ≤ 1099511627776 ∧ -1152921504606846976 ≤ a ∧ a ≤ 1152921504606846976 := by
  rcases ratE_cases a b with h' | h' | h' | h' | h' <;> omega
theorem ratE_bad {a b : Int} (h : ¬ ratE a b = 0) : b < 1 ∨ 1099511627776 < b ∨ a < -1152921504606846976 ∨ 1152921504606846976 < a := by
  rcases ratE_cases a b with h' | h' | h' | h' | h' <;> omega

theorem mul_ediv_in {a b : Int} (hb : 1 ≤ b) : b * (a / b) ≤ a ∧ a < b * (a / b) + b := by
  have e := Int.mul_ediv_add_emod a b
  have e2 := Int.emod_nonneg a (show b ≠ 0 by omega)
  have e3 := Int.emod_lt_of_pos a (show 0 < b by omega)
  omega
theorem rnd_up {a b : Int} (hb : 1 ≤ b) (h : b - (a - a / b * b) ≤ a - a / b * b) : a / b + 1 = rnd a b := by
  have g := mul_ediv_in (a := a) hb
  rw [Int.mul_comm b] at g
  unfold rnd
  generalize hq : a / b = q at *
  refine (ediv_of (r := 2 * a + b - 2 * b * (q + 1)) (by omega) (by omega) ?_ ?_).symm
  all_goals
    have : 2 * b * (q + 1) = 2 * (q * b) + 2 * b := by rw [Int.mul_add, Int.mul_one, Int.mul_assoc, Int.mul_comm b q]
    omega
theorem rnd_down {a b : Int} (hb : 1 ≤ b) (h : ¬ b - (a - a / b * b) ≤ a - a / b * b) : a / b = rnd a b := by
  have g := mul_ediv_in (a := a) hb
  rw [Int.mul_comm b] at g
  unfold rnd
  generalize hq : a / b = q at *
  refine (ediv_of (r := 2 * a + b - 2 * b * q) (by omega) (by omega) ?_ ?_).symm
  all_goals
    have : 2 * b * q = 2 * (q * b) := by rw [Int.mul_assoc, Int.mul_comm b q]
    omega
def clipE (l h : Int) : Int := if h < l then 1 else 0
def clipV (v l h : Int) : Int := if h < l then 0 else if h < v then h else if v < l then l else v
end Go.Proofs.YtaplmdkjoijcgaaDoor
