/- Floor, Round, Clip of the program and of the reference -/
import Derived.Test.YteioaeceobgbdaaFC
namespace Go.Proofs.Yteioaeceobgbdaa
open Go.RowKit

def ratE (a b : Int) : Int := if b < 1 ∨ 1099511627776 < b then 1 else if a < -1152921504606846976 ∨ 1152921504606846976 < a then 6 else 0
/-- v where there is no error, else 0 -/
def onOk (e v : Int) : Int := if e = 0 then v else 0
theorem ret2_int {k m : IntKind} {a b c d : Int} (h : a = b) (h' : c = d) : Ending.returned (.tuple #[.int k a, .int m c]) = .returned (.tuple #[.int k b, .int m d]) := by rw [h, h']
theorem ratE_cases (a b : Int) : (b < 1 ∧ ratE a b = 1) ∨ (¬ b < 1 ∧ 1099511627776 < b ∧ ratE a b = 1) ∨ (¬ b < 1 ∧ ¬ 1099511627776 < b ∧ a < -1152921504606846976 ∧ ratE a b = 6) ∨
    (¬ b < 1 ∧ ¬ 1099511627776 < b ∧ ¬ a < -1152921504606846976 ∧ 1152921504606846976 < a ∧ ratE a b = 6) ∨ (¬ b < 1 ∧ ¬ 1099511627776 < b ∧ ¬ a < -1152921504606846976 ∧ ¬ 1152921504606846976 < a ∧ ratE a b = 0) := by
  unfold ratE
  split
  · omega
  · split <;> omega
theorem ratE_ok {a b : Int} (h : ratE a b = 0) : 1 ≤ b ∧ b ≤ 1099511627776 ∧ -1152921504606846976 ≤ a ∧ a ≤ 1152921504606846976 := by
  rcases ratE_cases a b with h' | h' | h' | h' | h' <;> omega
theorem ratE_bad {a b : Int} (h : ¬ ratE a b = 0) : b < 1 ∨ 1099511627776 < b ∨ a < -1152921504606846976 ∨ 1152921504606846976 < a := by
  rcases ratE_cases a b with h' | h' | h' | h' | h' <;> omega

theorem checkRatio_any (a b : Int) (w : World) : Calls Try.prog 120 #[.int .i64 a, .int .i64 b] w fun e w' => e = .returned (.int .i64 (ratE a b)) ∧ w' = w := by
  rcases ratE_cases a b with ⟨h, e⟩ | ⟨h1, h, e⟩ | ⟨h1, h2, h, e⟩ | ⟨h1, h2, h3, h, e⟩ | ⟨h1, h2, h3, h4, e⟩
  all_goals
    have E := Lib.hid e; clear e
    go_enter Try.func120, Try.ntmps120
    go_wp2
    go_ret
    exact ⟨ret_int E.out.symm, rfl⟩

theorem mul_ediv_in {a b : Int} (hb : 1 ≤ b) : b * (a / b) ≤ a ∧ a < b * (a / b) + b := by
  have e := Int.mul_ediv_add_emod a b
  have e2 := Int.emod_nonneg a (show b ≠ 0 by omega)
  have e3 := Int.emod_lt_of_pos a (show 0 < b by omega)
  omega
theorem rnd_up {a b : Int} (hb : 1 ≤ b) (h : b - (a - a / b * b) ≤ a - a / b * b) : a / b + 1 = rnd a b := by
  have g := mul_ediv_in (a := a) hb
  rw [Int.mul_comm b] at g
  unfold rnd
  generalize hq : a / b = q at *
  refine (ediv_of (r := 2 * a + b - 2 * b * (q + 1)) (by omega) (by omega) ?_ ?_).symm
  all_goals
    have : 2 * b * (q + 1) = 2 * (q * b) + 2 * b := by rw [Int.mul_add, Int.mul_one, Int.mul_assoc, Int.mul_comm b q]
    omega
theorem rnd_down {a b : Int} (hb : 1 ≤ b) (h : ¬ b - (a - a / b * b) ≤ a - a / b * b) : a / b = rnd a b := by
  have g := mul_ediv_in (a := a) hb
  rw [Int.mul_comm b] at g
  unfold rnd
  generalize hq : a / b = q at *
  refine (ediv_of (r := 2 * a + b - 2 * b * q) (by omega) (by omega) ?_ ?_).symm
  all_goals
    have : 2 * b * q = 2 * (q * b) := by rw [Int.mul_assoc, Int.mul_comm b q]
    omega
theorem near_any (a b : Int) (w : World) (hb : 1 ≤ b) (hb2 : b ≤ 1152921504606846976) (h1 : -2305843009213693952 ≤ a) (h2 : a ≤ 2305843009213693952) :
    Calls Try.prog 123 #[.int .i64 a, .int .i64 b] w fun e w' => e = .returned (.int .i64 (rnd a b)) ∧ w' = w := by
  have g := mul_ediv_in (a := a) hb
  rw [Int.mul_comm b] at g
  have gi := ediv_in (a := a) hb (by omega) (by omega)
  have up := rnd_up (a := a) hb
  have dn := rnd_down (a := a) hb
  obtain ⟨q, hq⟩ : ∃ q, a / b = q := ⟨_, rfl⟩
  have w1 : IntKind.i64.wrap (a / b * b) = a / b * b := IntWalk.i64_in _ (by omega)
  have w2 : IntKind.i64.wrap (a - a / b * b) = a - a / b * b := IntWalk.i64_in _ (by omega)
  have w3 : IntKind.i64.wrap (b - (a - a / b * b)) = b - (a - a / b * b) := IntWalk.i64_in _ (by omega)
  have w4 : IntKind.i64.wrap (a / b + 1) = a / b + 1 := IntWalk.i64_in _ (by omega)
  rw [hq] at w1 w2 w3 w4 up dn
  have Hq := Lib.hid hq; clear hq
  have Hup := Lib.hid up; clear up
  have Hdn := Lib.hid dn; clear dn
  clear g gi
  by_cases t : b - (a - q * b) ≤ a - q * b
  · have T : decide (b - (a - q * b) ≤ a - q * b) = true := decide_eq_true t
    have Ht := Lib.hid t; clear t
    go_enter Try.func123, Try.ntmps123
    go_wp2_with fail
    refine (down_any a b _ (by omega) (by omega) (by omega) (by omega)).mono ?_
    rintro e w' ⟨rfl, rfl⟩
    rw [Hq.out]
    go_wp2
    go_ret
    exact ⟨ret_int (Hup.out Ht.out), rfl⟩
  · have T : decide (b - (a - q * b) ≤ a - q * b) = false := decide_eq_false t
    have Ht := Lib.hid t; clear t
    go_enter Try.func123, Try.ntmps123
    go_wp2_with fail
    refine (down_any a b _ (by omega) (by omega) (by omega) (by omega)).mono ?_
    rintro e w' ⟨rfl, rfl⟩
    rw [Hq.out]
    go_wp2
    go_ret
    exact ⟨ret_int (Hdn.out Ht.out), rfl⟩

theorem Round_any (a b : Int) (w : World) : Calls Try.prog 92 #[.int .i64 a, .int .i64 b] w fun e w' => e = .returned (.tuple #[.int .i64 (onOk (ratE a b) (rnd a b)), .int .i64 (ratE a b)]) ∧ w' = w := by
  by_cases h : ratE a b = 0
  · have g := ratE_ok h
    have V := Lib.hid (show onOk (ratE a b) (rnd a b) = rnd a b by rw [h]; rfl)
    have H := Lib.hid h; clear h
    go_enter Try.func92, Try.ntmps92
    go_wp2_with fail
    refine (checkRatio_any a b _).mono ?_
    rintro e w' ⟨rfl, rfl⟩
    rw [H.out]
    go_wp2_with fail
    refine (round_any a b _ (by omega) (by omega) (by omega) (by omega)).mono ?_
    rintro e w' ⟨rfl, rfl⟩
    go_wp2
    go_ret2
    exact ⟨ret2_int V.out.symm H.out.symm, rfl⟩
  · have V := Lib.hid (show onOk (ratE a b) (rnd a b) = 0 from if_neg h)
    have t : (ratE a b != 0) = true := by simpa using h
    have H := Lib.hid h; clear h
    go_enter Try.func92, Try.ntmps92
    go_wp2_with fail
    refine (checkRatio_any a b _).mono ?_
    rintro e w' ⟨rfl, rfl⟩
    go_wp2
    go_ret2
    exact ⟨ret2_int V.out.symm rfl, rfl⟩

def clipE (l h : Int) : Int := if h < l then 1 else 0
def clipV (v l h : Int) : Int := if h < l then 0 else if h < v then h else if v < l then l else v
end Go.Proofs.Yteioaeceobgbdaa
