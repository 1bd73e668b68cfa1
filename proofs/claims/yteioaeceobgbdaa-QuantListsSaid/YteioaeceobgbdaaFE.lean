/- the search: roots, cubes, the greatest power of two -/
import Derived.Test.YteioaeceobgbdaaFD
namespace Go.Proofs.Yteioaeceobgbdaa
open Go.RowKit

def sqI (x n : Int) : Bool := decide (x * x ≤ n)
theorem sq_le {x : Int} (h0 : 0 ≤ x) (h1 : x ≤ 2147483648) : 0 ≤ x * x ∧ x * x ≤ 4611686018427387904 := by
  have a := Int.mul_nonneg h0 h0
  have b := Int.mul_le_mul h1 h1 h0 (by omega)
  omega
def RtI (n lo hi : Int) : Prop := 0 ≤ lo ∧ lo ≤ hi ∧ hi ≤ 2147483648 ∧ lo * lo ≤ n ∧ n < (hi + 1) * (hi + 1)
theorem rtI_end {n lo : Int} (h : RtI n lo lo) : lo = (rt n.toNat : Nat) := by
  obtain ⟨h0, _, h1, h2, h3⟩ := h
  have hs := sq_le h0 h1
  obtain ⟨k, rfl⟩ : ∃ k : Nat, lo = k := ⟨lo.toNat, by omega⟩
  obtain ⟨m, rfl⟩ : ∃ m : Nat, n = m := ⟨n.toNat, by omega⟩
  have h2' : k * k ≤ m := by exact_mod_cast h2
  have h3' : m < (k + 1) * (k + 1) := by exact_mod_cast h3
  have hb : m < 2 ^ 64 := by
    have := sq_mono (show k + 1 ≤ 2147483649 by omega)
    omega
  rw [Int.toNat_natCast, rt_eq hb h2' h3']
/-! cubes: in 64 bits without sign -/
def cuI (x n : Int) : Bool := decide (x * x * x ≤ n)
theorem cu_le {x : Int} (h0 : 0 ≤ x) (h1 : x ≤ 2097152) : 0 ≤ x * x ∧ x * x ≤ 4398046511104 ∧ 0 ≤ x * x * x ∧ x * x * x ≤ 9223372036854775808 := by
  have a := Int.mul_nonneg h0 h0
  have b := Int.mul_le_mul h1 h1 h0 (by omega)
  have c := Int.mul_nonneg a h0
  have d := Int.mul_le_mul b h1 h0 (by omega)
  omega
theorem cube1_any (x n : Int) (a : Addr) (w : World) (hc : w.cell? a = some (.int .i64 n)) (h0 : 0 ≤ x) (h1 : x ≤ 2097152) (hn0 : 0 ≤ n) (hn1 : n ≤ 4611686018427387904) :
    Calls Try.prog 119 #[.int .u64 x, .pointer (some a)] w fun e w' => e = .returned (.bool (cuI x n)) ∧ w' = w := by
  have b := cu_le h0 h1
  have w1 : IntKind.u64.wrap (x * x) = x * x := by rw [IntKind.wrap_u64]; omega
  have w2 : IntKind.u64.wrap (x * x * x) = x * x * x := by rw [IntKind.wrap_u64]; omega
  have w3 : IntKind.u64.wrap n = n := by rw [IntKind.wrap_u64]; omega
  go_enter Try.func119, Try.ntmps119
  go_wp2
  go_ret
  exact ⟨rfl, rfl⟩
def CuI (n lo hi : Int) : Prop := 0 ≤ lo ∧ lo ≤ hi ∧ hi ≤ 2097152 ∧ lo * lo * lo ≤ n ∧ n < (hi + 1) * (hi + 1) * (hi + 1)
theorem cuI_end {n lo : Int} (hn : n ≤ 4611686018427387904) (h : CuI n lo lo) : lo = (cb n.toNat : Nat) := by
  obtain ⟨h0, _, h1, h2, h3⟩ := h
  have hs := cu_le h0 h1
  obtain ⟨k, rfl⟩ : ∃ k : Nat, lo = k := ⟨lo.toNat, by omega⟩
  obtain ⟨m, rfl⟩ : ∃ m : Nat, n = m := ⟨n.toNat, by omega⟩
  have h2' : k * k * k ≤ m := by exact_mod_cast h2
  have h3' : m < (k + 1) * (k + 1) * (k + 1) := by exact_mod_cast h3
  rw [Int.toNat_natCast, cb_eq (by omega) h2' h3']
set_option maxHeartbeats 1000000 in
theorem greatest_cube (n : Int) (a : Addr) (w : World) (hc : w.cell? a = some (.int .i64 n)) (h0 : 0 ≤ n) (h1 : n ≤ 4611686018427387904) :
    Calls Try.prog 118 #[.int .u64 0, .int .u64 2097152, .func (.func 119) #[] #[.pointer (some a)]] w fun e w' => e = .returned (.int .u64 (cb n.toNat : Nat)) ∧ w' = w := by
  have st : CuI n 0 2097152 := ⟨by omega, by omega, by omega, by omega, by omega⟩
  have Hst := Lib.hid st; clear st
  go_enter Try.func118, Try.ntmps118
  go_wp2_with fail
  go_loop [0, 1] (fun l h => ∃ lo hi : Int, l = .int .u64 lo ∧ h = .int .u64 hi ∧ CuI n lo hi) (fun l h => (intOf h - intOf l).toNat)
  case atStart => exact ⟨0, 2097152, rfl, rfl, Hst.out⟩
  case round =>
    obtain ⟨lo, hi, rfl, rfl, hr⟩ := hrel
    have b := hr
    obtain ⟨b0, b1, b2, b3, b4⟩ := b
    by_cases hlt : lo < hi
    · obtain ⟨m, hm⟩ : ∃ m, hi - (hi - lo) / 2 = m := ⟨_, rfl⟩
      have m1 : lo < m ∧ m ≤ hi := by omega
      have w1 : IntKind.u64.wrap (hi - lo) = hi - lo := by rw [IntKind.wrap_u64]; omega
      have w2 : IntKind.u64.wrap (hi - (hi - lo) / 2) = m := by rw [hm, IntKind.wrap_u64]; omega
      have w3 : IntKind.u64.wrap (m - 1) = m - 1 := by rw [IntKind.wrap_u64]; omega
      have Hm := Lib.hid hm; clear hm
      cases hs : cuI m n with
      | true =>
        have Hb := Lib.hid (show CuI n m hi from ⟨by omega, by omega, b2, of_decide_eq_true hs, b4⟩)
        have Hs := Lib.hid hs; clear hs b3 b4 hr
        go_wp2_with fail
        refine (cube1_any m n a _ hc (by omega) (by omega) h0 h1).mono ?_
        rintro e w' ⟨rfl, rfl⟩
        rw [Hs.out]
        go_wp2
        go_round
        case rel => exact ⟨m, hi, rfl, rfl, Hb.out⟩
        case measure => simp [intOf]; omega
      | false =>
        have Hb := Lib.hid (show CuI n lo (m - 1) from ⟨by omega, by omega, by omega, b3, by rw [Int.sub_add_cancel]; have := of_decide_eq_false hs; omega⟩)
        have Hs := Lib.hid hs; clear hs b3 b4 hr
        go_wp2_with fail
        refine (cube1_any m n a _ hc (by omega) (by omega) h0 h1).mono ?_
        rintro e w' ⟨rfl, rfl⟩
        rw [Hs.out]
        go_wp2
        go_round
        case rel => exact ⟨lo, m - 1, rfl, rfl, Hb.out⟩
        case measure => simp [intOf]; omega
    · obtain rfl : lo = hi := by omega
      have He := Lib.hid (cuI_end h1 hr)
      clear b3 b4 hr
      go_wp2_with fail
      go_ret
      exact ⟨ret_int He.out, rfl⟩
def rtE (n : Int) : Int := if n < 0 ∨ 4611686018427387904 < n then 6 else 0
theorem rtE_cases (n : Int) : (n < 0 ∧ rtE n = 6) ∨ (¬ n < 0 ∧ 4611686018427387904 < n ∧ rtE n = 6) ∨ (¬ n < 0 ∧ ¬ 4611686018427387904 < n ∧ rtE n = 0) := by
  unfold rtE; split <;> omega
def hasB (n : Int) : Bool := decide (rtE n = 0)
theorem hasRoot_any (n : Int) (w : World) : Calls Try.prog 117 #[.int .i64 n] w fun e w' => e = .returned (.bool (hasB n)) ∧ w' = w := by
  rcases rtE_cases n with ⟨h, e⟩ | ⟨h1, h, e⟩ | ⟨h1, h, e⟩
  · have E := Lib.hid (show hasB n = false from decide_eq_false (by omega))
    clear e
    go_enter Try.func117, Try.ntmps117
    go_wp2
    go_ret
    exact ⟨by rw [E.out]; rfl, rfl⟩
  · have E := Lib.hid (show hasB n = false from decide_eq_false (by omega))
    have t : decide (n ≤ 4611686018427387904) = false := decide_eq_false (by omega)
    clear e
    go_enter Try.func117, Try.ntmps117
    go_wp2
    go_ret
    exact ⟨by rw [E.out]; rfl, rfl⟩
  · have E := Lib.hid (show hasB n = true from decide_eq_true (by omega))
    clear e
    go_enter Try.func117, Try.ntmps117
    go_wp2
    go_ret
    exact ⟨by rw [E.out]; rfl, rfl⟩
theorem Cube_any (n : Int) (w : World) : Calls Try.prog 89 #[.int .i64 n] w fun e w' => e = .returned (.tuple #[.int .i64 (onOk (rtE n) (cb n.toNat : Nat)), .int .i64 (rtE n)]) ∧ Upd NoB w w' := by
  have g := rtE_cases n
  have U := Lib.hid ((Upd.refl NoB w).alloc (.cells #[.int .i64 n] 3))
  have hc : (w.alloc (.cells #[.int .i64 n] 3)).cell? ⟨w.heap.size, 0, none⟩ = some (.int .i64 n) := by simp
  have Hc := Lib.hid hc; clear hc
  by_cases h : rtE n = 0
  · have V := Lib.hid (show onOk (rtE n) (cb n.toNat : Nat) = (cb n.toNat : Nat) by rw [h]; rfl)
    have E := Lib.hid h
    have B := Lib.hid (show hasB n = true from decide_eq_true h)
    have h0 : 0 ≤ n := by omega
    have h1 : n ≤ 4611686018427387904 := by omega
    have hb := cb_lt (n := n.toNat) (by omega)
    obtain ⟨c, e0⟩ : ∃ c, cb n.toNat = c := ⟨_, rfl⟩
    have hb2 : c < 2097152 := by rw [← e0]; exact hb
    have C := Lib.hid e0; clear e0 hb
    clear h g
    go_enter Try.func89, Try.ntmps89
    go_wp2_with fail
    refine (hasRoot_any n _).mono ?_
    rintro e w' ⟨rfl, rfl⟩
    rw [B.out]
    go_wp2_with fail
    refine (greatest_cube n _ _ Hc.out h0 h1).mono ?_
    rintro e w' ⟨rfl, rfl⟩
    rw [C.out]
    go_wp2
    go_ret2
    exact ⟨ret2_int (by rw [V.out, C.out]) E.out.symm, U.out⟩
  · have V := Lib.hid (show onOk (rtE n) (cb n.toNat : Nat) = 0 from if_neg h)
    have E := Lib.hid (show rtE n = 6 by omega)
    have B := Lib.hid (show hasB n = false from decide_eq_false h)
    clear h g
    go_enter Try.func89, Try.ntmps89
    go_wp2_with fail
    refine (hasRoot_any n _).mono ?_
    rintro e w' ⟨rfl, rfl⟩
    rw [B.out]
    go_wp2_with fail
    go_ret2
    exact ⟨ret2_int V.out.symm E.out.symm, U.out⟩
end Go.Proofs.Yteioaeceobgbdaa
