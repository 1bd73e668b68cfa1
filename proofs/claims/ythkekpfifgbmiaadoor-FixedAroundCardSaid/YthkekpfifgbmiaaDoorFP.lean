/- Exp of the reference -/
import Derived.Test.YthkekpfifgbmiaaDoorFO
namespace Go.Proofs.YthkekpfifgbmiaaDoor
open Go.RowKit

theorem i64_and1 (n : Int) : Go.bits .and .i64 n 1 = n % 2 := by
  have h1 : (BitVec.ofInt 64 1).toNat = 2 ^ 1 - 1 := by decide
  have key : (BitVec.ofInt 64 n &&& BitVec.ofInt 64 1).toNat = (n % ((2 ^ 64 : Nat) : Int)).toNat % 2 ^ 1 := by
    rw [BitVec.toNat_and, BitVec.toNat_ofInt, h1, Nat.and_two_pow_sub_one_eq_mod]
  show IntKind.i64.wrap ((BitVec.ofInt 64 n &&& BitVec.ofInt 64 1).toNat : Nat) = n % 2
  rw [key, IntKind.wrap_i64]
  omega
theorem rtE_ok {n : Int} (h0 : 0 ≤ n) (h1 : n ≤ 4611686018427387904) : rtE n = 0 := by
  have := rtE_cases n
  omega
theorem rRoot_at (x : Int) (N c : Nat) (w : World) (hx : x.toNat = N) (h0 : 0 ≤ x) (h1 : x ≤ 4611686018427387904) (hr : rt N = c) :
    Calls Tryd.prog 19 #[.int .i64 x] w fun e w' => e = .returned (.tuple #[.int .i64 c, .int .i64 0]) ∧ w' = w := by
  have h := rRoot_any x w
  rw [rtE_ok h0 h1, hx, hr] at h
  exact h
theorem and_bit (x : Nat) (hx : x ≤ 1152921504606846976) : Go.bits .and .i64 (x : Int) 1 = ((x % 2 : Nat) : Int) := by
  rw [i64_and1]; omega
def exE (q : Int) : Int := if q < 0 ∨ 15871 < q then 6 else 0
theorem exE_cases (q : Int) : (q < 0 ∧ exE q = 6) ∨ (¬ q < 0 ∧ 15871 < q ∧ exE q = 6) ∨ (¬ q < 0 ∧ ¬ 15871 < q ∧ exE q = 0) := by
  unfold exE; split <;> omega
/-- after k bits of j -/
def EI (j k m c : Nat) : Prop := k ≤ 8 ∧ exM j k = m ∧ c8 k = c ∧ InM m ∧ 1073741824 ≤ c ∧ c ≤ 2147483648
theorem EI.start (j : Nat) : EI j 0 1073741824 2147483648 := ⟨by omega, rfl, rfl, ⟨by omega, by omega⟩, by omega, by omega⟩
theorem EI.one {j k m c : Nat} (h : EI j k m c) (hj : j < 256) (hk : k < 8) (hb : j / 2 ^ (7 - k) % 2 = 1) : EI j (k + 1) (m * c8 (k + 1) / 1073741824) (c8 (k + 1)) := by
  obtain ⟨h1, rfl, h3, h4⟩ := h
  have e : exM j (k + 1) = exM j k * c8 (k + 1) / 1073741824 := by rw [exM, if_pos hb]
  have a := exM_in j (k + 1) hj (by omega)
  rw [e] at a
  exact ⟨by omega, e, rfl, a, (c8_le (k + 1) (by omega)).1, (c8_le (k + 1) (by omega)).2⟩
theorem EI.zero {j k m c : Nat} (h : EI j k m c) (hk : k < 8) (hb : ¬ j / 2 ^ (7 - k) % 2 = 1) : EI j (k + 1) m (c8 (k + 1)) := by
  obtain ⟨h1, rfl, h3, h4⟩ := h
  have e : exM j (k + 1) = exM j k := by rw [exM, if_neg hb]
  exact ⟨by omega, e, rfl, h4.1, (c8_le (k + 1) (by omega)).1, (c8_le (k + 1) (by omega)).2⟩
theorem EI.root {j k m c : Nat} (h : EI j k m c) (hk : k < 8) : rt (c * 1073741824) = c8 (k + 1) := by
  obtain ⟨h1, h2, rfl, h4⟩ := h
  exact c8_root k hk
set_option maxRecDepth 100000 in
set_option maxHeartbeats 2000000 in
theorem rExp_any (q : Int) (w : World) : Calls Tryd.prog 31 #[.int .i64 q] w fun e w' => e = .returned (.tuple #[.int .i64 (onOk (exE q) (expN q.toNat : Nat)), .int .i64 (exE q)]) ∧ w' = w := by
  rcases exE_cases q with ⟨h, e⟩ | ⟨h1, h, e⟩ | ⟨h1, h, e⟩
  · have V := Lib.hid (show onOk (exE q) (expN q.toNat : Nat) = 0 by rw [e]; rfl)
    have E := Lib.hid e; clear e
    go_enter Tryd.func31, Tryd.ntmps31
    go_wp2
    go_ret2
    exact ⟨ret2_int V.out.symm E.out.symm, rfl⟩
  · have V := Lib.hid (show onOk (exE q) (expN q.toNat : Nat) = 0 by rw [e]; rfl)
    have E := Lib.hid e; clear e
    go_enter Tryd.func31, Tryd.ntmps31
    go_wp2
    go_ret2
    exact ⟨ret2_int V.out.symm E.out.symm, rfl⟩
  · have V := Lib.hid (show onOk (exE q) (expN q.toNat : Nat) = (expN q.toNat : Nat) by rw [e]; rfl)
    have E := Lib.hid e; clear e
    obtain ⟨n, rfl⟩ : ∃ n : Nat, q = n := ⟨q.toNat, by omega⟩
    rw [Int.toNat_natCast] at V ⊢
    have hx : expN n = shl (exM (n % 256) 8) (n / 256) := expN_eq n
    obtain ⟨j, hj⟩ : ∃ j, n % 256 = j := ⟨_, rfl⟩
    obtain ⟨g, hg⟩ : ∃ g, n / 256 = g := ⟨_, rfl⟩
    rw [hj, hg] at hx
    have j1 : (n : Int) % 256 = (j : Int) := by omega
    have g1 : (n : Int) / 256 = (g : Int) := by omega
    have j2 : j ≤ 255 := by omega
    have g2 : g ≤ 61 := by omega
    have X := Lib.hid hx; clear hx hj hg
    go_enter Tryd.func31, Tryd.ntmps31
    go_wp2_with fail
    go_loop [4, 5, 6] (fun mv cv iv => ∃ k m c : Nat, mv = .int .i64 m ∧ cv = .int .i64 c ∧ iv = .int .i64 (k + 1 : Nat) ∧ EI j k m c) (fun _ _ iv => 9 - (intOf iv).toNat)
    case atStart => exact ⟨0, 1073741824, 2147483648, rfl, rfl, rfl, EI.start j⟩
    case round =>
      obtain ⟨k, m, c, rfl, rfl, rfl, hr⟩ := hrel
      by_cases hk : k < 8
      · have hroot := hr.root hk
        have hi := hr.2.2.2
        unfold InM at hi
        have One := Lib.hid (fun hb => hr.one (by omega) hk hb); have Zero := Lib.hid (hr.zero hk); clear hr
        obtain ⟨i, hi1⟩ : ∃ i, k + 1 = i := ⟨_, rfl⟩
        have c1 := c8_le (k + 1) (by omega)
        obtain ⟨c', hc'⟩ : ∃ c', c8 (k + 1) = c' := ⟨_, rfl⟩
        rw [hc'] at hroot c1 One Zero
        obtain ⟨x, ex⟩ : ∃ x : Int, (c : Int) * 1073741824 = x := ⟨_, rfl⟩
        obtain ⟨N, eN⟩ : ∃ N : Nat, c * 1073741824 = N := ⟨_, rfl⟩
        rw [eN] at hroot
        have Hroot := Lib.hid hroot; clear hroot
        have ro := fun w => rRoot_at x N c' w (by omega) (by omega) (by omega) Hroot.out
        have Ro := Lib.hid ro; clear ro
        have w1 : wrap64 ((c : Int) * 1073741824) = x := by rw [ex]; exact IntWalk.wrap64_in _ (by omega)
        have w1' : wrap64 x = x := IntWalk.wrap64_in _ (by omega)
        have Ex := Lib.hid ex
        obtain ⟨y, hy⟩ : ∃ y, j / 2 ^ (7 - k) % 2 = y := ⟨_, rfl⟩
        have a1 := and_bit (j / 2 ^ (7 - k)) (by have := Nat.div_le_self j (2 ^ (7 - k)); omega)
        rw [hy] at a1 One Zero
        have hy1 : y ≤ 1 := by omega
        have a2 : Go.bits .and .i64 ((j : Int) / 2 ^ (8 - i)) 1 = (y : Int) := by rw [← a1, ← hi1, show 8 - (k + 1) = 7 - k by omega, pw_nat]; rfl
        have n8 : ¬ (8 : Int) - i < 0 := by omega
        have i1 : i ≤ 8 := by omega
        have I := Lib.hid hi1
        have hb := Nat.mul_lt_mul_of_lt_of_le hi.1.2 c1.2 (by omega)
        obtain ⟨z, hz⟩ : ∃ z, m * c' / 1073741824 = z := ⟨_, rfl⟩
        have b2 : (m : Int) * c' = ((m * c' : Nat) : Int) := by simp
        have w2 : IntKind.i64.wrap ((m : Int) * c') = (m : Int) * c' := IntWalk.i64_in _ (by omega)
        have w3 : (m : Int) * c' / 1073741824 = (z : Int) := by omega
        have b3 : (0 : Int) ≤ (m : Int) * c' := by omega
        have b4 : (m : Int) * c' ≤ 4611686018427387904 := by omega
        rw [hz] at One
        rw [hi1]
        have W3 := Lib.hid w3
        clear hi c1 hc' hy a1 hi1 hb hz b2 ex eN
        by_cases yy : y = 1
        · subst yy
          have Y := Lib.hid (One.out rfl)
          clear One Zero
          go_wp2_with fail
          (with_reducible refine (Ro.out _).mono ?_)
          rintro e w' ⟨rfl, rfl⟩
          go_wp2
          go_round
          case rel => exact ⟨k + 1, z, c', by first | rw [W3.out] | with_reducible rfl, rfl, by rw [← I.out]; go_num, Y.out⟩
          case measure => simp [intOf]; omega
        · obtain rfl : y = 0 := by omega
          have Y := Lib.hid (Zero.out (by omega))
          clear One Zero
          go_wp2_with fail
          (with_reducible refine (Ro.out _).mono ?_)
          rintro e w' ⟨rfl, rfl⟩
          go_wp2
          go_round
          case rel => exact ⟨k + 1, m, c', rfl, rfl, by rw [← I.out]; go_num, Y.out⟩
          case measure => simp [intOf]; omega
      · obtain rfl : k = 8 := by have := hr.1; omega
        have hm := hr.2.2.2.1
        have hs := shl_in g hm
        have he : exM j 8 = m := hr.2.1
        unfold InM at hm
        have hg3 := Nat.pow_le_pow_right (show 0 < 2 by omega) (show g + 1 ≤ 62 by omega)
        rw [he] at X
        have hs2 : shl m g ≤ 4611686018427387904 := by omega
        clear hr he hg3 hs
        by_cases h30 : g ≤ 30
        · have hM : m / 2 ^ (30 - g) = shl m g := by unfold shl; rw [if_pos h30]
          have s3 : (m : Int) / 2 ^ (30 - g) = (shl m g : Int) := by rw [pw_nat, ← hM]; rfl
          have n3 : ¬ (30 : Int) - g < 0 := by omega
          have S3 := Lib.hid s3
          clear hM hs2 s3
          go_wp2
          go_ret2
          exact ⟨ret2_int (by rw [V.out, X.out, ← S3.out]) E.out.symm, rfl⟩
        · have hM : m * 2 ^ (g - 30) = shl m g := by unfold shl; rw [if_neg h30]
          have s3 : wrap64 ((m : Int) * 2 ^ (g - 30)) = (shl m g : Int) := by rw [pw_nat, ← Int.natCast_mul, hM]; exact IntWalk.wrap64_in _ (by omega)
          have n3 : ¬ (g : Int) - 30 < 0 := by omega
          have S3 := Lib.hid s3
          clear hM hs2 s3
          go_wp2
          go_ret2
          exact ⟨ret2_int (by rw [V.out, X.out, ← S3.out]) E.out.symm, rfl⟩
end Go.Proofs.YthkekpfifgbmiaaDoor
