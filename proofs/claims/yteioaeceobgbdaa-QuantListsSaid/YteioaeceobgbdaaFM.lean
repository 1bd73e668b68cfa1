/- Log of the program -/
import Derived.Test.YteioaeceobgbdaaFL
namespace Go.Proofs.Yteioaeceobgbdaa
open Go.RowKit

set_option maxRecDepth 100000 in
set_option maxHeartbeats 2000000 in
theorem Log_any (n : Int) (w : World) : Calls Try.prog 128 #[.int .i64 n] w fun e w' => e = .returned (.tuple #[.int .i64 (onOk (lgE n) (logN n.toNat : Nat)), .int .i64 (lgE n)]) ∧ Upd NoB w w' := by
  have U := Lib.hid ((Upd.refl NoB w).alloc (.cells #[.int .i64 n] 3))
  have hc : (w.alloc (.cells #[.int .i64 n] 3)).cell? ⟨w.heap.size, 0, none⟩ = some (.int .i64 n) := by simp
  have Hc := Lib.hid hc; clear hc
  rcases lgE_cases n with ⟨h, e⟩ | ⟨h1, h, e⟩ | ⟨h1, h, e⟩
  · have V := Lib.hid (show onOk (lgE n) (logN n.toNat : Nat) = 0 by rw [e]; rfl)
    have E := Lib.hid e; clear e
    go_enter Try.func128, Try.ntmps128
    go_wp2
    go_ret2
    exact ⟨ret2_int V.out.symm E.out.symm, U.out⟩
  · have V := Lib.hid (show onOk (lgE n) (logN n.toNat : Nat) = 0 by rw [e]; rfl)
    have E := Lib.hid e; clear e
    go_enter Try.func128, Try.ntmps128
    go_wp2
    go_ret2
    exact ⟨ret2_int V.out.symm E.out.symm, U.out⟩
  · have V := Lib.hid (show onOk (lgE n) (logN n.toNat : Nat) = (logN n.toNat : Nat) by rw [e]; rfl)
    have E := Lib.hid e; clear e
    obtain ⟨N, rfl⟩ : ∃ N : Nat, n = N := ⟨n.toNat, by omega⟩
    rw [Int.toNat_natCast] at V ⊢
    have hl := log_lo (n := N) (by omega)
    have hm := mant_in hl (log_hi N)
    have hL : N.log2 ≤ 62 := by
      have := (Nat.pow_lt_pow_iff_right (show 1 < 2 by omega)).1 (show 2 ^ N.log2 < 2 ^ 63 by omega)
      omega
    have hlog : logN N = 256 * N.log2 + (liter 8 (mant N N.log2, 0)).2 := rfl
    have gr := fun a w hc => greatest_log (N : Int) a w hc (by omega) (by omega)
    rw [Int.toNat_natCast] at gr
    have Gr := Lib.hid gr; clear gr
    have sc : ∀ w, Calls Try.prog 134 #[.int .i64 N, .int .i64 (30 - (N.log2 : Int))] w fun r w' => r = .returned (.int .i64 (mant N N.log2 : Nat)) ∧ w' = w := by
      intro w
      have hm' := hm
      unfold InM at hm'
      unfold mant at hm' ⊢
      by_cases h30 : N.log2 ≤ 30
      · rw [if_pos h30] at hm' ⊢
        rw [show (30 - (N.log2 : Int)) = ((30 - N.log2 : Nat) : Int) by omega]
        exact scaled_left N (30 - N.log2) w (by omega) (by omega)
      · rw [if_neg h30]
        rw [show (30 - (N.log2 : Int)) = -((N.log2 - 30 : Nat) : Int) by omega]
        exact scaled_right N (N.log2 - 30) w (by omega) (by omega)
    have Sc := Lib.hid sc; clear sc
    have Hs := Lib.hid (show LI (mant N N.log2) 0 (mant N N.log2) 0 from ⟨by omega, rfl, hm, by omega⟩)
    have Hlog := Lib.hid hlog
    generalize mant N N.log2 = M at *
    generalize N.log2 = L at *
    clear hlog hl hm
    go_enter Try.func128, Try.ntmps128
    go_wp2_with fail
    refine (Gr.out _ _ Hc.out).mono ?_
    rintro e w1 ⟨rfl, d, rfl⟩
    have U1 := Lib.hid (U.out.draw d)
    have hc2 : ((w.alloc (.cells #[.int .i64 N] 3)).drewN d).cell? ⟨w.heap.size, 0, none⟩ = some (.int .i64 N) := Hc.out
    generalize (w.alloc (.cells #[.int .i64 N] 3)).drewN d = W at *
    go_wp2_with fail
    refine (Sc.out _).mono ?_
    rintro e w1 ⟨rfl, rfl⟩
    go_wp2_with fail
    go_loop [5, 6, 19] (fun mv fv iv => ∃ k m f : Nat, mv = .int .i64 m ∧ fv = .int .i64 f ∧ iv = .int .i64 k ∧ LI M k m f) (fun _ _ iv => 8 - (intOf iv).toNat)
    case atStart => exact ⟨0, M, 0, rfl, rfl, rfl, Hs.out⟩
    case round =>
      obtain ⟨k, m, f, rfl, rfl, rfl, hr⟩ := hrel
      by_cases hk : k < 8
      · have hi := hr.2.2.1
        have hf := hr.f hk
        unfold InM at hi
        have Hhi := Lib.hid (hr.hi hk); have Hlo := Lib.hid (hr.lo hk); clear hr
        have b1 : m * m < 2147483648 * 2147483648 := Nat.mul_lt_mul_of_lt_of_lt hi.2 hi.2
        obtain ⟨q, hq⟩ : ∃ q, m * m / 1073741824 = q := ⟨_, rfl⟩
        have hq2 : q < 4294967296 := by omega
        have b2 : (m : Int) * m = ((m * m : Nat) : Int) := by simp
        have w1 : IntKind.i64.wrap ((m : Int) * m) = (m : Int) * m := IntWalk.i64_in _ (by omega)
        have w2 : (m : Int) * m / 1073741824 = (q : Int) := by omega
        have W2 := Lib.hid w2
        have b3 : (0 : Int) ≤ (m : Int) * m := by omega
        have b4 : (m : Int) * m ≤ 4611686018427387904 := by omega
        rw [hq] at Hhi Hlo
        have q0 : (q : Int) ≤ 4294967295 := by omega
        have f0 : (f : Int) ≤ 127 := by omega
        clear b1 b2 hq hi hq2 hf
        by_cases c : 2147483648 ≤ q
        · have c0 : (2147483648 : Int) ≤ q := by omega
          have Y := Lib.hid (Hhi.out c); clear c
          obtain ⟨h, hh⟩ : ∃ h, q / 2 = h := ⟨_, rfl⟩
          have w3 : (q : Int) / 2 = (h : Int) := by omega
          rw [hh] at Y
          clear Hhi Hlo hh
          go_wp2
          go_round
          case rel => exact ⟨k + 1, h, 2 * f + 1, rfl, by go_num, by go_num, Y.out⟩
          case measure => simp [intOf]; omega
        · have c0 : decide ((2147483648 : Int) ≤ q) = false := decide_eq_false (by omega)
          have Y := Lib.hid (Hlo.out c); clear c
          clear Hhi Hlo
          go_wp2
          go_round
          case rel => exact ⟨k + 1, q, 2 * f, by first | rw [W2.out] | with_reducible rfl, by go_num, by go_num, Y.out⟩
          case measure => simp [intOf]; omega
      · obtain rfl : k = 8 := by have := hr.1; omega
        have hf : f < 256 := hr.2.2.2
        have Y := Lib.hid hr.end; clear hr
        go_wp2
        go_ret2
        refine ⟨ret2_int ?_ E.out.symm, U1.out⟩
        rw [V.out, Hlog.out, Y.out]; omega

end Go.Proofs.Yteioaeceobgbdaa
