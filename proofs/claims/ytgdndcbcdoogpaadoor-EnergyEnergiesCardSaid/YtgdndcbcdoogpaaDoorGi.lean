/- Log of the program and of the reference | Log of the program -/
import Derived.Test.YtgdndcbcdoogpaaDoorGh
import Derived.Deep.QuietTactic
import Derived.BigQuiet
namespace Go.Proofs.YtgdndcbcdoogpaaDoor
open Go.RowKit

theorem Upd.draw {S : Nat → Prop} {a w : World} (h : Upd S a w) (n : Nat) : Upd S a (w.drewN n) := ⟨h.os, h.tape, h.output, h.size, h.block⟩
def pw (x : Int) : Int := 2 ^ x.toNat
theorem pw_in {x : Int} (h1 : x ≤ 62) : 1 ≤ pw x ∧ pw x ≤ 4611686018427387904 := by
  have a := Nat.two_pow_pos x.toNat
  have b := Nat.pow_le_pow_right (show 0 < 2 by omega) (show x.toNat ≤ 62 by omega)
  have c : pw x = ((2 ^ x.toNat : Nat) : Int) := by simp [pw]
  omega
def pwB (x n : Int) : Bool := decide (pw x ≤ n)
set_option maxRecDepth 100000 in
theorem log1_any (x n : Int) (a : Addr) (w : World) (hc : w.cell? a = some (.int .i64 n)) (h0 : 0 ≤ x) (h1 : x ≤ 62) :
    Calls Tryd.prog 106 #[.int .i64 x, .pointer (some a)] w fun e w' => e = .returned (.bool (pwB x n)) ∧ ∃ d, w' = w.drewN d := by
  have p := pw_in h1
  have s1 : wrap64 ((2 : Int) ^ x.toNat) = pw x := IntWalk.wrap64_in _ (by show _ ≤ pw x ∧ pw x ≤ _; omega)
  have nn : ¬ x < 0 := by omega
  go_enter Tryd.func106, Tryd.ntmps106
  go_wp2
  go_quiet (fail)
  go_wp2
  go_ret
  exact ⟨rfl, _, rfl⟩
def LgI (n lo hi : Int) : Prop := 0 ≤ lo ∧ lo ≤ hi ∧ hi ≤ 62 ∧ pw lo ≤ n ∧ n < 2 * pw hi
theorem lgI_end {n lo : Int} (h : LgI n lo lo) : lo = (n.toNat.log2 : Nat) := by
  obtain ⟨h0, _, h1, h2, h3⟩ := h
  obtain ⟨k, rfl⟩ : ∃ k : Nat, lo = k := ⟨lo.toNat, by omega⟩
  have c : pw k = ((2 ^ k : Nat) : Int) := by simp [pw]
  have p := pw_in h1
  rw [log2_eq (e := k) (by omega) (by rw [Nat.pow_succ]; omega)]
set_option maxRecDepth 100000 in
set_option maxHeartbeats 1000000 in
theorem greatest_log (n : Int) (a : Addr) (w : World) (hc : w.cell? a = some (.int .i64 n)) (h0 : 1 ≤ n) (h1 : n ≤ 4611686018427387904) :
    Calls Tryd.prog 105 #[.int .i64 0, .int .i64 62, .func (.func 106) #[] #[.pointer (some a)]] w fun e w' => e = .returned (.int .i64 (n.toNat.log2 : Nat)) ∧ ∃ d, w' = w.drewN d := by
  have st : LgI n 0 62 := ⟨by omega, by omega, by omega, by unfold pw; simpa using h0, by unfold pw; simp; omega⟩
  have Hst := Lib.hid st; clear st
  go_enter Tryd.func105, Tryd.ntmps105
  go_wp2_with fail
  go_loopw [0, 1] (fun l h wr => ∃ (lo hi : Int) (d : Nat), l = .int .i64 lo ∧ h = .int .i64 hi ∧ LgI n lo hi ∧ wr = w.drewN d) (fun l h _ => (intOf h - intOf l).toNat)
  case atStart => exact ⟨0, 62, 0, rfl, rfl, Hst.out, rfl⟩
  case round =>
    obtain ⟨lo, hi, d, rfl, rfl, hr, rfl⟩ := hrel
    have b := hr
    obtain ⟨b0, b1, b2, b3, b4⟩ := b
    by_cases hlt : lo < hi
    · obtain ⟨m, hm⟩ : ∃ m, hi - (hi - lo) / 2 = m := ⟨_, rfl⟩
      have m1 : lo < m ∧ m ≤ hi := by omega
      have w1 : IntKind.i64.wrap (hi - lo) = hi - lo := IntWalk.i64_in _ (by omega)
      have w2 : IntKind.i64.wrap (hi - (hi - lo) / 2) = m := by rw [hm]; exact IntWalk.i64_in _ (by omega)
      have Hm := Lib.hid hm; clear hm
      cases hs : pwB m n with
      | true =>
        have Hb := Lib.hid (show LgI n m hi from ⟨by omega, by omega, b2, of_decide_eq_true hs, b4⟩)
        have Hs := Lib.hid hs; clear hs b3 b4 hr
        go_wp2_with fail
        refine (log1_any m n a (w.drewN d) hc (by omega) (by omega)).mono ?_
        rintro e w' ⟨rfl, d2, rfl⟩
        rw [Hs.out]
        go_wp2
        go_roundw
        case rel => exact ⟨m, hi, d + d2, rfl, rfl, Hb.out, by first | rfl | rw [World.drewN_drewN]⟩
        case measure => simp [intOf]; omega
      | false =>
        have e2 : 2 * pw (m - 1) = pw m := by
          unfold pw
          rw [show m.toNat = (m - 1).toNat + 1 by omega, Int.pow_succ]; omega
        have Hb := Lib.hid (show LgI n lo (m - 1) from ⟨by omega, by omega, by omega, b3, by have := of_decide_eq_false hs; omega⟩)
        have Hs := Lib.hid hs; clear hs b3 b4 hr e2
        go_wp2_with fail
        refine (log1_any m n a (w.drewN d) hc (by omega) (by omega)).mono ?_
        rintro e w' ⟨rfl, d2, rfl⟩
        rw [Hs.out]
        go_wp2
        go_roundw
        case rel => exact ⟨lo, m - 1, d + d2, rfl, rfl, Hb.out, by first | rfl | rw [World.drewN_drewN]⟩
        case measure => simp [intOf]; omega
    · obtain rfl : lo = hi := by omega
      have He := Lib.hid (lgI_end hr)
      clear b3 b4 hr
      go_wp2_with fail
      go_ret
      exact ⟨ret_int He.out, d, rfl⟩
theorem pw_nat (k : Nat) : (2 : Int) ^ k = ((2 ^ k : Nat) : Int) := by simp
theorem scaled_left (v e : Nat) (w : World) (he : e ≤ 40) (hv : v * 2 ^ e ≤ 9223372036854775807) :
    Calls Tryd.prog 107 #[.int .i64 v, .int .i64 e] w fun r w' => r = .returned (.int .i64 (v * 2 ^ e : Nat)) ∧ w' = w := by
  have s1 : wrap64 ((v : Int) * 2 ^ e) = ((v * 2 ^ e : Nat) : Int) := by rw [pw_nat, ← Int.natCast_mul]; exact IntWalk.wrap64_in _ (by omega)
  have nn : ¬ (e : Int) < 0 := by omega
  clear hv
  go_enter Tryd.func107, Tryd.ntmps107
  go_wp2
  go_ret
  exact ⟨rfl, rfl⟩
theorem scaled_right (v e : Nat) (w : World) (he : e ≤ 40) (h0 : 0 < e) :
    Calls Tryd.prog 107 #[.int .i64 v, .int .i64 (-(e : Int))] w fun r w' => r = .returned (.int .i64 (v / 2 ^ e : Nat)) ∧ w' = w := by
  have s1 : ∀ w, (Op.shift .shr .i64 (v : Int) .i64 (e : Int)).run Tryd.prog w = .ok (.int .i64 (v / 2 ^ e : Nat)) w := fun w => by
    rw [run_shr _ _ _ _ _ (by omega) (by show (e : Int) ≤ 64; omega), Int.toNat_natCast, pw_nat]; rfl
  have nn : ¬ (e : Int) < 0 := by omega
  have n2 : IntKind.i64.wrap (-(-(e : Int))) = (e : Int) := by rw [Int.neg_neg]; exact IntWalk.i64_in _ (by omega)
  have n3 : -(-(e : Int)) = (e : Int) := Int.neg_neg _
  go_enter Tryd.func107, Tryd.ntmps107
  go_wp2
  go_ret
  exact ⟨rfl, rfl⟩

def lgE (n : Int) : Int := if n < 1 ∨ 4611686018427387904 < n then 6 else 0
theorem lgE_cases (n : Int) : (n < 1 ∧ lgE n = 6) ∨ (¬ n < 1 ∧ 4611686018427387904 < n ∧ lgE n = 6) ∨ (¬ n < 1 ∧ ¬ 4611686018427387904 < n ∧ lgE n = 0) := by
  unfold lgE; split <;> omega
/-- the loop of eight: after k rounds from M -/
def LI (M k m f : Nat) : Prop := k ≤ 8 ∧ liter k (M, 0) = (m, f) ∧ InM m ∧ f < 256
theorem LI.hi {M k m f : Nat} (h : LI M k m f) (hk : k < 8) (hq : 2147483648 ≤ m * m / 1073741824) : LI M (k + 1) (m * m / 1073741824 / 2) (2 * f + 1) := by
  obtain ⟨h1, h2, h3, h4⟩ := h
  have e : liter (k + 1) (M, 0) = (m * m / 1073741824 / 2, 2 * f + 1) := by rw [liter, h2]; unfold lstep; rw [if_pos hq]
  have a := lstep_in (p := (m, f)) h3
  unfold lstep at a
  rw [if_pos hq] at a
  have b := liter_f (m := M) (k + 1)
  rw [e] at b
  have c := Nat.pow_le_pow_right (show 0 < 2 by omega) (show k + 1 ≤ 8 by omega)
  exact ⟨by omega, e, a, by simp only at b; omega⟩
theorem LI.lo {M k m f : Nat} (h : LI M k m f) (hk : k < 8) (hq : ¬ 2147483648 ≤ m * m / 1073741824) : LI M (k + 1) (m * m / 1073741824) (2 * f) := by
  obtain ⟨h1, h2, h3, h4⟩ := h
  have e : liter (k + 1) (M, 0) = (m * m / 1073741824, 2 * f) := by rw [liter, h2]; unfold lstep; rw [if_neg hq]
  have a := lstep_in (p := (m, f)) h3
  unfold lstep at a
  rw [if_neg hq] at a
  have b := liter_f (m := M) (k + 1)
  rw [e] at b
  have c := Nat.pow_le_pow_right (show 0 < 2 by omega) (show k + 1 ≤ 8 by omega)
  exact ⟨by omega, e, a, by simp only at b; omega⟩
theorem LI.end {M m f : Nat} (h : LI M 8 m f) : (liter 8 (M, 0)).2 = f := by rw [h.2.1]
theorem LI.f {M k m f : Nat} (h : LI M k m f) (hk : k < 8) : f < 128 := by
  have b := liter_f (m := M) k
  rw [h.2.1] at b
  have c := Nat.pow_le_pow_right (show 0 < 2 by omega) (show k ≤ 7 by omega)
  simp only at b
  omega
end Go.Proofs.YtgdndcbcdoogpaaDoor

namespace Go.Proofs.YtgdndcbcdoogpaaDoor
open Go.RowKit

set_option maxRecDepth 100000 in
set_option maxHeartbeats 2000000 in
theorem Log_any (n : Int) (w : World) : Calls Tryd.prog 97 #[.int .i64 n] w fun e w' => e = .returned (.tuple #[.int .i64 (onOk (lgE n) (logN n.toNat : Nat)), .int .i64 (lgE n)]) ∧ Upd NoB w w' := by
  have U := Lib.hid ((Upd.refl NoB w).alloc (.cells #[.int .i64 n] 3))
  have hc : (w.alloc (.cells #[.int .i64 n] 3)).cell? ⟨w.heap.size, 0, none⟩ = some (.int .i64 n) := by simp
  have Hc := Lib.hid hc; clear hc
  rcases lgE_cases n with ⟨h, e⟩ | ⟨h1, h, e⟩ | ⟨h1, h, e⟩
  · have V := Lib.hid (show onOk (lgE n) (logN n.toNat : Nat) = 0 by rw [e]; rfl)
    have E := Lib.hid e; clear e
    go_enter Tryd.func97, Tryd.ntmps97
    go_wp2
    go_ret2
    exact ⟨ret2_int V.out.symm E.out.symm, U.out⟩
  · have V := Lib.hid (show onOk (lgE n) (logN n.toNat : Nat) = 0 by rw [e]; rfl)
    have E := Lib.hid e; clear e
    go_enter Tryd.func97, Tryd.ntmps97
    go_wp2
    go_ret2
    exact ⟨ret2_int V.out.symm E.out.symm, U.out⟩
  · have V := Lib.hid (show onOk (lgE n) (logN n.toNat : Nat) = (logN n.toNat : Nat) by rw [e]; rfl)
    have E := Lib.hid e; clear e
    obtain ⟨N, rfl⟩ : ∃ N : Nat, n = N := ⟨n.toNat, by omega⟩
    rw [Int.toNat_natCast] at V ⊢
    have hl := log_lo (n := N) (by omega)
    have hm := mant_in hl (log_hi N)
    have hL : N.log2 ≤ 62 := by
      have := (Nat.pow_lt_pow_iff_right (show 1 < 2 by omega)).1 (show 2 ^ N.log2 < 2 ^ 63 by omega)
      omega
    have hlog : logN N = 256 * N.log2 + (liter 8 (mant N N.log2, 0)).2 := rfl
    have gr := fun a w hc => greatest_log (N : Int) a w hc (by omega) (by omega)
    rw [Int.toNat_natCast] at gr
    have Gr := Lib.hid gr; clear gr
    have sc : ∀ w, Calls Tryd.prog 107 #[.int .i64 N, .int .i64 (30 - (N.log2 : Int))] w fun r w' => r = .returned (.int .i64 (mant N N.log2 : Nat)) ∧ w' = w := by
      intro w
      have hm' := hm
      unfold InM at hm'
      unfold mant at hm' ⊢
      by_cases h30 : N.log2 ≤ 30
      · rw [if_pos h30] at hm' ⊢
        rw [show (30 - (N.log2 : Int)) = ((30 - N.log2 : Nat) : Int) by omega]
        exact scaled_left N (30 - N.log2) w (by omega) (by omega)
      · rw [if_neg h30]
        rw [show (30 - (N.log2 : Int)) = -((N.log2 - 30 : Nat) : Int) by omega]
        exact scaled_right N (N.log2 - 30) w (by omega) (by omega)
    have Sc := Lib.hid sc; clear sc
    have Hs := Lib.hid (show LI (mant N N.log2) 0 (mant N N.log2) 0 from ⟨by omega, rfl, hm, by omega⟩)
    have Hlog := Lib.hid hlog
    generalize mant N N.log2 = M at *
    generalize N.log2 = L at *
    clear hlog hl hm
    go_enter Tryd.func97, Tryd.ntmps97
    go_wp2_with fail
    refine (Gr.out _ _ Hc.out).mono ?_
    rintro e w1 ⟨rfl, d, rfl⟩
    have U1 := Lib.hid (U.out.draw d)
    have hc2 : ((w.alloc (.cells #[.int .i64 N] 3)).drewN d).cell? ⟨w.heap.size, 0, none⟩ = some (.int .i64 N) := Hc.out
    generalize (w.alloc (.cells #[.int .i64 N] 3)).drewN d = W at *
    go_wp2_with fail
    refine (Sc.out _).mono ?_
    rintro e w1 ⟨rfl, rfl⟩
    go_wp2_with fail
    go_loop [5, 6, 19] (fun mv fv iv => ∃ k m f : Nat, mv = .int .i64 m ∧ fv = .int .i64 f ∧ iv = .int .i64 k ∧ LI M k m f) (fun _ _ iv => 8 - (intOf iv).toNat)
    case atStart => exact ⟨0, M, 0, rfl, rfl, rfl, Hs.out⟩
    case round =>
      obtain ⟨k, m, f, rfl, rfl, rfl, hr⟩ := hrel
      by_cases hk : k < 8
      · have hi := hr.2.2.1
        have hf := hr.f hk
        unfold InM at hi
        have Hhi := Lib.hid (hr.hi hk); have Hlo := Lib.hid (hr.lo hk); clear hr
        have b1 : m * m < 2147483648 * 2147483648 := Nat.mul_lt_mul_of_lt_of_lt hi.2 hi.2
        obtain ⟨q, hq⟩ : ∃ q, m * m / 1073741824 = q := ⟨_, rfl⟩
        have hq2 : q < 4294967296 := by omega
        have b2 : (m : Int) * m = ((m * m : Nat) : Int) := by simp
        have w1 : IntKind.i64.wrap ((m : Int) * m) = (m : Int) * m := IntWalk.i64_in _ (by omega)
        have w2 : (m : Int) * m / 1073741824 = (q : Int) := by omega
        have W2 := Lib.hid w2
        have b3 : (0 : Int) ≤ (m : Int) * m := by omega
        have b4 : (m : Int) * m ≤ 4611686018427387904 := by omega
        rw [hq] at Hhi Hlo
        have q0 : (q : Int) ≤ 4294967295 := by omega
        have f0 : (f : Int) ≤ 127 := by omega
        clear b1 b2 hq hi hq2 hf
        by_cases c : 2147483648 ≤ q
        · have c0 : (2147483648 : Int) ≤ q := by omega
          have Y := Lib.hid (Hhi.out c); clear c
          obtain ⟨h, hh⟩ : ∃ h, q / 2 = h := ⟨_, rfl⟩
          have w3 : (q : Int) / 2 = (h : Int) := by omega
          rw [hh] at Y
          clear Hhi Hlo hh
          go_wp2
          go_round
          case rel => exact ⟨k + 1, h, 2 * f + 1, rfl, by go_num, by go_num, Y.out⟩
          case measure => simp [intOf]; omega
        · have c0 : decide ((2147483648 : Int) ≤ q) = false := decide_eq_false (by omega)
          have Y := Lib.hid (Hlo.out c); clear c
          clear Hhi Hlo
          go_wp2
          go_round
          case rel => exact ⟨k + 1, q, 2 * f, by first | rw [W2.out] | with_reducible rfl, by go_num, by go_num, Y.out⟩
          case measure => simp [intOf]; omega
      · obtain rfl : k = 8 := by have := hr.1; omega
        have hf : f < 256 := hr.2.2.2
        have Y := Lib.hid hr.end; clear hr
        go_wp2
        go_ret2
        refine ⟨ret2_int ?_ E.out.symm, U1.out⟩
        rw [V.out, Hlog.out, Y.out]; omega

set_option maxRecDepth 100000 in
set_option maxHeartbeats 2000000 in
theorem rLog_any (n : Int) (w : World) : Calls Tryd.prog 98 #[.int .i64 n] w fun e w' => e = .returned (.tuple #[.int .i64 (onOk (lgE n) (logN n.toNat : Nat)), .int .i64 (lgE n)]) ∧ w' = w := by
  rcases lgE_cases n with ⟨h, e⟩ | ⟨h1, h, e⟩ | ⟨h1, h, e⟩
  · have V := Lib.hid (show onOk (lgE n) (logN n.toNat : Nat) = 0 by rw [e]; rfl)
    have E := Lib.hid e; clear e
    go_enter Tryd.func98, Tryd.ntmps98
    go_wp2
    go_ret2
    exact ⟨ret2_int V.out.symm E.out.symm, rfl⟩
  · have V := Lib.hid (show onOk (lgE n) (logN n.toNat : Nat) = 0 by rw [e]; rfl)
    have E := Lib.hid e; clear e
    go_enter Tryd.func98, Tryd.ntmps98
    go_wp2
    go_ret2
    exact ⟨ret2_int V.out.symm E.out.symm, rfl⟩
  · have V := Lib.hid (show onOk (lgE n) (logN n.toNat : Nat) = (logN n.toNat : Nat) by rw [e]; rfl)
    have E := Lib.hid e; clear e
    obtain ⟨N, rfl⟩ : ∃ N : Nat, n = N := ⟨n.toNat, by omega⟩
    rw [Int.toNat_natCast] at V ⊢
    have hl := log_lo (n := N) (by omega)
    have hu := log_hi N
    have hm := mant_in hl hu
    have hL : N.log2 ≤ 62 := by
      have := (Nat.pow_lt_pow_iff_right (show 1 < 2 by omega)).1 (show 2 ^ N.log2 < 2 ^ 63 by omega)
      omega
    have hlog : logN N = 256 * N.log2 + (liter 8 (mant N N.log2, 0)).2 := rfl
    have Hs := Lib.hid (show LI (mant N N.log2) 0 (mant N N.log2) 0 from ⟨by omega, rfl, hm, by omega⟩)
    have Hlog := Lib.hid hlog
    have Hl := Lib.hid hl; have Hu := Lib.hid hu
    obtain ⟨M, hM⟩ : ∃ M, mant N N.log2 = M := ⟨_, rfl⟩
    rw [hM] at Hs Hlog
    have HM := Lib.hid hM
    generalize N.log2 = L at *
    clear hlog hl hm hM hu
    go_enter Tryd.func98, Tryd.ntmps98
    go_wp2_with fail
    go_loop [4] (fun ev => ∃ k : Nat, ev = .int .i64 k ∧ k ≤ L) (fun ev => 64 - (intOf ev).toNat)
    case atStart => exact ⟨0, rfl, Nat.zero_le _⟩
    case round =>
      obtain ⟨k, rfl, hk⟩ := hrel
      have nn : ¬ (k : Int) < 0 := by omega
      obtain ⟨d, hd⟩ : ∃ d, N / 2 ^ k = d := ⟨_, rfl⟩
      have s5 : (N : Int) / 2 ^ k = (d : Int) := by rw [← hd, pw_nat]; rfl
      by_cases hlt : k < L
      · have t : (1 : Int) < (d : Int) := by
          have h2 : 2 * 2 ^ k ≤ N := by
            have := Nat.pow_le_pow_right (show 0 < 2 by omega) (show k + 1 ≤ L by omega)
            have := Hl.out
            rw [Nat.pow_succ] at *
            omega
          have : 2 ≤ N / 2 ^ k := (Nat.le_div_iff_mul_le (Nat.two_pow_pos k)).2 h2
          omega
        clear hd
        go_wp2
        go_round
        case rel => exact ⟨k + 1, by go_num, by omega⟩
        case measure => simp [intOf]; omega
      · obtain rfl : k = L := by omega
        have t : decide ((1 : Int) < (d : Int)) = false := decide_eq_false (by
          have : N / 2 ^ k < 2 := Nat.div_lt_of_lt_mul (by have := Hu.out; rw [Nat.pow_succ] at this; omega)
          omega)
        clear hd
        have hM2 := (Hs.out).2.2.1
        unfold InM at hM2
        by_cases h30 : k ≤ 30
        · have hM : N * 2 ^ (30 - k) = M := by have := HM.out; unfold mant at this; rw [if_pos h30] at this; exact this
          have s3 : wrap64 ((N : Int) * 2 ^ (30 - k)) = (M : Int) := by rw [pw_nat, ← Int.natCast_mul, hM]; exact IntWalk.wrap64_in _ (by omega)
          have n3 : ¬ (30 : Int) - k < 0 := by omega
          clear hM hM2
          go_wp2_with fail
          go_loop [5, 6, 29] (fun mv fv iv => ∃ k m f : Nat, mv = .int .i64 m ∧ fv = .int .i64 f ∧ iv = .int .i64 k ∧ LI M k m f) (fun _ _ iv => 8 - (intOf iv).toNat)
          case atStart => exact ⟨0, M, 0, rfl, rfl, rfl, Hs.out⟩
          case round =>
            clear s5 t s3
            obtain ⟨j, m, f, rfl, rfl, rfl, hr⟩ := hrel
            by_cases hj : j < 8
            · have hi := hr.2.2.1
              have hf := hr.f hj
              unfold InM at hi
              have Hhi := Lib.hid (hr.hi hj); have Hlo := Lib.hid (hr.lo hj); clear hr
              have b1 : m * m < 2147483648 * 2147483648 := Nat.mul_lt_mul_of_lt_of_lt hi.2 hi.2
              obtain ⟨q, hq⟩ : ∃ q, m * m / 1073741824 = q := ⟨_, rfl⟩
              have hq2 : q < 4294967296 := by omega
              have b2 : (m : Int) * m = ((m * m : Nat) : Int) := by simp
              have w1 : IntKind.i64.wrap ((m : Int) * m) = (m : Int) * m := IntWalk.i64_in _ (by omega)
              have w2 : (m : Int) * m / 1073741824 = (q : Int) := by omega
              have W2 := Lib.hid w2
              have b3 : (0 : Int) ≤ (m : Int) * m := by omega
              have b4 : (m : Int) * m ≤ 4611686018427387904 := by omega
              rw [hq] at Hhi Hlo
              have q0 : (q : Int) ≤ 4294967295 := by omega
              have f0 : (f : Int) ≤ 127 := by omega
              clear b1 b2 hq hi hq2 hf
              by_cases c : 2147483648 ≤ q
              · have c0 : (2147483648 : Int) ≤ q := by omega
                have Y := Lib.hid (Hhi.out c); clear c
                obtain ⟨h, hh⟩ : ∃ h, q / 2 = h := ⟨_, rfl⟩
                have w3 : (q : Int) / 2 = (h : Int) := by omega
                rw [hh] at Y
                clear Hhi Hlo hh
                go_wp2
                go_round
                case rel => exact ⟨j + 1, h, 2 * f + 1, rfl, by go_num, by go_num, Y.out⟩
                case measure => simp [intOf]; omega
              · have c0 : decide ((2147483648 : Int) ≤ q) = false := decide_eq_false (by omega)
                have Y := Lib.hid (Hlo.out c); clear c
                clear Hhi Hlo
                go_wp2
                go_round
                case rel => exact ⟨j + 1, q, 2 * f, by first | rw [W2.out] | with_reducible rfl, by go_num, by go_num, Y.out⟩
                case measure => simp [intOf]; omega
            · obtain rfl : j = 8 := by have := hr.1; omega
              have hf : f < 256 := hr.2.2.2
              have Y := Lib.hid hr.end; clear hr
              go_wp2
              go_ret2
              refine ⟨ret2_int ?_ E.out.symm, rfl⟩
              rw [V.out, Hlog.out, Y.out]; omega
        · have hM : N / 2 ^ (k - 30) = M := by have := HM.out; unfold mant at this; rw [if_neg h30] at this; exact this
          have s3 : (N : Int) / 2 ^ (k - 30) = (M : Int) := by rw [pw_nat, ← hM]; rfl
          have n3 : ¬ (k : Int) - 30 < 0 := by omega
          clear hM hM2
          go_wp2_with fail
          go_loop [5, 6, 29] (fun mv fv iv => ∃ k m f : Nat, mv = .int .i64 m ∧ fv = .int .i64 f ∧ iv = .int .i64 k ∧ LI M k m f) (fun _ _ iv => 8 - (intOf iv).toNat)
          case atStart => exact ⟨0, M, 0, rfl, rfl, rfl, Hs.out⟩
          case round =>
            clear s5 t s3
            obtain ⟨j, m, f, rfl, rfl, rfl, hr⟩ := hrel
            by_cases hj : j < 8
            · have hi := hr.2.2.1
              have hf := hr.f hj
              unfold InM at hi
              have Hhi := Lib.hid (hr.hi hj); have Hlo := Lib.hid (hr.lo hj); clear hr
              have b1 : m * m < 2147483648 * 2147483648 := Nat.mul_lt_mul_of_lt_of_lt hi.2 hi.2
              obtain ⟨q, hq⟩ : ∃ q, m * m / 1073741824 = q := ⟨_, rfl⟩
              have hq2 : q < 4294967296 := by omega
              have b2 : (m : Int) * m = ((m * m : Nat) : Int) := by simp
              have w1 : IntKind.i64.wrap ((m : Int) * m) = (m : Int) * m := IntWalk.i64_in _ (by omega)
              have w2 : (m : Int) * m / 1073741824 = (q : Int) := by omega
              have W2 := Lib.hid w2
              have b3 : (0 : Int) ≤ (m : Int) * m := by omega
              have b4 : (m : Int) * m ≤ 4611686018427387904 := by omega
              rw [hq] at Hhi Hlo
              have q0 : (q : Int) ≤ 4294967295 := by omega
              have f0 : (f : Int) ≤ 127 := by omega
              clear b1 b2 hq hi hq2 hf
              by_cases c : 2147483648 ≤ q
              · have c0 : (2147483648 : Int) ≤ q := by omega
                have Y := Lib.hid (Hhi.out c); clear c
                obtain ⟨h, hh⟩ : ∃ h, q / 2 = h := ⟨_, rfl⟩
                have w3 : (q : Int) / 2 = (h : Int) := by omega
                rw [hh] at Y
                clear Hhi Hlo hh
                go_wp2
                go_round
                case rel => exact ⟨j + 1, h, 2 * f + 1, rfl, by go_num, by go_num, Y.out⟩
                case measure => simp [intOf]; omega
              · have c0 : decide ((2147483648 : Int) ≤ q) = false := decide_eq_false (by omega)
                have Y := Lib.hid (Hlo.out c); clear c
                clear Hhi Hlo
                go_wp2
                go_round
                case rel => exact ⟨j + 1, q, 2 * f, by first | rw [W2.out] | with_reducible rfl, by go_num, by go_num, Y.out⟩
                case measure => simp [intOf]; omega
            · obtain rfl : j = 8 := by have := hr.1; omega
              have hf : f < 256 := hr.2.2.2
              have Y := Lib.hid hr.end; clear hr
              go_wp2
              go_ret2
              refine ⟨ret2_int ?_ E.out.symm, rfl⟩
              rw [V.out, Hlog.out, Y.out]; omega
end Go.Proofs.YtgdndcbcdoogpaaDoor
