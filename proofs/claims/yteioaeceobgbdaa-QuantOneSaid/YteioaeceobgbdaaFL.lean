/- Log of the program and of the reference -/
import Derived.Test.YteioaeceobgbdaaFF
import Derived.Deep.QuietTactic
import Derived.BigQuiet
namespace Go.Proofs.Yteioaeceobgbdaa
open Go.RowKit

theorem Upd.draw {S : Nat → Prop} {a w : World} (h : Upd S a w) (n : Nat) : Upd S a (w.drewN n) := ⟨h.os, h.tape, h.output, h.size, h.block⟩
def pw (x : Int) : Int := 2 ^ x.toNat
theorem pw_in {x : Int} (h1 : x ≤ 62) : 1 ≤ pw x ∧ pw x ≤ 4611686018427387904 := by
  have a := Nat.two_pow_pos x.toNat
  have b := Nat.pow_le_pow_right (show 0 < 2 by omega) (show x.toNat ≤ 62 by omega)
  have c : pw x = ((2 ^ x.toNat : Nat) : Int) := by simp [pw]
  omega
def pwB (x n : Int) : Bool := decide (pw x ≤ n)
set_option maxRecDepth 100000 in
theorem log1_any (x n : Int) (a : Addr) (w : World) (hc : w.cell? a = some (.int .i64 n)) (h0 : 0 ≤ x) (h1 : x ≤ 62) :
    Calls Try.prog 133 #[.int .i64 x, .pointer (some a)] w fun e w' => e = .returned (.bool (pwB x n)) ∧ ∃ d, w' = w.drewN d := by
  have p := pw_in h1
  have s1 : wrap64 ((2 : Int) ^ x.toNat) = pw x := IntWalk.wrap64_in _ (by show _ ≤ pw x ∧ pw x ≤ _; omega)
  have nn : ¬ x < 0 := by omega
  go_enter Try.func133, Try.ntmps133
  go_wp2
  go_quiet (fail)
  go_wp2
  go_ret
  exact ⟨rfl, _, rfl⟩
def LgI (n lo hi : Int) : Prop := 0 ≤ lo ∧ lo ≤ hi ∧ hi ≤ 62 ∧ pw lo ≤ n ∧ n < 2 * pw hi
theorem lgI_end {n lo : Int} (h : LgI n lo lo) : lo = (n.toNat.log2 : Nat) := by
  obtain ⟨h0, _, h1, h2, h3⟩ := h
  obtain ⟨k, rfl⟩ : ∃ k : Nat, lo = k := ⟨lo.toNat, by omega⟩
  have c : pw k = ((2 ^ k : Nat) : Int) := by simp [pw]
  have p := pw_in h1
  rw [log2_eq (e := k) (by omega) (by rw [Nat.pow_succ]; omega)]
set_option maxRecDepth 100000 in
set_option maxHeartbeats 1000000 in
theorem greatest_log (n : Int) (a : Addr) (w : World) (hc : w.cell? a = some (.int .i64 n)) (h0 : 1 ≤ n) (h1 : n ≤ 4611686018427387904) :
    Calls Try.prog 132 #[.int .i64 0, .int .i64 62, .func (.func 133) #[] #[.pointer (some a)]] w fun e w' => e = .returned (.int .i64 (n.toNat.log2 : Nat)) ∧ ∃ d, w' = w.drewN d := by
  have st : LgI n 0 62 := ⟨by omega, by omega, by omega, by unfold pw; simpa using h0, by unfold pw; simp; omega⟩
  have Hst := Lib.hid st; clear st
  go_enter Try.func132, Try.ntmps132
  go_wp2_with fail
  go_loopw [0, 1] (fun l h wr => ∃ (lo hi : Int) (d : Nat), l = .int .i64 lo ∧ h = .int .i64 hi ∧ LgI n lo hi ∧ wr = w.drewN d) (fun l h _ => (intOf h - intOf l).toNat)
  case atStart => exact ⟨0, 62, 0, rfl, rfl, Hst.out, rfl⟩
  case round =>
    obtain ⟨lo, hi, d, rfl, rfl, hr, rfl⟩ := hrel
    have b := hr
    obtain ⟨b0, b1, b2, b3, b4⟩ := b
    by_cases hlt : lo < hi
    · obtain ⟨m, hm⟩ : ∃ m, hi - (hi - lo) / 2 = m := ⟨_, rfl⟩
      have m1 : lo < m ∧ m ≤ hi := by omega
      have w1 : IntKind.i64.wrap (hi - lo) = hi - lo := IntWalk.i64_in _ (by omega)
      have w2 : IntKind.i64.wrap (hi - (hi - lo) / 2) = m := by rw [hm]; exact IntWalk.i64_in _ (by omega)
      have Hm := Lib.hid hm; clear hm
      cases hs : pwB m n with
      | true =>
        have Hb := Lib.hid (show LgI n m hi from ⟨by omega, by omega, b2, of_decide_eq_true hs, b4⟩)
        have Hs := Lib.hid hs; clear hs b3 b4 hr
        go_wp2_with fail
        refine (log1_any m n a (w.drewN d) hc (by omega) (by omega)).mono ?_
        rintro e w' ⟨rfl, d2, rfl⟩
        rw [Hs.out]
        go_wp2
        go_roundw
        case rel => exact ⟨m, hi, d + d2, rfl, rfl, Hb.out, by first | rfl | rw [World.drewN_drewN]⟩
        case measure => simp [intOf]; omega
      | false =>
        have e2 : 2 * pw (m - 1) = pw m := by
          unfold pw
          rw [show m.toNat = (m - 1).toNat + 1 by omega, Int.pow_succ]; omega
        have Hb := Lib.hid (show LgI n lo (m - 1) from ⟨by omega, by omega, by omega, b3, by have := of_decide_eq_false hs; omega⟩)
        have Hs := Lib.hid hs; clear hs b3 b4 hr e2
        go_wp2_with fail
        refine (log1_any m n a (w.drewN d) hc (by omega) (by omega)).mono ?_
        rintro e w' ⟨rfl, d2, rfl⟩
        rw [Hs.out]
        go_wp2
        go_roundw
        case rel => exact ⟨lo, m - 1, d + d2, rfl, rfl, Hb.out, by first | rfl | rw [World.drewN_drewN]⟩
        case measure => simp [intOf]; omega
    · obtain rfl : lo = hi := by omega
      have He := Lib.hid (lgI_end hr)
      clear b3 b4 hr
      go_wp2_with fail
      go_ret
      exact ⟨ret_int He.out, d, rfl⟩
theorem pw_nat (k : Nat) : (2 : Int) ^ k = ((2 ^ k : Nat) : Int) := by simp
theorem scaled_left (v e : Nat) (w : World) (he : e ≤ 40) (hv : v * 2 ^ e ≤ 9223372036854775807) :
    Calls Try.prog 134 #[.int .i64 v, .int .i64 e] w fun r w' => r = .returned (.int .i64 (v * 2 ^ e : Nat)) ∧ w' = w := by
  have s1 : wrap64 ((v : Int) * 2 ^ e) = ((v * 2 ^ e : Nat) : Int) := by rw [pw_nat, ← Int.natCast_mul]; exact IntWalk.wrap64_in _ (by omega)
  have nn : ¬ (e : Int) < 0 := by omega
  clear hv
  go_enter Try.func134, Try.ntmps134
  go_wp2
  go_ret
  exact ⟨rfl, rfl⟩
theorem scaled_right (v e : Nat) (w : World) (he : e ≤ 40) (h0 : 0 < e) :
    Calls Try.prog 134 #[.int .i64 v, .int .i64 (-(e : Int))] w fun r w' => r = .returned (.int .i64 (v / 2 ^ e : Nat)) ∧ w' = w := by
  have s1 : ∀ w, (Op.shift .shr .i64 (v : Int) .i64 (e : Int)).run Try.prog w = .ok (.int .i64 (v / 2 ^ e : Nat)) w := fun w => by
    rw [run_shr _ _ _ _ _ (by omega) (by show (e : Int) ≤ 64; omega), Int.toNat_natCast, pw_nat]; rfl
  have nn : ¬ (e : Int) < 0 := by omega
  have n2 : IntKind.i64.wrap (-(-(e : Int))) = (e : Int) := by rw [Int.neg_neg]; exact IntWalk.i64_in _ (by omega)
  have n3 : -(-(e : Int)) = (e : Int) := Int.neg_neg _
  go_enter Try.func134, Try.ntmps134
  go_wp2
  go_ret
  exact ⟨rfl, rfl⟩

def lgE (n : Int) : Int := if n < 1 ∨ 4611686018427387904 < n then 6 else 0
theorem lgE_cases (n : Int) : (n < 1 ∧ lgE n = 6) ∨ (¬ n < 1 ∧ 4611686018427387904 < n ∧ lgE n = 6) ∨ (¬ n < 1 ∧ ¬ 4611686018427387904 < n ∧ lgE n = 0) := by
  unfold lgE; split <;> omega
/-- the loop of eight: after k rounds from M -/
def LI (M k m f : Nat) : Prop := k ≤ 8 ∧ liter k (M, 0) = (m, f) ∧ InM m ∧ f < 256
theorem LI.hi {M k m f : Nat} (h : LI M k m f) (hk : k < 8) (hq : 2147483648 ≤ m * m / 1073741824) : LI M (k + 1) (m * m / 1073741824 / 2) (2 * f + 1) := by
  obtain ⟨h1, h2, h3, h4⟩ := h
  have e : liter (k + 1) (M, 0) = (m * m / 1073741824 / 2, 2 * f + 1) := by rw [liter, h2]; unfold lstep; rw [if_pos hq]
  have a := lstep_in (p := (m, f)) h3
  unfold lstep at a
  rw [if_pos hq] at a
  have b := liter_f (m := M) (k + 1)
  rw [e] at b
  have c := Nat.pow_le_pow_right (show 0 < 2 by omega) (show k + 1 ≤ 8 by omega)
  exact ⟨by omega, e, a, by simp only at b; omega⟩
theorem LI.lo {M k m f : Nat} (h : LI M k m f) (hk : k < 8) (hq : ¬ 2147483648 ≤ m * m / 1073741824) : LI M (k + 1) (m * m / 1073741824) (2 * f) := by
  obtain ⟨h1, h2, h3, h4⟩ := h
  have e : liter (k + 1) (M, 0) = (m * m / 1073741824, 2 * f) := by rw [liter, h2]; unfold lstep; rw [if_neg hq]
  have a := lstep_in (p := (m, f)) h3
  unfold lstep at a
  rw [if_neg hq] at a
  have b := liter_f (m := M) (k + 1)
  rw [e] at b
  have c := Nat.pow_le_pow_right (show 0 < 2 by omega) (show k + 1 ≤ 8 by omega)
  exact ⟨by omega, e, a, by simp only at b; omega⟩
theorem LI.end {M m f : Nat} (h : LI M 8 m f) : (liter 8 (M, 0)).2 = f := by rw [h.2.1]
theorem LI.f {M k m f : Nat} (h : LI M k m f) (hk : k < 8) : f < 128 := by
  have b := liter_f (m := M) k
  rw [h.2.1] at b
  have c := Nat.pow_le_pow_right (show 0 < 2 by omega) (show k ≤ 7 by omega)
  simp only at b
  omega
end Go.Proofs.Yteioaeceobgbdaa
