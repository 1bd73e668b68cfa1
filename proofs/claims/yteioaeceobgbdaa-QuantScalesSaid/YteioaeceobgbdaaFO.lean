/- Step of the program and of the reference -/
import Derived.Test.YteioaeceobgbdaaFM
namespace Go.Proofs.Yteioaeceobgbdaa
open Go.RowKit

def stE (q : Int) : Int := if q < 0 ∨ 95 < q then 6 else 0
theorem stE_cases (q : Int) : (q < 0 ∧ stE q = 6) ∨ (¬ q < 0 ∧ 95 < q ∧ stE q = 6) ∨ (¬ q < 0 ∧ ¬ 95 < q ∧ stE q = 0) := by
  unfold stE; split <;> omega

set_option maxRecDepth 100000 in
set_option maxHeartbeats 2000000 in
theorem Step_any (q : Int) (w : World) : Calls Try.prog 105 #[.int .i64 q] w fun e w' => e = .returned (.tuple #[.int .i64 (onOk (stE q) (stepN q.toNat : Nat)), .int .i64 (stE q)]) ∧ Upd NoB w w' := by
  rcases stE_cases q with ⟨h, e⟩ | ⟨h1, h, e⟩ | ⟨h1, h, e⟩
  · have V := Lib.hid (show onOk (stE q) (stepN q.toNat : Nat) = 0 by rw [e]; rfl)
    have E := Lib.hid e; clear e
    go_enter Try.func105, Try.ntmps105
    go_wp2
    go_ret2
    exact ⟨ret2_int V.out.symm E.out.symm, Upd.refl _ _⟩
  · have V := Lib.hid (show onOk (stE q) (stepN q.toNat : Nat) = 0 by rw [e]; rfl)
    have E := Lib.hid e; clear e
    go_enter Try.func105, Try.ntmps105
    go_wp2
    go_ret2
    exact ⟨ret2_int V.out.symm E.out.symm, Upd.refl _ _⟩
  · have V := Lib.hid (show onOk (stE q) (stepN q.toNat : Nat) = (stepN q.toNat : Nat) by rw [e]; rfl)
    have E := Lib.hid e; clear e
    obtain ⟨n, rfl⟩ : ∃ n : Nat, q = n := ⟨q.toNat, by omega⟩
    rw [Int.toNat_natCast] at V ⊢
    obtain ⟨d, hd⟩ : ∃ d, n / 4 = d := ⟨_, rfl⟩
    have hd2 : d ≤ 23 := by omega
    have d1 : (n : Int) / 4 = (d : Int) := by omega
    have dn : ¬ (d : Int) < 0 := by omega
    have hp := Nat.pow_le_pow_right (show 0 < 2 by omega) hd2
    have hp0 := Nat.two_pow_pos d
    have e2 : (2 : Int) ^ d = ((2 ^ d : Nat) : Int) := pw_nat d
    have hv : stepN n = [4096, 4871, 5793, 6889].getD (n % 4) 0 * 2 ^ d / 256 := by unfold stepN; rw [hd]
    obtain ⟨p, ep⟩ : ∃ p, 2 ^ d = p := ⟨_, rfl⟩
    rw [ep] at e2 hv hp hp0
    clear hd ep
    rcases (show n % 4 = 0 ∨ n % 4 = 1 ∨ n % 4 = 2 ∨ n % 4 = 3 by omega) with hr | hr | hr | hr
    · have r1 : (n : Int) % 4 = 0 := by omega
      have v1 : (4096 * p / 256 : Nat) = stepN n := by rw [hv, hr]; rfl
      have H1 := Lib.hid v1
      have p1 : (p : Int) ≤ 8388608 := by omega
      have s1 : wrap64 (4096 * (2 : Int) ^ d) = 4096 * (p : Int) := by rw [e2]; exact IntWalk.wrap64_in _ (by omega)
      clear v1 hv hr hp e2
      go_enter Try.func105, Try.ntmps105
      go_wp2
      go_ret2
      exact ⟨ret2_int (by rw [V.out, ← H1.out]; omega) E.out.symm, by first | exact (Upd.refl _ _).alloc _ | exact ((Upd.refl _ _).alloc _).setCell _ (fun h => absurd h (by simp))⟩
    · have r1 : (n : Int) % 4 = 1 := by omega
      have v1 : (4871 * p / 256 : Nat) = stepN n := by rw [hv, hr]; rfl
      have H1 := Lib.hid v1
      have p1 : (p : Int) ≤ 8388608 := by omega
      have s1 : wrap64 (4871 * (2 : Int) ^ d) = 4871 * (p : Int) := by rw [e2]; exact IntWalk.wrap64_in _ (by omega)
      clear v1 hv hr hp e2
      go_enter Try.func105, Try.ntmps105
      go_wp2
      go_ret2
      exact ⟨ret2_int (by rw [V.out, ← H1.out]; omega) E.out.symm, by first | exact (Upd.refl _ _).alloc _ | exact ((Upd.refl _ _).alloc _).setCell _ (fun h => absurd h (by simp))⟩
    · have r1 : (n : Int) % 4 = 2 := by omega
      have v1 : (5793 * p / 256 : Nat) = stepN n := by rw [hv, hr]; rfl
      have H1 := Lib.hid v1
      have p1 : (p : Int) ≤ 8388608 := by omega
      have s1 : wrap64 (5793 * (2 : Int) ^ d) = 5793 * (p : Int) := by rw [e2]; exact IntWalk.wrap64_in _ (by omega)
      clear v1 hv hr hp e2
      go_enter Try.func105, Try.ntmps105
      go_wp2
      go_ret2
      exact ⟨ret2_int (by rw [V.out, ← H1.out]; omega) E.out.symm, by first | exact (Upd.refl _ _).alloc _ | exact ((Upd.refl _ _).alloc _).setCell _ (fun h => absurd h (by simp))⟩
    · have r1 : (n : Int) % 4 = 3 := by omega
      have v1 : (6889 * p / 256 : Nat) = stepN n := by rw [hv, hr]; rfl
      have H1 := Lib.hid v1
      have p1 : (p : Int) ≤ 8388608 := by omega
      have s1 : wrap64 (6889 * (2 : Int) ^ d) = 6889 * (p : Int) := by rw [e2]; exact IntWalk.wrap64_in _ (by omega)
      clear v1 hv hr hp e2
      go_enter Try.func105, Try.ntmps105
      go_wp2
      go_ret2
      exact ⟨ret2_int (by rw [V.out, ← H1.out]; omega) E.out.symm, by first | exact (Upd.refl _ _).alloc _ | exact ((Upd.refl _ _).alloc _).setCell _ (fun h => absurd h (by simp))⟩

set_option maxRecDepth 100000 in
set_option maxHeartbeats 2000000 in
theorem rStep_any (q : Int) (w : World) : Calls Try.prog 122 #[.int .i64 q] w fun e w' => e = .returned (.tuple #[.int .i64 (onOk (stE q) (stepN q.toNat : Nat)), .int .i64 (stE q)]) ∧ Upd NoB w w' := by
  rcases stE_cases q with ⟨h, e⟩ | ⟨h1, h, e⟩ | ⟨h1, h, e⟩
  · have V := Lib.hid (show onOk (stE q) (stepN q.toNat : Nat) = 0 by rw [e]; rfl)
    have E := Lib.hid e; clear e
    go_enter Try.func122, Try.ntmps122
    go_wp2
    go_ret2
    exact ⟨ret2_int V.out.symm E.out.symm, Upd.refl _ _⟩
  · have V := Lib.hid (show onOk (stE q) (stepN q.toNat : Nat) = 0 by rw [e]; rfl)
    have E := Lib.hid e; clear e
    go_enter Try.func122, Try.ntmps122
    go_wp2
    go_ret2
    exact ⟨ret2_int V.out.symm E.out.symm, Upd.refl _ _⟩
  · have V := Lib.hid (show onOk (stE q) (stepN q.toNat : Nat) = (stepN q.toNat : Nat) by rw [e]; rfl)
    have E := Lib.hid e; clear e
    obtain ⟨n, rfl⟩ : ∃ n : Nat, q = n := ⟨q.toNat, by omega⟩
    rw [Int.toNat_natCast] at V ⊢
    obtain ⟨d, hd⟩ : ∃ d, n / 4 = d := ⟨_, rfl⟩
    have hd2 : d ≤ 23 := by omega
    have d1 : (n : Int) / 4 = (d : Int) := by omega
    have dn : ¬ (d : Int) < 0 := by omega
    have hp := Nat.pow_le_pow_right (show 0 < 2 by omega) hd2
    have hp0 := Nat.two_pow_pos d
    have e2 : (2 : Int) ^ d = ((2 ^ d : Nat) : Int) := pw_nat d
    have hv : stepN n = [4096, 4871, 5793, 6889].getD (n % 4) 0 * 2 ^ d / 256 := by unfold stepN; rw [hd]
    obtain ⟨p, ep⟩ : ∃ p, 2 ^ d = p := ⟨_, rfl⟩
    rw [ep] at e2 hv hp hp0
    clear hd ep
    rcases (show n % 4 = 0 ∨ n % 4 = 1 ∨ n % 4 = 2 ∨ n % 4 = 3 by omega) with hr | hr | hr | hr
    · have r1 : (n : Int) % 4 = 0 := by omega
      have v1 : (4096 * p / 256 : Nat) = stepN n := by rw [hv, hr]; rfl
      have H1 := Lib.hid v1
      have p1 : (p : Int) ≤ 8388608 := by omega
      have s1 : wrap64 (4096 * (2 : Int) ^ d) = 4096 * (p : Int) := by rw [e2]; exact IntWalk.wrap64_in _ (by omega)
      clear v1 hv hr hp e2
      go_enter Try.func122, Try.ntmps122
      go_wp2
      go_ret2
      exact ⟨ret2_int (by rw [V.out, ← H1.out]; omega) E.out.symm, by first | exact (Upd.refl _ _).alloc _ | exact ((Upd.refl _ _).alloc _).setCell _ (fun h => absurd h (by simp))⟩
    · have r1 : (n : Int) % 4 = 1 := by omega
      have v1 : (4871 * p / 256 : Nat) = stepN n := by rw [hv, hr]; rfl
      have H1 := Lib.hid v1
      have p1 : (p : Int) ≤ 8388608 := by omega
      have s1 : wrap64 (4871 * (2 : Int) ^ d) = 4871 * (p : Int) := by rw [e2]; exact IntWalk.wrap64_in _ (by omega)
      clear v1 hv hr hp e2
      go_enter Try.func122, Try.ntmps122
      go_wp2
      go_ret2
      exact ⟨ret2_int (by rw [V.out, ← H1.out]; omega) E.out.symm, by first | exact (Upd.refl _ _).alloc _ | exact ((Upd.refl _ _).alloc _).setCell _ (fun h => absurd h (by simp))⟩
    · have r1 : (n : Int) % 4 = 2 := by omega
      have v1 : (5793 * p / 256 : Nat) = stepN n := by rw [hv, hr]; rfl
      have H1 := Lib.hid v1
      have p1 : (p : Int) ≤ 8388608 := by omega
      have s1 : wrap64 (5793 * (2 : Int) ^ d) = 5793 * (p : Int) := by rw [e2]; exact IntWalk.wrap64_in _ (by omega)
      clear v1 hv hr hp e2
      go_enter Try.func122, Try.ntmps122
      go_wp2
      go_ret2
      exact ⟨ret2_int (by rw [V.out, ← H1.out]; omega) E.out.symm, by first | exact (Upd.refl _ _).alloc _ | exact ((Upd.refl _ _).alloc _).setCell _ (fun h => absurd h (by simp))⟩
    · have r1 : (n : Int) % 4 = 3 := by omega
      have v1 : (6889 * p / 256 : Nat) = stepN n := by rw [hv, hr]; rfl
      have H1 := Lib.hid v1
      have p1 : (p : Int) ≤ 8388608 := by omega
      have s1 : wrap64 (6889 * (2 : Int) ^ d) = 6889 * (p : Int) := by rw [e2]; exact IntWalk.wrap64_in _ (by omega)
      clear v1 hv hr hp e2
      go_enter Try.func122, Try.ntmps122
      go_wp2
      go_ret2
      exact ⟨ret2_int (by rw [V.out, ← H1.out]; omega) E.out.symm, by first | exact (Upd.refl _ _).alloc _ | exact ((Upd.refl _ _).alloc _).setCell _ (fun h => absurd h (by simp))⟩
end Go.Proofs.Yteioaeceobgbdaa
