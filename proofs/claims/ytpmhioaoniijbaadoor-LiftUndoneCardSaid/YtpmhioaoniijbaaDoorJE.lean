/- the turn by n / d: the plain mathematics -/
import Derived.Test.YtpmhioaoniijbaaDoorJA
import Derived.Test.YtpmhioaoniijbaaDoorFZ
namespace Go.Proofs.YtpmhioaoniijbaaDoor

theorem tab_tan : allB (fun i => Nat.ble (tanR i) 16384) 2049 = true := by decide +kernel
theorem tan_le {i : Nat} (h : i ≤ 2048) : tanR i ≤ 16384 := by
  have := allB_of tab_tan i (by omega)
  simpa using this
theorem sinR_le {r : Nat} (h : r < 4096) : sinR r ≤ 16384 := by
  have := around h
  rcases Nat.lt_or_ge 16384 (sinR r) with k | k
  · have := Nat.mul_le_mul (show 16385 ≤ sinR r by omega) (show 16385 ≤ sinR r by omega)
    omega
  · exact k
theorem cosR_le {r : Nat} (h : r < 4096) : cosR r ≤ 16384 := by
  have := around h
  rcases Nat.lt_or_ge 16384 (cosR r) with k | k
  · have := Nat.mul_le_mul (show 16385 ≤ cosR r by omega) (show 16385 ≤ cosR r by omega)
    omega
  · exact k
theorem cir_bd (S : Int) : Bd 16384 (cir S) := by
  unfold cir
  have hr : (S % 16384).toNat % 4096 < 4096 := Nat.mod_lt _ (by omega)
  refine rot_bd ?_ _
  have := sinR_le hr
  have := cosR_le hr
  unfold Bd
  simp only
  omega
/-- the divisor of a turn -/
def turP (d : Int) : Bool := pow2 d && decide (d ≤ 2048)
def turE (n d : Int) : Int := if turP d = false then 1 else if n < -1099511627776 ∨ 1099511627776 < n then 6 else 0
theorem turE_cases (n d : Int) : (turP d = false ∧ turE n d = 1) ∨ (turP d = true ∧ (n < -1099511627776 ∨ 1099511627776 < n) ∧ turE n d = 6) ∨ (turP d = true ∧ ¬ n < -1099511627776 ∧ ¬ 1099511627776 < n ∧ turE n d = 0) := by
  unfold turE
  cases turP d with
  | false => simp
  | true =>
    simp only [reduceCtorEq, if_false]
    split <;> simp_all
def turQ (n d : Int) : Nat := ((8 * (n % d) + d - 1) / (2 * d)).toNat
def turR (n d : Int) : Int := 8 * (n % d) - 2 * (turQ n d : Int) * d
def turA (n d : Int) : Int := hlfV (turR n d) (8 * d)
def turB (n d : Int) : Int := (cir (turR n d * (16384 / (8 * d)))).2
theorem turP_cases {d : Int} (h : turP d = true) : ∃ k, k < 12 ∧ d = ((2 ^ k : Nat) : Int) := by
  unfold turP at h
  simp only [Bool.and_eq_true, decide_eq_true_eq] at h
  obtain ⟨k, hk, rfl⟩ := pow2_cases h.1
  refine ⟨k, ?_, rfl⟩
  rcases Nat.lt_or_ge k 12 with hl | hl
  · exact hl
  · have := Nat.pow_le_pow_right (show 0 < 2 by omega) hl
    omega
theorem turP_in {d : Int} (h : turP d = true) : 1 ≤ d ∧ d ≤ 2048 := by
  obtain ⟨k, hk, rfl⟩ := turP_cases h
  have a := Nat.two_pow_pos k
  have b := Nat.pow_le_pow_right (show 0 < 2 by omega) (show k ≤ 11 by omega)
  omega
theorem turP_eight {d : Int} (h : turP d = true) : pow2 (8 * d) = true := by
  obtain ⟨k, hk, rfl⟩ := turP_cases h
  have := pow2_mk (k := k + 3) (by omega)
  rw [show ((2 ^ (k + 3) : Nat) : Int) = 8 * ((2 ^ k : Nat) : Int) by rw [Nat.pow_add]; omega] at this
  exact this
/-- what is left is at most an eighth of a turn -/
theorem tur_facts {n d : Int} (h : 1 ≤ d) : 0 ≤ n % d ∧ n % d < d ∧ turQ n d ≤ 4 ∧ ((8 * (n % d) + d - 1) / (2 * d)) = (turQ n d : Int) ∧ -d < turR n d ∧ turR n d ≤ d := by
  have t0 := Int.emod_nonneg n (show d ≠ 0 by omega)
  have t1 := Int.emod_lt_of_pos n (show 0 < d by omega)
  have e : turR n d = 8 * (n % d) - 2 * (turQ n d : Int) * d := rfl
  have q : turQ n d = ((8 * (n % d) + d - 1) / (2 * d)).toNat := rfl
  generalize n % d = t at *
  have dm := Int.mul_ediv_add_emod (8 * t + d - 1) (2 * d)
  have m0 := Int.emod_nonneg (8 * t + d - 1) (show 2 * d ≠ 0 by omega)
  have m1 := Int.emod_lt_of_pos (8 * t + d - 1) (show 0 < 2 * d by omega)
  have z0 := Int.ediv_nonneg (show 0 ≤ 8 * t + d - 1 by omega) (show 0 ≤ 2 * d by omega)
  generalize (8 * t + d - 1) / (2 * d) = z at *
  generalize (8 * t + d - 1) % (2 * d) = m at *
  obtain ⟨k, rfl⟩ : ∃ k : Nat, z = k := ⟨z.toNat, by omega⟩
  rw [Int.toNat_natCast] at q
  subst q
  generalize turQ n d = k at *
  generalize turR n d = r at *
  have k5 : k ≤ 4 := by
    rcases Nat.lt_or_ge 4 k with hk | hk
    · have := Int.mul_le_mul_of_nonneg_left (show (5 : Int) ≤ (k : Int) by omega) (show 0 ≤ 2 * d by omega)
      omega
    · exact hk
  have c : 2 * (k : Int) * d = 2 * d * k := by rw [Int.mul_assoc, Int.mul_comm (k : Int) d, Int.mul_assoc]
  rw [c] at e
  refine ⟨t0, t1, k5, rfl, ?_, ?_⟩ <;> omega
theorem tur_half {n d : Int} (h : turP d = true) : hlfE (turR n d) (8 * d) = 0 ∧ angE (turR n d) (8 * d) = 0 := by
  have i := turP_in h
  obtain ⟨_, _, _, _, r1, r2⟩ := tur_facts (n := n) i.1
  have p := turP_eight h
  have a : angE (turR n d) (8 * d) = 0 := by
    rcases angE_cases (turR n d) (8 * d) with h' | h' | h' | h'
    · rw [p] at h'; exact absurd h'.1 (by decide)
    · omega
    · omega
    · exact h'.2.2.2
  refine ⟨?_, a⟩
  rcases hlf_cases (turR n d) (8 * d) with h' | h' | h' | h'
  · exact absurd a h'.1
  · omega
  · omega
  · exact h'.2.2.2
theorem turA_in {n d : Int} (h : turP d = true) : -16384 ≤ turA n d ∧ turA n d ≤ 16384 := by
  have i := turP_in h
  obtain ⟨_, _, _, _, r1, r2⟩ := tur_facts (n := n) i.1
  have hs := hlf_ok (n := turR n d) (d := 8 * d) (by omega) (by omega) (by omega) (by omega)
  have := tan_le hs
  unfold turA hlfV
  split <;> omega
theorem turB_in (n d : Int) : -16384 ≤ turB n d ∧ turB n d ≤ 16384 := by
  have := cir_bd (turR n d * (16384 / (8 * d)))
  unfold Bd at this
  unfold turB
  omega
/-- what Turn and Back answer -/
def onR (b : Bool) (p : Int × Int) : Int × Int := if b then p else (0, 0)
def inB (M x : Int) : Bool := decide (-M ≤ x ∧ x ≤ M)
def ttE (M x y n d : Int) : Int := if turE n d = 0 then (if inB M x && inB M y then 0 else 6) else turE n d
def turnF (n d : Int) (p : Int × Int) : Int × Int := forthF (turQ n d) (turA n d) (turB n d) p
def backT (n d : Int) (p : Int × Int) : Int × Int := backF (turQ n d) (turA n d) (turB n d) p
def turnV (x y n d : Int) : Int × Int := if ttE 1073741824 x y n d = 0 then turnF n d (x, y) else (0, 0)
def backV (x y n d : Int) : Int × Int := if ttE 4294967296 x y n d = 0 then backT n d (x, y) else (0, 0)
theorem ttE_cases (M x y n d : Int) : (turE n d ≠ 0 ∧ ttE M x y n d = turE n d) ∨ (turE n d = 0 ∧ (inB M x && inB M y) = false ∧ ttE M x y n d = 6) ∨ (turE n d = 0 ∧ (inB M x && inB M y) = true ∧ ttE M x y n d = 0) := by
  unfold ttE
  by_cases h : turE n d = 0
  · rw [if_pos h]
    cases hb : (inB M x && inB M y) with
    | false => exact .inr (.inl ⟨h, rfl, rfl⟩)
    | true => exact .inr (.inr ⟨h, rfl, rfl⟩)
  · rw [if_neg h]; exact .inl ⟨h, rfl⟩
theorem inB_bd {M x y : Int} (h : (inB M x && inB M y) = true) : Bd M (x, y) := by
  unfold inB at h
  simp only [Bool.and_eq_true, decide_eq_true_eq] at h
  exact ⟨h.1.1, h.1.2, h.2.1, h.2.2⟩
end Go.Proofs.YtpmhioaoniijbaaDoor
