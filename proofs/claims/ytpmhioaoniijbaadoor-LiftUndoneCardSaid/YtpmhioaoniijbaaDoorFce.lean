/- Half of the reference -/
import Derived.Test.YtpmhioaoniijbaaDoorFcd
namespace Go.Proofs.YtpmhioaoniijbaaDoor
open Go.RowKit Go.Shelf

theorem ang_one {n d q : Nat} (hd : 0 < d) (hq : 0 < q) (h : d * q = 16384) : 905502432259640355 * (8 * n) / (2 * d) = ang (n * q) := by
  unfold ang
  have e := Nat.mul_div_mul_right (905502432259640355 * (8 * n)) (2 * d) hq
  rw [← e, Nat.mul_assoc 2 d q, h, show 2 * 16384 = 4096 * 8 by rfl, show 905502432259640355 * (8 * n) * q = 905502432259640355 * (n * q) * 8 by
    rw [Nat.mul_assoc, Nat.mul_assoc, Nat.mul_comm 8 (n * q), ← Nat.mul_assoc]]
  exact Nat.mul_div_mul_right _ _ (by omega)
/-- what the reference gives for half of an angle -/
theorem half_ref {n d : Int} (h : angE n d = 0) (h8 : ¬ 8 * n < -d) (h9 : ¬ d < 8 * n) : ∃ (D t o r s c : Nat), 2 * d = (D : Int) ∧ 1 ≤ D ∧ D ≤ 32768 ∧ n % (D : Int) = (t : Int) ∧ 8 * t / D = o ∧ 8 * t % D = r ∧
    ser (905502432259640355 * octR o r D / D) 62 (905502432259640355 * octR o r D / D) 1 = s ∧ ser (905502432259640355 * octR o r D / D) 62 1152921504606846976 0 = c ∧
    ((n < 0 ∧ o = 7) ∨ (¬ n < 0 ∧ o = 0)) ∧ s = sinS (hlfS n d) ∧ c = cosS (hlfS n d) ∧ hlfS n d ≤ 2048 ∧ s ≤ 1152921504606846976 ∧ c ≤ 1152921504606846976 := by
  have hp : pow2 d = true := by
    rcases angE_cases n d with h' | h' | h' | h'
    · omega
    · omega
    · omega
    · exact h'.1
  have di := pow2_in hp
  have h48 := hlf_ok di.1 di.2 h8 h9
  obtain ⟨k, hk, rfl⟩ := pow2_cases hp
  obtain ⟨q, hq⟩ : ∃ q, 16384 / 2 ^ k = q := ⟨_, rfl⟩
  have hdq : 2 ^ k * q = 16384 := by
    have : ∀ k, k < 15 → 2 ^ k * (16384 / 2 ^ k) = 16384 := by decide +kernel
    rw [← hq]; exact this k hk
  obtain ⟨d', hDe⟩ : ∃ d', 2 ^ k = d' := ⟨_, rfl⟩
  rw [hDe] at hq hdq di h h8 h9 h48 ⊢
  have hq0 : 0 < q := by
    rcases Nat.eq_zero_or_pos q with z | z
    · subst z; simp at hdq
    · exact z
  have hS : hlfS n (d' : Int) = n.natAbs * q := by
    unfold hlfS
    rw [show ((16384 : Int) / (d' : Int)).toNat = 16384 / d' from rfl, hq]
  have key : ∃ t : Nat, n % ((2 * d' : Nat) : Int) = (t : Int) ∧ ((n < 0 ∧ t = 2 * d' - n.natAbs) ∨ (¬ n < 0 ∧ t = n.natAbs)) := by
    by_cases hn : n < 0
    · refine ⟨2 * d' - n.natAbs, ?_, .inl ⟨hn, rfl⟩⟩
      have tb : 2 * d' - n.natAbs < 2 * d' := by omega
      obtain ⟨z, hz⟩ : ∃ z, 2 * d' - n.natAbs = z := ⟨_, rfl⟩
      have : n = (z : Int) + ((2 * d' : Nat) : Int) * (-1) := by omega
      rw [hz] at tb ⊢
      rw [this, Int.add_mul_emod_self_left]
      exact Int.emod_eq_of_lt (Int.natCast_nonneg _) (Int.ofNat_lt.2 tb)
    · exact ⟨n.natAbs, by rw [Int.emod_eq_of_lt (by omega) (by omega)]; omega, .inr ⟨hn, rfl⟩⟩
  obtain ⟨t, ht, hcase⟩ := key
  have hdec : (n < 0 → 8 * t / (2 * d') = 7 ∧ 8 * t % (2 * d') = 2 * d' - 8 * n.natAbs) ∧ (¬ n < 0 → 8 * t / (2 * d') = 0 ∧ 8 * t % (2 * d') = 8 * n.natAbs) := by
    refine ⟨fun hn => ?_, fun hn => ?_⟩
    · have e : 8 * t = (2 * d' - 8 * n.natAbs) + 2 * d' * 7 := by omega
      rw [e]
      refine ⟨?_, ?_⟩
      · rw [Nat.add_mul_div_left _ _ (by omega), Nat.div_eq_of_lt (by omega)]
      · rw [Nat.add_mul_mod_self_left]; exact Nat.mod_eq_of_lt (by omega)
    · have e : 8 * t = 8 * n.natAbs := by omega
      rw [e]
      exact ⟨Nat.div_eq_of_lt (by omega), Nat.mod_eq_of_lt (by omega)⟩
  have hR : octR (8 * t / (2 * d')) (8 * t % (2 * d')) (2 * d') = 8 * n.natAbs := by
    by_cases hn : n < 0
    · rw [(hdec.1 hn).1, (hdec.1 hn).2]; unfold octR; rw [if_pos (by rfl)]; omega
    · rw [(hdec.2 hn).1, (hdec.2 hn).2]; unfold octR; rw [if_neg (by decide)]
  have hx := ang_one (n := n.natAbs) (d := d') (by omega) hq0 hdq
  refine ⟨2 * d', t, 8 * t / (2 * d'), 8 * t % (2 * d'), _, _, by omega, by omega, by omega, ht, rfl, rfl, rfl, rfl, ?_, ?_, ?_, h48, ?_, ?_⟩
  · by_cases hn : n < 0
    · exact .inl ⟨hn, (hdec.1 hn).1⟩
    · exact .inr ⟨hn, (hdec.2 hn).1⟩
  · rw [hR, hx, hS]; rfl
  · rw [hR, hx, hS]; rfl
  · refine Nat.le_trans (ser_le _ _ _) ?_
    rw [hR, hx]
    unfold ang
    rw [hS] at h48
    omega
  · exact ser_le _ _ _
theorem tanP (s c N : Nat) (h : (2 * (s / 65536 * 16384) + c / 65536) / (2 * (c / 65536)) = N) : rnd ((s : Int) / 65536 * 16384) ((c : Int) / 65536) = (N : Int) := by
  unfold rnd
  have e1 : (s : Int) / 65536 = ((s / 65536 : Nat) : Int) := rfl
  have e2 : (c : Int) / 65536 = ((c / 65536 : Nat) : Int) := rfl
  rw [e1, e2, ← h]
  generalize s / 65536 = x
  generalize c / 65536 = y
  have f1 : (2 * ((x : Int) * 16384) + (y : Int)) = ((2 * (x * 16384) + y : Nat) : Int) := by omega
  have f2 : (2 * (y : Int)) = ((2 * y : Nat) : Int) := by omega
  rw [f1, f2]; rfl
theorem ediv_neg_up (m b : Nat) (hb : 0 < b) : (-(m : Int)) / (b : Int) = -(((m + b - 1) / b : Nat) : Int) := by
  have e := Nat.div_add_mod (m + b - 1) b
  have l := Nat.mod_lt (m + b - 1) hb
  generalize (m + b - 1) / b = z at *
  generalize (m + b - 1) % b = y at *
  refine ediv_of (r := (b : Int) - 1 - y) (by omega) ?_ (by omega) (by omega)
  have e2 : (((b * z + y : Nat) : Int)) = ((m + b - 1 : Nat) : Int) := by rw [e]
  rw [Int.natCast_add, Int.natCast_mul] at e2
  rw [Int.mul_neg]
  omega
theorem tanM (s c N : Nat) (hc : 65536 ≤ c) (h : (2 * ((s + 65535) / 65536 * 16384) + c / 65536 - 1) / (2 * (c / 65536)) = N) : rnd (-(s : Int) / 65536 * 16384) ((c : Int) / 65536) = -(N : Int) := by
  unfold rnd
  have e1 : -(s : Int) / 65536 = -(((s + 65535) / 65536 : Nat) : Int) := by omega
  have e2 : (c : Int) / 65536 = ((c / 65536 : Nat) : Int) := rfl
  have hy : 1 ≤ c / 65536 := by omega
  rw [e1, e2, ← h]
  generalize (s + 65535) / 65536 = x
  generalize c / 65536 = y at *
  by_cases hx : y ≤ 2 * (x * 16384)
  · have f1 : (2 * (-(x : Int) * 16384) + (y : Int)) = -((2 * (x * 16384) - y : Nat) : Int) := by omega
    have f2 : (2 * (y : Int)) = ((2 * y : Nat) : Int) := by omega
    rw [f1, f2, ediv_neg_up _ _ (by omega), show 2 * (x * 16384) - y + 2 * y - 1 = 2 * (x * 16384) + y - 1 by omega]
  · have f1 : (2 * (-(x : Int) * 16384) + (y : Int)) = ((y - 2 * (x * 16384) : Nat) : Int) := by omega
    have f2 : (2 * (y : Int)) = ((2 * y : Nat) : Int) := by omega
    have g1 : (2 * (x * 16384) + y - 1) / (2 * y) = 0 := Nat.div_eq_of_lt (by omega)
    rw [f1, f2, g1]
    have : (((y - 2 * (x * 16384) : Nat) : Int)) / ((2 * y : Nat) : Int) = (((y - 2 * (x * 16384)) / (2 * y) : Nat) : Int) := rfl
    rw [this, Nat.div_eq_of_lt (by omega)]; rfl
theorem tab_cos : allB (fun i => Nat.ble 65536 (cosS i)) 2049 = true := by decide +kernel
theorem cosS_lo {i : Nat} (h : i ≤ 2048) : 65536 ≤ cosS i := by
  have := allB_of tab_cos i (by omega)
  simpa using this
end Go.Proofs.YtpmhioaoniijbaaDoor
