/- quant: the reference's first, Nearest, Table, Quantum; the law One -/
import Derived.Test.YteioaeceobgbdaaQW
namespace Go.Proofs.Yteioaeceobgbdaa
open Go.RowKit Go.Shelf

/-- the first of n values that is at least v; n where none is -/
def fiN (s n : Nat) (v : Int) : Nat := fsG (fun q => decide (v ≤ vlN s q)) n 0
theorem fiN_is {s n r : Nat} {v : Int} (h1 : r ≤ n) (h2 : ∀ j, j < r → vlN s j < v) (h3 : r < n → v ≤ vlN s r) : fiN s n v = r :=
  fsG_is (Nat.zero_le _) (by omega) (fun j _ hj => decide_eq_false (by have := h2 j hj; omega)) (fun h => decide_eq_true (h3 (by omega)))
theorem fiN_le (s n : Nat) (v : Int) : fiN s n v ≤ n := by
  have := (fsG_le (p := fun q => decide (v ≤ vlN s q)) (n := n) (k := 0)).2
  unfold fiN
  omega
theorem fiN_no {s n : Nat} {v : Int} {j : Nat} (h : j < fiN s n v) : vlN s j < v := by
  have := of_decide_eq_false (fsG_no (p := fun q => decide (v ≤ vlN s q)) (Nat.zero_le j) h)
  omega
theorem fiN_yes {s n : Nat} {v : Int} (h : fiN s n v < n) : v ≤ vlN s (fiN s n v) :=
  of_decide_eq_true (fsG_yes (p := fun q => decide (v ≤ vlN s q)) (n := n) (k := 0) (by unfold fiN at h; omega))
def stepsUp : Nat → Bool
  | 0 => true
  | n + 1 => decide (pwN n + 16 ≤ pwN (n + 1)) && stepsUp n
theorem stepsUp_all : stepsUp 1023 = true := by decide +kernel
theorem stepsUp_at {n : Nat} : ∀ {q : Nat}, stepsUp n = true → q < n → pwN q + 16 ≤ pwN (q + 1) := by
  induction n with
  | zero => intro q _ h; omega
  | succ n ih =>
    intro q hs h
    have hs2 : (decide (pwN n + 16 ≤ pwN (n + 1)) && stepsUp n) = true := hs
    rw [Bool.and_eq_true] at hs2
    by_cases e : q = n
    · subst e; exact of_decide_eq_true hs2.1
    · exact ih hs2.2 (by omega)
theorem pwN_step {q : Nat} (h : q < 1023) : pwN q + 16 ≤ pwN (q + 1) := stepsUp_at stepsUp_all h
theorem stepN_low {s : Nat} (h : s ≤ 95) : 16 ≤ stepN s := by
  have h0 : stepN 0 = 16 := by decide +kernel
  have := stepN_mono (Nat.zero_le s) (by omega)
  omega
theorem rnd_step {a b : Int} (h : a + 256 ≤ b) : rnd a 256 + 1 ≤ rnd b 256 := by
  unfold rnd
  have h2 : (2 * a + 256) / (2 * 256) + 1 = (2 * a + 256 + 1 * (2 * 256)) / (2 * 256) := by rw [Int.add_mul_ediv_right _ _ (by decide)]
  rw [h2]
  exact Int.ediv_le_ediv (by decide) (by omega)
theorem vlN_strict {s q : Nat} (hs : s ≤ 95) (hq : q < 1023) (h : vlN s (q + 1) < 2097152) : vlN s q < vlN s (q + 1) := by
  have h1 := Nat.mul_le_mul_right (stepN s) (pwN_step hq)
  have h2 := stepN_low hs
  have h3 : (pwN q : Int) * (stepN s : Int) + 256 ≤ (pwN (q + 1) : Int) * (stepN s : Int) := by
    have e : ∀ q, (pwN q : Int) * (stepN s : Int) = ((pwN q * stepN s : Nat) : Int) := fun q => by simp
    rw [e, e]
    rw [Nat.add_mul] at h1
    omega
  have h4 := rnd_step h3
  unfold vlN at h ⊢
  omega
theorem vlN_strict' {s q : Nat} (hs : s ≤ 95) (hq : 1 ≤ q) (hq2 : q ≤ 1023) (h : vlN s q < 2097152) : vlN s (q - 1) < vlN s q := by
  obtain ⟨p, rfl⟩ : ∃ p, q = p + 1 := ⟨q - 1, by omega⟩
  exact vlN_strict hs (by omega) h
/-- the first one of the values at least as great as the value below a coefficient is that of the quantum below -/
theorem fi_back {s n q : Nat} (hs : s ≤ 95) (hq : q < n) (hn : n ≤ 1024) (h : vlN s q < 2097152) : fiN s n (vlN s q) = q :=
  fiN_is (by omega) (fun j hj => by
    have h1 := vlN_strict' hs (by omega) (by omega) h
    have h2 := vlN_mono hs (show j ≤ q - 1 by omega) (by omega)
    omega) (fun _ => Int.le_refl _)
theorem fi_fs {s n : Nat} {v : Int} (hn : 1 ≤ n) (hn2 : n ≤ 1024) (h : fiN s n v < n) : fsN s v = fiN s n v :=
  fsN_is (by omega) (fun j hj => fiN_no hj) (fun _ => fiN_yes h)
set_option maxRecDepth 100000 in
set_option maxHeartbeats 4000000 in
theorem rfirst_any (tv : Value) (s n : Nat) (v : Int) (w : World) (hs : s ≤ 95) (hn : n ≤ 1024) (h : Ints w tv (valL s n)) : Calls Try.prog 97 #[tv, .int .i64 v] w fun e w' => e = .returned (.int .i64 (fiN s n v : Nat)) ∧ w' = w := by
  have HX := Lib.hid h
  have HG := Lib.hid (fun (q : Nat) (hq : q < n) => valL_get (s := s) hq)
  have HF := Lib.hid (fun (r : Nat) a b c => fiN_is (s := s) (n := n) (v := v) (r := r) a b c)
  have HMo := Lib.hid (fun (i j : Nat) (h : i ≤ j) (hj : j < n) => vlN_mono hs h (by omega))
  have hln := valL_len s n
  obtain ⟨ta, tc, rfl⟩ := h.form
  rw [hln] at HX ⊢
  generalize valL s n = T at *
  generalize fiN s n v = R at *
  have HN := Lib.hid hn
  clear h hs hn hln
  go_enter Try.func97, Try.ntmps97
  go_wp2_with fail
  go_loop [5, 6] (fun lo hi => ∃ a z : Nat, lo = .int .i64 (a : Int) ∧ hi = .int .i64 (z : Int) ∧ a ≤ z ∧ z ≤ n ∧ (∀ j, j < a → vlN s j < v) ∧ (z < n → v ≤ vlN s z)) (fun lo hi => (intOf hi).toNat - (intOf lo).toNat)
  case atStart => exact ⟨0, n, rfl, rfl, Nat.zero_le _, Nat.le_refl _, fun j hj => by omega, fun h => by omega⟩
  case round =>
    obtain ⟨a, z, rfl, rfl, haz, hz, hlo, hhi⟩ := hrel
    have HLo := Lib.hid hlo; have HHi := Lib.hid hhi
    by_cases hlt : a < z
    · have hn := HN.out
      obtain ⟨m, hm⟩ : ∃ m, (a + z) / 2 = m := ⟨_, rfl⟩
      have hma : a ≤ m ∧ m < z := by omega
      obtain ⟨b, off, rfl, c0⟩ := HX.out.cellAt (HG.out m (by omega))
      have q1 : ((a : Int) + (z : Int)) / 2 = (m : Int) := by omega
      have q2 : ((a : Int) + (z : Int)).tdiv 2 = (m : Int) := by rw [Int.tdiv_eq_ediv_of_nonneg (by omega)]; omega
      have z1 : wrap64 ((a : Int) + (z : Int)) = (a : Int) + (z : Int) := IntWalk.wrap64_in _ (by omega)
      have z2 : IntKind.i64.wrap ((a : Int) + (z : Int)) = (a : Int) + (z : Int) := IntWalk.i64_in _ (by clear z1; omega)
      have z3 : wrap64 (m : Int) = (m : Int) := IntWalk.wrap64_in _ (by clear z1 z2; omega)
      have z4 : IntKind.i64.wrap (m : Int) = (m : Int) := IntWalk.i64_in _ (by clear z1 z2 z3; omega)
      have HN2 := Lib.hid (And.intro hma hz)
      have HM2 := Lib.hid (fun (h : vlN s m < v) j (hj : j < m + 1) => Int.lt_of_le_of_lt (HMo.out j m (by clear z1 z2 z3 z4 q1 q2; omega) (by clear z1 z2 z3 z4 q1 q2; omega)) h)
      have hm3 : m ≤ 1000000 := by clear z1 z2 z3 z4 q1 q2; omega
      have hmn : m < n := by clear z1 z2 z3 z4 q1 q2; omega
      have hmi : (m : Int) < (n : Int) := by clear z1 z2 z3 z4 q1 q2; omega
      clear hlo hhi hma haz hz hm hn
      by_cases hf : v ≤ vlN s m
      · have t1 : decide (v ≤ vlN s m) = true := decide_eq_true hf
        have Hf := Lib.hid hf
        obtain ⟨y, hy⟩ : ∃ y, vlN s m = y := ⟨_, rfl⟩
        rw [hy] at c0 t1
        clear hf HM2 hy
        go_wp2_with fail
        go_round
        case rel => exact ⟨a, m, rfl, rfl, HN2.out.1.1, by have := HN2.out; clear z1 z2 z3 z4 q1 q2; omega, HLo.out, fun _ => Hf.out⟩
        case measure => have := HN2.out; clear z1 z2 z3 z4 q1 q2; simp [intOf]; omega
      · have t1 : decide (v ≤ vlN s m) = false := decide_eq_false hf
        have Hf := Lib.hid (HM2.out (Int.not_le.1 hf))
        obtain ⟨y, hy⟩ : ∃ y, vlN s m = y := ⟨_, rfl⟩
        rw [hy] at c0 t1
        clear hf HM2 hy
        go_wp2_with fail
        go_round
        case rel => exact ⟨m + 1, z, by go_num, rfl, HN2.out.1.2, HN2.out.2, Hf.out, HHi.out⟩
        case measure => have := HN2.out; clear z1 z2 z3 z4 q1 q2; simp [intOf]; omega
    · obtain rfl : a = z := by omega
      have HR := Lib.hid (HF.out a hz HLo.out HHi.out)
      clear hlo hhi hlt haz hz
      go_wp2_with fail
      go_ret
      exact ⟨by rw [HR.out]; rfl, rfl⟩
end Go.Proofs.Yteioaeceobgbdaa
