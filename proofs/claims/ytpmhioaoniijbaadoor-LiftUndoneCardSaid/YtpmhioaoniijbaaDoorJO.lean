/- the sum of squares of a list, step by step: the plain mathematics -/
import Derived.Test.YtpmhioaoniijbaaDoorJN
import Derived.Test.YtpmhioaoniijbaaDoorJH
namespace Go.Proofs.YtpmhioaoniijbaaDoor

def nrm (p : Int × Int) : Int := p.1 * p.1 + p.2 * p.2
theorem sq_nn (x : Int) : 0 ≤ x * x := by
  rcases Int.le_total 0 x with h | h
  · exact Int.mul_nonneg h h
  · have := Int.mul_nonneg (show 0 ≤ -x by omega) (show 0 ≤ -x by omega)
    grind
theorem nrm_rot (p : Int × Int) : ∀ k, nrm (rot p k) = nrm p
  | 0 => rfl
  | k + 1 => by
    rw [← nrm_rot p k]
    show (-(rot p k).2) * (-(rot p k).2) + (rot p k).1 * (rot p k).1 = (rot p k).1 * (rot p k).1 + (rot p k).2 * (rot p k).2
    generalize (rot p k).1 = u
    generalize (rot p k).2 = v
    grind
theorem nrm_rotB (p : Int × Int) : ∀ k, nrm (rotB p k) = nrm p
  | 0 => rfl
  | k + 1 => by
    rw [← nrm_rotB p k]
    show (rotB p k).2 * (rotB p k).2 + (-(rotB p k).1) * (-(rotB p k).1) = (rotB p k).1 * (rotB p k).1 + (rotB p k).2 * (rotB p k).2
    generalize (rotB p k).1 = u
    generalize (rotB p k).2 = v
    grind
theorem sc_err (v : Int) : ∃ e, 16384 * sc v = v + e ∧ -8192 ≤ e ∧ e ≤ 8192 := by
  unfold sc
  exact ⟨16384 * ((v + 8192) / 16384) - v, by omega, by omega, by omega⟩
theorem lift_near {A B S r s : Int} {p : Int × Int} (hS : S = 1 ∨ S = -1) (hf : Fit A B) (rp : Bd r p) (sp : Bd s (liftF A B S p)) :
    -((r + s) * (r + 16100)) ≤ 8000 * (nrm (liftF A B S p) - nrm p) ∧ 8000 * (nrm (liftF A B S p) - nrm p) ≤ (r + s) * (r + 16100) := by
  obtain ⟨x, y⟩ := p
  obtain ⟨x1, E1⟩ : ∃ x1, st0 A (-S) (x, y) = (x1, y) := ⟨_, rfl⟩
  obtain ⟨y1, E2⟩ : ∃ y1, st1 B S (x1, y) = (x1, y1) := ⟨_, rfl⟩
  obtain ⟨x2, E3⟩ : ∃ x2, st0 A (-S) (x1, y1) = (x2, y1) := ⟨_, rfl⟩
  have E : liftF A B S (x, y) = (x2, y1) := by unfold liftF; rw [E1, E2, E3]
  rw [E] at sp ⊢
  unfold st0 at E1 E3
  unfold st1 at E2
  simp only [Prod.mk.injEq, and_true, true_and] at E1 E2 E3
  obtain ⟨e1, k1, b1, c1⟩ := sc_err (A * y)
  obtain ⟨e2, k2, b2, c2⟩ := sc_err (B * x1)
  obtain ⟨e3, k3, b3, c3⟩ := sc_err (A * y1)
  generalize sc (A * y) = q1 at *
  generalize sc (B * x1) = q2 at *
  generalize sc (A * y1) = q3 at *
  obtain ⟨u1, u2, u3, u4⟩ := rp
  obtain ⟨v1, v2, v3, v4⟩ := sp
  simp only at u1 u2 u3 u4 v1 v2 v3 v4
  have key : -((r + s) * (r + 16100)) ≤ 8000 * (x2 * x2 + y1 * y1 - x * x - y * y) ∧ 8000 * (x2 * x2 + y1 * y1 - x * x - y * y) ≤ (r + s) * (r + 16100) := by
    rcases hS with rfl | rfl
    · exact near_core (a := A) (b := B) (e1 := -e1) (e2 := e2) (e3 := -e3) (x1 := x1) (by grind) (by grind) (by grind) hf (by omega) (by omega) (by omega) ⟨u1, u2⟩ ⟨u3, u4⟩ ⟨v1, v2⟩ ⟨v3, v4⟩
    · exact near_core (a := -A) (b := -B) (e1 := e1) (e2 := -e2) (e3 := e3) (x1 := x1) (by grind) (by grind) (by grind) hf.neg (by omega) (by omega) (by omega) ⟨u1, u2⟩ ⟨u3, u4⟩ ⟨v1, v2⟩ ⟨v3, v4⟩
  unfold nrm
  simp only
  have e : x2 * x2 + y1 * y1 - (x * x + y * y) = x2 * x2 + y1 * y1 - x * x - y * y := by omega
  rw [e]; exact key
/-- a root of a natural number, as an integer -/
theorem sqr_any {N : Int} (h0 : 0 ≤ N) : ∃ r : Int, 0 ≤ r ∧ r * r ≤ N ∧ N < (r + 1) * (r + 1) := by
  have : ∀ n : Nat, ∃ r : Nat, r * r ≤ n ∧ n < (r + 1) * (r + 1) := by
    intro n
    induction n with
    | zero => exact ⟨0, by omega, by omega⟩
    | succ n ih =>
      obtain ⟨r, h1, h2⟩ := ih
      by_cases h : n + 1 < (r + 1) * (r + 1)
      · exact ⟨r, by omega, h⟩
      · refine ⟨r + 1, by omega, ?_⟩
        have : (r + 1 + 1) * (r + 1 + 1) = (r + 1) * (r + 1) + 2 * (r + 1) + 1 := by grind
        omega
  obtain ⟨r, a, b⟩ := this N.toNat
  refine ⟨r, by omega, ?_, ?_⟩
  · have := Int.ofNat_le.2 a; push_cast at this; omega
  · have := Int.ofNat_lt.2 b; push_cast at this; omega
theorem le_root {x y r N : Int} (h : N = x * x + y * y) (hr : 0 ≤ r) (hN : N < (r + 1) * (r + 1)) : -r ≤ x ∧ x ≤ r := by
  have hy := sq_nn y
  constructor
  · rcases Int.lt_or_le x (-r) with k | k
    · have a := Int.mul_nonneg (show 0 ≤ -x - (r + 1) by omega) (show 0 ≤ -x + (r + 1) by omega)
      grind
    · exact k
  · rcases Int.lt_or_le r x with k | k
    · have a := Int.mul_nonneg (show 0 ≤ x - (r + 1) by omega) (show 0 ≤ x + (r + 1) by omega)
      grind
    · exact k
theorem bd_root {p : Int × Int} {r : Int} (hr : 0 ≤ r) (hN : nrm p < (r + 1) * (r + 1)) : Bd r p := by
  have a := le_root (x := p.1) (y := p.2) rfl hr hN
  have b := le_root (x := p.2) (y := p.1) (N := nrm p) (by unfold nrm; omega) hr hN
  exact ⟨a.1, a.2, b.1, b.2⟩
theorem le_of_mul {p a b : Int} (hp : 0 < p) (h : p * a ≤ p * b) : a ≤ b := Int.le_of_mul_le_mul_left h hp
/-- roots, in both directions -/
theorem sqr_near {A B S r s : Int} {p : Int × Int} (hS : S = 1 ∨ S = -1) (hf : Fit A B) (r0 : 0 ≤ r) (s0 : 0 ≤ s) (r1 : r * r ≤ nrm p) (r2 : nrm p < (r + 1) * (r + 1)) (s1 : s * s ≤ nrm (liftF A B S p)) (s2 : nrm (liftF A B S p) < (s + 1) * (s + 1)) :
    8000 * (s - r) ≤ r + 32100 ∧ 8000 * (r - s) ≤ r + 32100 := by
  have k := lift_near hS hf (bd_root r0 r2) (bd_root s0 s2)
  generalize nrm (liftF A B S p) = M at *
  generalize nrm p = N at *
  by_cases hz : r + s = 0
  · omega
  have hp : 0 < r + s := by omega
  constructor
  · refine le_of_mul hp ?_
    have e : (r + s) * (8000 * (s - r)) = 8000 * (s * s) - 8000 * (r * r) := by grind
    have e2 : (r + s) * (r + 32100) = (r + s) * (r + 16100) + 16000 * (r + s) := by grind
    have e3 : (r + 1) * (r + 1) = r * r + 2 * r + 1 := by grind
    rw [e, e2]
    omega
  · refine le_of_mul hp ?_
    have e : (r + s) * (8000 * (r - s)) = 8000 * (r * r) - 8000 * (s * s) := by grind
    have e2 : (r + s) * (r + 32100) = (r + s) * (r + 16100) + 16000 * (r + s) := by grind
    have e3 : (s + 1) * (s + 1) = s * s + 2 * s + 1 := by grind
    rw [e, e2]
    omega
/-- the sum of the squares grows by a sixteenth, at most -/
theorem nrm_grow {A B S : Int} {p : Int × Int} (hS : S = 1 ∨ S = -1) (hf : Fit A B) : 16 * nrm (liftF A B S p) ≤ 17 * nrm p + 6400 := by
  have n0 : 0 ≤ nrm p := by unfold nrm; have := sq_nn p.1; have := sq_nn p.2; omega
  have m0 : 0 ≤ nrm (liftF A B S p) := by unfold nrm; have := sq_nn (liftF A B S p).1; have := sq_nn (liftF A B S p).2; omega
  obtain ⟨r, r0, r1, r2⟩ := sqr_any n0
  obtain ⟨s, s0, s1, s2⟩ := sqr_any m0
  have k := (lift_near hS hf (bd_root r0 r2) (bd_root s0 s2)).2
  have h := (sqr_near hS hf r0 s0 r1 r2 s1 s2).1
  generalize nrm (liftF A B S p) = M at *
  generalize nrm p = N at *
  have g : (r + s) * (r + 16100) ≤ (3 * r + 6) * (r + 16100) := Int.mul_le_mul_of_nonneg_right (by omega) (by omega)
  have e : (3 * r + 6) * (r + 16100) = 3 * (r * r) + 48306 * r + 96600 := by grind
  have q := sq_nn (r - 100)
  have eq : (r - 100) * (r - 100) = r * r - 200 * r + 10000 := by grind
  rw [eq] at q
  rw [e] at g
  generalize r * r = R at *
  omega
/-! a list -/
def sq : List Int → Int
  | [] => 0
  | x :: xs => x * x + sq xs
theorem sq_ge : ∀ xs : List Int, 0 ≤ sq xs
  | [] => Int.le_refl _
  | x :: xs => by have := sq_nn x; have := sq_ge xs; unfold sq; omega
theorem sq_set : ∀ (xs : List Int) (i : Nat) (v : Int), i < xs.length → sq (xs.set i v) = sq xs - xs.getD i 0 * xs.getD i 0 + v * v
  | [], i, v, h => by simp at h
  | x :: xs, 0, v, _ => by simp only [List.set_cons_zero, sq, List.getD_cons_zero]; omega
  | x :: xs, i + 1, v, h => by
    have := sq_set xs i v (by simpa using h)
    simp only [List.set_cons_succ, sq, List.getD_cons_succ]
    omega
theorem sq_get : ∀ (xs : List Int) (i : Nat), xs.getD i 0 * xs.getD i 0 ≤ sq xs
  | [], i => by simp [sq]
  | x :: xs, 0 => by have := sq_ge xs; simp only [sq, List.getD_cons_zero]; omega
  | x :: xs, i + 1 => by have := sq_nn x; have := sq_get xs i; simp only [sq, List.getD_cons_succ]; omega
theorem getD_set_ne {xs : List Int} {i j : Nat} (v : Int) (h : i ≠ j) : (xs.set i v).getD j 0 = xs.getD j 0 := by
  simp [List.getD_eq_getElem?_getD, List.getElem?_set, h]
theorem getD_set_eq {xs : List Int} {i : Nat} (v : Int) (h : i < xs.length) : (xs.set i v).getD i 0 = v := by
  simp [List.getD_eq_getElem?_getD, List.getElem?_set, h]
theorem sq_two {xs : List Int} {i j : Nat} (hi : i < xs.length) (hj : j < xs.length) (h : i ≠ j) : xs.getD i 0 * xs.getD i 0 + xs.getD j 0 * xs.getD j 0 ≤ sq xs := by
  have a := sq_set xs i 0 hi
  have b := sq_get (xs.set i 0) j
  rw [getD_set_ne 0 h] at b
  omega
theorem sq_bd {xs : List Int} {B M : Int} (h : sq xs ≤ B) (hM : 0 ≤ M) (hB : B < (M + 1) * (M + 1)) (k : Nat) (x : Int) (hk : xs[k]? = some x) : -M ≤ x ∧ x ≤ M := by
  have := sq_get xs k
  rw [List.getD_eq_getElem?_getD, hk] at this
  exact le_root (x := x) (y := 0) (N := x * x) (by omega) hM (by simp only [Option.getD_some] at this; omega)
/-- the elements of two places, changed -/
theorem sq_step {f : Nat → Int → Int → Int × Int → Int × Int} {s : Sp} {xs : List Int} (hi : s.i.toNat < xs.length) (hj : s.j.toNat < xs.length) (hne : s.i.toNat ≠ s.j.toNat)
    (hf : ∀ p, 16 * nrm (f s.q s.A s.B p) ≤ 17 * nrm p + 6400) : 16 * sq (stepL f s xs) ≤ 17 * sq xs + 6400 := by
  unfold stepL
  have k := hf (xs.getD s.i.toNat 0, xs.getD s.j.toNat 0)
  have t := sq_two hi hj hne
  rw [sq_set _ _ _ (by rw [List.length_set]; exact hj), getD_set_ne _ hne, sq_set _ _ _ hi]
  unfold nrm at k
  simp only at k
  generalize f s.q s.A s.B (xs.getD s.i.toNat 0, xs.getD s.j.toNat 0) = p at *
  generalize xs.getD s.i.toNat 0 * xs.getD s.i.toNat 0 = u at *
  generalize xs.getD s.j.toNat 0 * xs.getD s.j.toNat 0 = v at *
  omega
theorem forth_grow {q : Nat} {A B : Int} (hf : Fit A B) (p : Int × Int) : 16 * nrm (forthF q A B p) ≤ 17 * nrm p + 6400 := by
  have := nrm_grow (S := 1) (p := rot p q) (.inl rfl) hf
  rw [nrm_rot] at this
  exact this
theorem back_grow {q : Nat} {A B : Int} (hf : Fit A B) (p : Int × Int) : 16 * nrm (backF q A B p) ≤ 17 * nrm p + 6400 := by
  have := nrm_grow (S := -1) (p := p) (.inr rfl) hf
  unfold backF
  rw [nrm_rotB]
  exact this
/-- a bound for the sums of squares, step by step -/
def bnd (B : Nat) : Nat → Nat
  | 0 => B
  | k + 1 => bnd B k * 17 / 16 + 400
theorem bnd_next {B k : Nat} {a b : Int} (h : a ≤ (bnd B k : Nat)) (g : 16 * b ≤ 17 * a + 6400) : b ≤ (bnd B (k + 1) : Nat) := by
  have e : bnd B (k + 1) = bnd B k * 17 / 16 + 400 := rfl
  rw [e]
  generalize bnd B k = n at *
  omega
theorem bnd_mono (B : Nat) : ∀ k d, bnd B k ≤ bnd B (k + d)
  | k, 0 => Nat.le_refl _
  | k, d + 1 => by
    have := bnd_mono B k d
    have e : bnd B (k + (d + 1)) = bnd B (k + d) * 17 / 16 + 400 := rfl
    rw [e]; omega
theorem bnd_wide : bnd 73786976294838206464 60 < 137438953473 * 137438953473 := by decide +kernel
theorem bnd_thin : bnd 65970697666560 60 < 1073741825 * 1073741825 := by decide +kernel
theorem bnd_le {B k K : Nat} (h : k ≤ K) : bnd B k ≤ bnd B K := by
  obtain ⟨d, rfl⟩ := Nat.exists_eq_add_of_le h
  exact bnd_mono B k d
theorem sqs_le {M : Int} (hM : 0 ≤ M) : ∀ {xs : List Int}, allIn M xs = true → sq xs ≤ xs.length * (M * M)
  | [], _ => by simp [sq]
  | x :: xs, h => by
    unfold allIn at h
    simp only [List.all_cons, Bool.and_eq_true] at h
    have i := sqs_le hM (xs := xs) h.2
    have b := h.1
    unfold inB at b
    have b := of_decide_eq_true b
    have a := (abs_mul b.1 b.2 b.1 b.2).2
    simp only [sq, List.length_cons]
    have e : ((xs.length + 1 : Nat) : Int) * (M * M) = xs.length * (M * M) + M * M := by push_cast; grind
    rw [e]; omega
end Go.Proofs.YtpmhioaoniijbaaDoor
