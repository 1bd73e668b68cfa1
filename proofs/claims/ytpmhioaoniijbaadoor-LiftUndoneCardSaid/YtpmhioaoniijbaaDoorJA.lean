/- lifting steps: the plain mathematics -/
import Derived.Test.YtpmhioaoniijbaaDoorFY
namespace Go.Proofs.YtpmhioaoniijbaaDoor

/-- round(v / 16384) -/
def sc (v : Int) : Int := (v + 8192) / 16384
def st0 (F S : Int) (p : Int × Int) : Int × Int := (p.1 + S * sc (F * p.2), p.2)
def st1 (F S : Int) (p : Int × Int) : Int × Int := (p.1, p.2 + S * sc (F * p.1))
def liftF (A B S : Int) (p : Int × Int) : Int × Int := st0 A (-S) (st1 B S (st0 A (-S) p))
def rotB (p : Int × Int) : Nat → Int × Int
  | 0 => p
  | k + 1 => ((rotB p k).2, -(rotB p k).1)
def Bd (M : Int) (p : Int × Int) : Prop := -M ≤ p.1 ∧ p.1 ≤ M ∧ -M ≤ p.2 ∧ p.2 ≤ M
theorem Bd.mono {M N : Int} {p : Int × Int} (h : Bd M p) (k : M ≤ N) : Bd N p := by unfold Bd at *; omega
theorem mul_bd {F v M : Int} (h1 : -16384 ≤ F) (h2 : F ≤ 16384) (h3 : -M ≤ v) (h4 : v ≤ M) : -(16384 * M) ≤ F * v ∧ F * v ≤ 16384 * M := by
  have hM : 0 ≤ M := by omega
  have key : ∀ (a b : Int), 0 ≤ a → a ≤ 16384 → -M ≤ b → b ≤ M → -(16384 * M) ≤ a * b ∧ a * b ≤ 16384 * M := by
    intro a b ha ha2 hb hb2
    have x := Int.mul_le_mul_of_nonneg_left hb2 ha
    have y := Int.mul_le_mul_of_nonneg_left hb ha
    have z := Int.mul_le_mul_of_nonneg_right ha2 hM
    rw [Int.mul_neg] at y
    omega
  rcases Int.le_total 0 F with h | h
  · exact key F v h h2 h3 h4
  · have := key (-F) v (by omega) (by omega) h3 h4
    rw [Int.neg_mul] at this
    omega
theorem sc_bd {F v M : Int} (h1 : -16384 ≤ F) (h2 : F ≤ 16384) (h3 : -M ≤ v) (h4 : v ≤ M) : -(M + 1) ≤ sc (F * v) ∧ sc (F * v) ≤ M + 1 := by
  have := mul_bd h1 h2 h3 h4
  unfold sc
  omega
theorem st0_bd {F S M : Int} {p : Int × Int} (hS : S = 1 ∨ S = -1) (h1 : -16384 ≤ F) (h2 : F ≤ 16384) (h : Bd M p) : Bd (2 * M + 1) (st0 F S p) := by
  obtain ⟨a, b, c, d⟩ := h
  have := sc_bd h1 h2 c d
  unfold st0 Bd
  rcases hS with rfl | rfl <;> simp only <;> omega
theorem st1_bd {F S M : Int} {p : Int × Int} (hS : S = 1 ∨ S = -1) (h1 : -16384 ≤ F) (h2 : F ≤ 16384) (h : Bd M p) : Bd (2 * M + 1) (st1 F S p) := by
  obtain ⟨a, b, c, d⟩ := h
  have := sc_bd h1 h2 a b
  unfold st1 Bd
  rcases hS with rfl | rfl <;> simp only <;> omega
theorem st0_undo (F S : Int) (p : Int × Int) : st0 F (-S) (st0 F S p) = p := by
  unfold st0
  simp only [Int.neg_mul]
  exact Prod.ext (by simp only; omega) rfl
theorem st1_undo (F S : Int) (p : Int × Int) : st1 F (-S) (st1 F S p) = p := by
  unfold st1
  simp only [Int.neg_mul]
  exact Prod.ext rfl (by simp only; omega)
theorem lift_undo (A B S : Int) (p : Int × Int) : liftF A B (-S) (liftF A B S p) = p := by
  unfold liftF
  rw [show st0 A (- -S) (st0 A (-S) (st1 B S (st0 A (-S) p))) = st1 B S (st0 A (-S) p) from st0_undo A (-S) _, st1_undo, st0_undo A (-S)]
theorem rotB_rot (p : Int × Int) : ∀ k, rotB (rot p k) k = p := by
  have key : ∀ k q, rotB q (k + 1) = rotB (q.2, -q.1) k := by
    intro k
    induction k with
    | zero => intro q; rfl
    | succ k ih => intro q; rw [rotB, ih q]; rfl
  intro k
  induction k with
  | zero => rfl
  | succ k ih => rw [key, rot]; simp only [Int.neg_neg]; exact ih
theorem rot_rotB (p : Int × Int) : ∀ k, rot (rotB p k) k = p := by
  have key : ∀ k q, rot q (k + 1) = rot (-q.2, q.1) k := by
    intro k
    induction k with
    | zero => intro q; rfl
    | succ k ih => intro q; rw [rot, ih q]; rfl
  intro k
  induction k with
  | zero => rfl
  | succ k ih => rw [key, rotB]; simp only [Int.neg_neg]; exact ih
theorem rot_bd {M : Int} {p : Int × Int} (h : Bd M p) : ∀ k, Bd M (rot p k)
  | 0 => h
  | k + 1 => by have := rot_bd h k; unfold Bd at *; unfold rot; omega
theorem rotB_bd {M : Int} {p : Int × Int} (h : Bd M p) : ∀ k, Bd M (rotB p k)
  | 0 => h
  | k + 1 => by have := rotB_bd h k; unfold Bd at *; unfold rotB; omega
theorem lift_bd {A B S M : Int} {p : Int × Int} (hS : S = 1 ∨ S = -1) (a1 : -16384 ≤ A) (a2 : A ≤ 16384) (b1 : -16384 ≤ B) (b2 : B ≤ 16384) (h : Bd M p) : Bd (8 * M + 7) (liftF A B S p) := by
  have hN : -S = 1 ∨ -S = -1 := by omega
  exact (st0_bd hN a1 a2 (st1_bd hS b1 b2 (st0_bd hN a1 a2 h))).mono (by omega)
/-- the turn by quarters and two factors -/
def forthF (q : Nat) (A B : Int) (p : Int × Int) : Int × Int := liftF A B 1 (rot p q)
def backF (q : Nat) (A B : Int) (p : Int × Int) : Int × Int := rotB (liftF A B (-1) p) q
theorem back_forth (q : Nat) (A B : Int) (p : Int × Int) : backF q A B (forthF q A B p) = p := by
  unfold backF forthF
  rw [lift_undo A B 1, rotB_rot]
theorem forth_back (q : Nat) (A B : Int) (p : Int × Int) : forthF q A B (backF q A B p) = p := by
  unfold backF forthF
  rw [rot_rotB]
  exact lift_undo A B (-1) p
theorem forth_bd {q : Nat} {A B M : Int} {p : Int × Int} (a1 : -16384 ≤ A) (a2 : A ≤ 16384) (b1 : -16384 ≤ B) (b2 : B ≤ 16384) (h : Bd M p) : Bd (8 * M + 7) (forthF q A B p) := lift_bd (.inl rfl) a1 a2 b1 b2 (rot_bd h q)
theorem back_bd {q : Nat} {A B M : Int} {p : Int × Int} (a1 : -16384 ≤ A) (a2 : A ≤ 16384) (b1 : -16384 ≤ B) (b2 : B ≤ 16384) (h : Bd M p) : Bd (8 * M + 7) (backF q A B p) := rotB_bd (lift_bd (.inr rfl) a1 a2 b1 b2 h) q
end Go.Proofs.YtpmhioaoniijbaaDoor
