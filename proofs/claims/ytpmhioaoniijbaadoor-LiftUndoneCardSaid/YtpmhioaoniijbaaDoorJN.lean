/- how far a turn is from keeping the sum of squares: the plain mathematics -/
import Derived.Test.YtpmhioaoniijbaaDoorJE
import Derived.Test.YtpmhioaoniijbaaDoorFAr
namespace Go.Proofs.YtpmhioaoniijbaaDoor

/-- the two factors fit: K -/
def fitB (s : Nat) : Bool := Nat.ble (tanR s) 6787 && Nat.ble (sinR s * (268435456 + tanR s * tanR s)) (2 * tanR s * 268435456 + 383609364) && Nat.ble (2 * tanR s * 268435456) (sinR s * (268435456 + tanR s * tanR s) + 383609364)
theorem tab_fit : allB fitB 2049 = true := by decide +kernel
def Fit (a b : Int) : Prop := -6787 ≤ a ∧ a ≤ 6787 ∧ -383609364 ≤ b * (268435456 + a * a) - 2 * a * 268435456 ∧ b * (268435456 + a * a) - 2 * a * 268435456 ≤ 383609364
theorem Fit.neg {a b : Int} (h : Fit a b) : Fit (-a) (-b) := by
  obtain ⟨h1, h2, h3, h4⟩ := h
  have e : -b * (268435456 + -a * -a) - 2 * -a * 268435456 = -(b * (268435456 + a * a) - 2 * a * 268435456) := by grind
  refine ⟨by omega, by omega, ?_, ?_⟩ <;> rw [e] <;> omega
theorem fit_cast (A B u K : Nat) (h2 : B * (u + A * A) ≤ 2 * A * u + K) (h3 : 2 * A * u ≤ B * (u + A * A) + K) : -(K : Int) ≤ (B : Int) * ((u : Int) + A * A) - 2 * A * u ∧ (B : Int) * ((u : Int) + A * A) - 2 * A * u ≤ (K : Int) := by
  have h2' := Int.ofNat_le.2 h2
  have h3' := Int.ofNat_le.2 h3
  push_cast at h2' h3'
  omega
theorem fit_nat {s : Nat} (h : s ≤ 2048) : Fit (tanR s) (sinR s) := by
  have := allB_of tab_fit s (by omega)
  unfold fitB at this
  simp only [Bool.and_eq_true, Nat.ble_eq] at this
  obtain ⟨⟨h1, h2⟩, h3⟩ := this
  generalize tanR s = A at *
  generalize sinR s = B at *
  have k := fit_cast A B 268435456 383609364 h2 h3
  exact ⟨by omega, by omega, k.1, k.2⟩
/-- the sine of a small angle, either sign -/
theorem cir_small {S : Int} (h1 : -2048 ≤ S) (h2 : S ≤ 2048) : (cir S).2 = if S < 0 then -((sinR S.natAbs : Nat) : Int) else ((sinR S.natAbs : Nat) : Int) := by
  by_cases hn : S < 0
  · rw [if_pos hn]
    have hc := cir_eq (S := S) (Q := 3) (r := 4096 - S.natAbs) (by omega) (by omega)
    rw [hc]
    have := cos_sym (r := S.natAbs) (by omega) (by omega)
    rw [← this]
    simp [rot]
  · rw [if_neg hn]
    have hc := cir_eq (S := S) (Q := 0) (r := S.natAbs) (by omega) (by omega)
    rw [hc]
    simp [rot]
theorem tur_fit {n d : Int} (h : turP d = true) : Fit (turA n d) (turB n d) := by
  have i := turP_in h
  obtain ⟨_, _, _, _, r1, r2⟩ := tur_facts (n := n) i.1
  have hs := hlf_ok (n := turR n d) (d := 8 * d) (by omega) (by omega) (by omega) (by omega)
  have ha := hlf_abs (n := turR n d) (d := 8 * d) (by omega)
  have hS : ∃ S : Int, turR n d * (16384 / (8 * d)) = S ∧ S.natAbs = hlfS (turR n d) (8 * d) ∧ (turR n d < 0 → S < 0 ∨ S = 0) ∧ (¬ turR n d < 0 → ¬ S < 0) := by
    refine ⟨_, rfl, ?_, ?_, ?_⟩
    · rcases Int.le_total 0 (turR n d) with hr | hr
      · have := ha (turR n d) (by omega)
        rw [this]; rfl
      · have := ha (-turR n d) (by omega)
        rw [Int.neg_mul] at this
        omega
    · intro hr
      have := ha (-turR n d) (by omega)
      rw [Int.neg_mul] at this
      omega
    · intro hr
      have := ha (turR n d) (by omega)
      omega
  obtain ⟨S, e1, e2, e3, e4⟩ := hS
  have hc := cir_small (S := S) (by omega) (by omega)
  have f := fit_nat hs
  have z : tanR 0 = 0 ∧ sinR 0 = 0 := by decide +kernel
  unfold turA turB hlfV
  rw [e1, hc, e2]
  by_cases hr : turR n d < 0
  · rw [if_pos hr]
    rcases e3 hr with h3 | h3
    · rw [if_pos h3]; exact f.neg
    · rw [h3] at e2
      rw [if_neg (by omega), ← e2]
      rw [show (0 : Int).natAbs = 0 from rfl, z.1, z.2]
      exact ⟨by decide, by decide, by decide, by decide⟩
  · rw [if_neg hr, if_neg (e4 hr)]; exact f
theorem ident (x y x1 y1 x2 a b e1 e2 e3 : Int) (h1 : 16384 * x1 = 16384 * x - a * y + e1) (h2 : 16384 * y1 = 16384 * y + b * x1 + e2) (h3 : 16384 * x2 = 16384 * x1 - a * y1 + e3) :
   4398046511104 * (x2 * x2 + y1 * y1 - x * x - y * y) = (y + y1) * (x1 * (b * (268435456 + a * a) - 2 * a * 268435456) + a * a * e2 + 268435456 * e2 - 16384 * a * (e3 - e1)) + 268435456 * (e1 + e3) * (x + x2) := by
  grind
theorem abs_mul {a b M N : Int} (h1 : -M ≤ a) (h2 : a ≤ M) (h3 : -N ≤ b) (h4 : b ≤ N) : -(M * N) ≤ a * b ∧ a * b ≤ M * N := by
  have m0 : 0 ≤ M - a := by omega
  have m1 : 0 ≤ M + a := by omega
  have n0 : 0 ≤ N - b := by omega
  have n1 : 0 ≤ N + b := by omega
  have p1 := Int.mul_nonneg m0 n1
  have p2 := Int.mul_nonneg m1 n0
  have p3 := Int.mul_nonneg m0 n0
  have p4 := Int.mul_nonneg m1 n1
  constructor <;> grind
theorem near_core {x y x1 y1 x2 a b e1 e2 e3 r s : Int} (h1 : 16384 * x1 = 16384 * x - a * y + e1) (h2 : 16384 * y1 = 16384 * y + b * x1 + e2) (h3 : 16384 * x2 = 16384 * x1 - a * y1 + e3)
    (hf : Fit a b) (f1 : -8192 ≤ e1 ∧ e1 ≤ 8192) (f2 : -8192 ≤ e2 ∧ e2 ≤ 8192) (f3 : -8192 ≤ e3 ∧ e3 ≤ 8192)
    (rx : -r ≤ x ∧ x ≤ r) (ry : -r ≤ y ∧ y ≤ r) (sx : -s ≤ x2 ∧ x2 ≤ s) (sy : -s ≤ y1 ∧ y1 ≤ s) :
    -((r + s) * (r + 16100)) ≤ 8000 * (x2 * x2 + y1 * y1 - x * x - y * y) ∧ 8000 * (x2 * x2 + y1 * y1 - x * x - y * y) ≤ (r + s) * (r + 16100) := by
  obtain ⟨a1, a2, d1, d2⟩ := hf
  have id := ident x y x1 y1 x2 a b e1 e2 e3 h1 h2 h3
  have hr : 0 ≤ r := by omega
  have hs : 0 ≤ s := by omega
  have ay := abs_mul (M := 6787) (N := r) (by omega) (by omega) ry.1 ry.2
  have hx1 : -(r + (6787 * r + 8192) / 16384 + 1) ≤ x1 ∧ x1 ≤ r + (6787 * r + 8192) / 16384 + 1 := by omega
  generalize b * (268435456 + a * a) - 2 * a * 268435456 = D at *
  have xd := abs_mul (M := r + (6787 * r + 8192) / 16384 + 1) (N := 383609364) hx1.1 hx1.2 (by omega) (by omega)
  have aa := abs_mul (M := 6787) (N := 6787) (a := a) (b := a) (by omega) (by omega) (by omega) (by omega)
  have ae := abs_mul (M := 46063369) (N := 8192) (a := a * a) (b := e2) (by omega) (by omega) (by omega) (by omega)
  have ac := abs_mul (M := 6787) (N := 16384) (a := a) (b := e3 - e1) (by omega) (by omega) (by omega) (by omega)
  have inner : -((r + (6787 * r + 8192) / 16384 + 1) * 383609364 + 4398466048000) ≤ x1 * D + a * a * e2 + 268435456 * e2 - 16384 * a * (e3 - e1) ∧ x1 * D + a * a * e2 + 268435456 * e2 - 16384 * a * (e3 - e1) ≤ (r + (6787 * r + 8192) / 16384 + 1) * 383609364 + 4398466048000 := by
    rw [Int.mul_assoc 16384 a]
    omega
  generalize x1 * D + a * a * e2 + 268435456 * e2 - 16384 * a * (e3 - e1) = I at *
  have t1 := abs_mul (M := r + s) (a := y + y1) (by omega) (by omega) inner.1 inner.2
  have t2 := abs_mul (M := 4398046511104) (N := r + s) (a := 268435456 * (e1 + e3)) (b := x + x2) (by omega) (by omega) (by omega) (by omega)
  have up : (r + (6787 * r + 8192) / 16384 + 1) * 383609364 + 4398466048000 ≤ 542520000 * r + 4400000000000 := by omega
  have up2 := Int.mul_le_mul_of_nonneg_left up (show 0 ≤ r + s by omega)
  generalize (r + s) * ((r + (6787 * r + 8192) / 16384 + 1) * 383609364 + 4398466048000) = U at *
  have e : (r + s) * (542520000 * r + 4400000000000) = 542520000 * ((r + s) * r) + 4400000000000 * (r + s) := by grind
  have e' : (r + s) * (r + 16100) = (r + s) * r + 16100 * (r + s) := by grind
  rw [e] at up2
  rw [e']
  have pr : 0 ≤ (r + s) * r := Int.mul_nonneg (by omega) hr
  generalize (r + s) * r = R at *
  generalize (y + y1) * I = J at *
  generalize 268435456 * (e1 + e3) * (x + x2) = J2 at *
  generalize x2 * x2 + y1 * y1 - x * x - y * y = Dl at *
  omega
end Go.Proofs.YtpmhioaoniijbaaDoor
