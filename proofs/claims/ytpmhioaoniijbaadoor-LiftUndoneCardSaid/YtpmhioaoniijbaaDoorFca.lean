/- the series: the plain mathematics -/
import Derived.Test.YtpmhioaoniijbaaDoorFT
namespace Go.Proofs.YtpmhioaoniijbaaDoor
theorem prod_eq (a b : Nat) : a / 1073741824 * (b / 1073741824) + (a / 1073741824 * (b % 1073741824) + a % 1073741824 * (b / 1073741824) + a % 1073741824 * (b % 1073741824) / 1073741824) / 1073741824 = a * b / 1152921504606846976 := by
  have ha := Nat.div_add_mod a 1073741824
  have hb := Nat.div_add_mod b 1073741824
  generalize a / 1073741824 = a1 at *
  generalize b / 1073741824 = b1 at *
  generalize a % 1073741824 = a0 at *
  generalize b % 1073741824 = b0 at *
  have e : a * b = 1073741824 * (1073741824 * (a1 * b1) + (a1 * b0 + a0 * b1)) + a0 * b0 := by
    rw [← ha, ← hb]
    simp only [Nat.add_mul, Nat.mul_add, Nat.mul_assoc, Nat.mul_left_comm, Nat.mul_comm]
    omega
  rw [show 1152921504606846976 = 1073741824 * 1073741824 by rfl, ← Nat.div_div_eq_div_mul, e, Nat.mul_add_div (by omega),
    show 1073741824 * (a1 * b1) + (a1 * b0 + a0 * b1) + a0 * b0 / 1073741824 = 1073741824 * (a1 * b1) + (a1 * b0 + a0 * b1 + a0 * b0 / 1073741824) by omega, Nat.mul_add_div (by omega)]
theorem prod_le {t x : Nat} (hx : x ≤ 1152921504606846976) : t * x / 1152921504606846976 ≤ t := by
  have := Nat.mul_le_mul_left t hx
  exact Nat.div_le_of_le_mul (by rw [Nat.mul_comm 1152921504606846976]; exact this)
def nxt (x t k : Nat) : Nat := t * x / 1152921504606846976 * x / 1152921504606846976 / ((k + 1) * (k + 2))
theorem nxt_le {x t k : Nat} (hx : x ≤ 1152921504606846976) : nxt x t k ≤ t / 2 := by
  unfold nxt
  have h1 := prod_le (t := t) hx
  have h2 := prod_le (t := t * x / 1152921504606846976) hx
  have h3 : 2 ≤ (k + 1) * (k + 2) := Nat.mul_le_mul (show 1 ≤ k + 1 by omega) (show 2 ≤ k + 2 by omega)
  refine Nat.le_trans (Nat.div_le_div_left h3 (by omega)) (Nat.div_le_div_right (by omega))
theorem ser_succ (x f t k : Nat) (ht : 0 < t) : ser x (f + 1) t k = t - ser x f (nxt x t k) (k + 2) := by
  rw [ser, if_neg (by omega)]; rfl
theorem ser_zero (x f k : Nat) : ser x f 0 k = 0 := by cases f <;> simp [ser]
theorem ser_le {x : Nat} : ∀ f t k, ser x f t k ≤ t
  | 0, t, k => by simp [ser]
  | f + 1, t, k => by
    unfold ser
    split
    · omega
    · omega
/-- the loop: after some rounds -/
structure SI (x G : Nat) (tot s sg : Int) (t k f : Nat) : Prop where
  sg1 : sg = 1 ∨ sg = -1
  sum : s + sg * (ser x f t k : Nat) = tot
  room : t < 2 ^ f
  lo : -2305843009213693952 ≤ s - 2 * t
  hi : s + 2 * t ≤ 2305843009213693952
  kk : k + 2 * f ≤ G
theorem SI.start {x first k0 : Nat} {tot : Int} (e : ((ser x 62 first k0 : Nat) : Int) = tot) (hf : first ≤ 1152921504606846976) (hk : k0 ≤ 1) : SI x 125 tot 0 1 first k0 62 :=
  ⟨.inl rfl, by rw [Int.one_mul, Int.zero_add]; exact e, by clear e; omega, by clear e; omega, by clear e; omega, by clear e; omega⟩
theorem SI.next {x G : Nat} {tot s sg : Int} {t k f : Nat} (h : SI x G tot s sg t k f) (hx : x ≤ 1152921504606846976) (ht : 0 < t) : ∃ f', SI x G tot (s + sg * t) (-sg) (nxt x t k) (k + 2) f' := by
  obtain ⟨h1, h2, h3, h4, h5, h6⟩ := h
  have hn := nxt_le (t := t) (k := k) hx
  cases f with
  | zero => simp at h3; omega
  | succ f =>
    rw [Nat.pow_succ] at h3
    have hl := ser_le (x := x) f (nxt x t k) (k + 2)
    rw [ser_succ _ _ _ _ ht] at h2
    have hc : ((t - ser x f (nxt x t k) (k + 2) : Nat) : Int) = (t : Int) - (ser x f (nxt x t k) (k + 2) : Nat) := by omega
    rw [hc] at h2
    refine ⟨f, ?_, ?_, by omega, ?_, ?_, by omega⟩
    · rcases h1 with rfl | rfl
      · exact .inr rfl
      · exact .inl rfl
    · rcases h1 with rfl | rfl <;> omega
    · rcases h1 with rfl | rfl <;> omega
    · rcases h1 with rfl | rfl <;> omega
theorem SI.done {x G : Nat} {tot s sg : Int} {k f : Nat} (h : SI x G tot s sg 0 k f) : s = tot := by
  have := h.sum
  rw [ser_zero] at this
  simpa using this
theorem ang_eq {d q r j : Nat} (hd : 0 < d) (hq : 0 < q) (e : r * q = j) (h : d * q = 16384) : 905502432259640355 * r / d = 905502432259640355 * j / 16384 := by
  rw [← e, ← h, ← Nat.mul_assoc]
  exact (Nat.mul_div_mul_right _ _ hq).symm
theorem eighth_split (d r : Nat) (hd : 0 < d) : 905502432259640355 / d * r + 905502432259640355 % d * r / d = 905502432259640355 * r / d := by
  have e := Nat.div_add_mod 905502432259640355 d
  generalize 905502432259640355 / d = a at *
  generalize 905502432259640355 % d = b at *
  rw [← e, Nat.add_mul, Nat.mul_assoc, Nat.mul_add_div hd]
/-- the octant and the rest -/
theorem oct {t d q : Nat} (hq : d * q = 16384) : 8 * t / d = t * q / 2048 ∧ (8 * t % d) * q = 8 * (t * q % 2048) := by
  have hq0 : 0 < q := by
    rcases Nat.eq_zero_or_pos q with h | h
    · subst h; simp at hq
    · exact h
  constructor
  · have e := Nat.mul_div_mul_right (8 * t) d hq0
    rw [hq] at e
    rw [← e, Nat.mul_assoc 8 t q]
    omega
  · have e := Nat.mul_mod_mul_right q (8 * t) d
    rw [hq] at e
    rw [← e, Nat.mul_assoc 8 t q]
    omega
theorem rnd_pos46 (v N : Nat) (h : (v + 35184372088832) / 70368744177664 = N) : (2 * (v : Int) + 70368744177664) / (2 * 70368744177664) = (N : Int) := by omega
theorem rnd_neg46 (v N : Nat) (h : (v + 35184372088831) / 70368744177664 = N) : (2 * -(v : Int) + 70368744177664) / (2 * 70368744177664) = -(N : Int) := by omega
/-- sine and cosine out of the octant and of the two series -/
def octF (o : Nat) (s c : Int) : Int × Int :=
  match o with
  | 0 => (s, c)
  | 1 => (c, s)
  | 2 => (c, -s)
  | 3 => (s, -c)
  | 4 => (-s, -c)
  | 5 => (-c, -s)
  | 6 => (-c, s)
  | _ => (-s, c)
end Go.Proofs.YtpmhioaoniijbaaDoor
