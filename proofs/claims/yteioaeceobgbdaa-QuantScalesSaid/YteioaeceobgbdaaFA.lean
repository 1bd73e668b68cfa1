/- Roots, logarithms and powers: the plain mathematics. -/
namespace Go.Proofs.Yteioaeceobgbdaa
/-! roots -/
def rtGo : Nat → Nat → Nat → Nat
  | 0, _, r => r
  | k + 1, n, r => if (r + 2 ^ k) * (r + 2 ^ k) ≤ n then rtGo k n (r + 2 ^ k) else rtGo k n r
def rt (n : Nat) : Nat := rtGo 32 n 0
theorem rtGo_spec : ∀ (k n r : Nat), r * r ≤ n → n < (r + 2 ^ k) * (r + 2 ^ k) → rtGo k n r * rtGo k n r ≤ n ∧ n < (rtGo k n r + 1) * (rtGo k n r + 1)
  | 0, n, r, h1, h2 => ⟨h1, by show n < (r + 1) * (r + 1); simpa using h2⟩
  | k + 1, n, r, h1, h2 => by
    unfold rtGo
    split
    · refine rtGo_spec k n _ ‹_› ?_
      rw [Nat.add_assoc, ← Nat.two_mul, ← Nat.pow_succ']; exact h2
    · exact rtGo_spec k n r h1 (by omega)
theorem rt_spec {n : Nat} (h : n < 2 ^ 64) : rt n * rt n ≤ n ∧ n < (rt n + 1) * (rt n + 1) := rtGo_spec 32 n 0 (by omega) (by omega)
theorem sq_uniq {n a b : Nat} (ha : a * a ≤ n) (ha' : n < (a + 1) * (a + 1)) (hb : b * b ≤ n) (hb' : n < (b + 1) * (b + 1)) : a = b := by
  have h1 : a < b + 1 := by
    rcases Nat.lt_or_ge a (b + 1) with h | h
    · exact h
    · have := Nat.mul_le_mul h h; omega
  have h2 : b < a + 1 := by
    rcases Nat.lt_or_ge b (a + 1) with h | h
    · exact h
    · have := Nat.mul_le_mul h h; omega
  omega
theorem rt_eq {n a : Nat} (h : n < 2 ^ 64) (ha : a * a ≤ n) (ha' : n < (a + 1) * (a + 1)) : rt n = a := sq_uniq (rt_spec h).1 (rt_spec h).2 ha ha'
theorem sq_mono {a b : Nat} (h : a ≤ b) : a * a ≤ b * b := Nat.mul_le_mul h h
theorem rt_mono {a b : Nat} (h : a ≤ b) (hb : b < 2 ^ 64) : rt a ≤ rt b := by
  have h1 := (rt_spec (n := a) (by omega)).1
  have h2 := (rt_spec hb).2
  rcases Nat.lt_or_ge (rt b) (rt a) with h3 | h3
  · have := sq_mono (show rt b + 1 ≤ rt a by omega); omega
  · exact h3
theorem rt_le {n : Nat} (h : n ≤ 2 ^ 62) : rt n ≤ 2 ^ 31 := by
  have h1 := (rt_spec (n := n) (by omega)).1
  rcases Nat.lt_or_ge (2 ^ 31) (rt n) with h3 | h3
  · have := sq_mono (show 2 ^ 31 + 1 ≤ rt n by omega); omega
  · exact h3
def cube (a : Nat) : Nat := a * a * a
theorem cube_mono {a b : Nat} (h : a ≤ b) : cube a ≤ cube b := Nat.mul_le_mul (Nat.mul_le_mul h h) h
def cbGo : Nat → Nat → Nat → Nat
  | 0, _, r => r
  | k + 1, n, r => if cube (r + 2 ^ k) ≤ n then cbGo k n (r + 2 ^ k) else cbGo k n r
def cb (n : Nat) : Nat := cbGo 21 n 0
theorem cbGo_spec : ∀ (k n r : Nat), cube r ≤ n → n < cube (r + 2 ^ k) → cube (cbGo k n r) ≤ n ∧ n < cube (cbGo k n r + 1)
  | 0, n, r, h1, h2 => ⟨h1, by show n < cube (r + 1); simpa using h2⟩
  | k + 1, n, r, h1, h2 => by
    unfold cbGo
    split
    · refine cbGo_spec k n _ ‹_› ?_
      rw [Nat.add_assoc, ← Nat.two_mul, ← Nat.pow_succ']; exact h2
    · exact cbGo_spec k n r h1 (by omega)
theorem cb_spec {n : Nat} (h : n < 2 ^ 63) : cube (cb n) ≤ n ∧ n < cube (cb n + 1) := cbGo_spec 21 n 0 (by simp [cube]) (by unfold cube; omega)
theorem cb_eq {n a : Nat} (h : n < 2 ^ 63) (ha : cube a ≤ n) (ha' : n < cube (a + 1)) : cb n = a := by
  have hs := cb_spec h
  have h1 : cb n < a + 1 := by
    rcases Nat.lt_or_ge (cb n) (a + 1) with h | h
    · exact h
    · have := cube_mono h; omega
  have h2 : a < cb n + 1 := by
    rcases Nat.lt_or_ge a (cb n + 1) with h | h
    · exact h
    · have := cube_mono h; omega
  omega
theorem cb_mono {a b : Nat} (h : a ≤ b) (hb : b < 2 ^ 63) : cb a ≤ cb b := by
  have h1 := (cb_spec (n := a) (by omega)).1
  have h2 := (cb_spec hb).2
  rcases Nat.lt_or_ge (cb b) (cb a) with h3 | h3
  · have := cube_mono (show cb b + 1 ≤ cb a by omega); omega
  · exact h3
theorem cb_lt {n : Nat} (h : n < 2 ^ 63) : cb n < 2 ^ 21 := by
  have h1 := (cb_spec h).1
  rcases Nat.lt_or_ge (cb n) (2 ^ 21) with h3 | h3
  · exact h3
  · have := cube_mono h3; unfold cube at *; omega

/-! logarithms -/
def lstep (p : Nat × Nat) : Nat × Nat := if 2147483648 ≤ p.1 * p.1 / 1073741824 then (p.1 * p.1 / 1073741824 / 2, 2 * p.2 + 1) else (p.1 * p.1 / 1073741824, 2 * p.2)
def liter : Nat → Nat × Nat → Nat × Nat
  | 0, p => p
  | k + 1, p => lstep (liter k p)
def mant (n e : Nat) : Nat := if e ≤ 30 then n * 2 ^ (30 - e) else n / 2 ^ (e - 30)
def logN (n : Nat) : Nat := 256 * n.log2 + (liter 8 (mant n n.log2, 0)).2
def InM (m : Nat) : Prop := 1073741824 ≤ m ∧ m < 2147483648
theorem mant_in {n e : Nat} (h1 : 2 ^ e ≤ n) (h2 : n < 2 ^ (e + 1)) : InM (mant n e) := by
  unfold mant InM
  split
  · rename_i h
    have e1 : 2 ^ e * 2 ^ (30 - e) = 1073741824 := by rw [← Nat.pow_add, Nat.add_sub_cancel' h]
    have e2 : 2 ^ (e + 1) * 2 ^ (30 - e) = 2147483648 := by rw [← Nat.pow_add, show e + 1 + (30 - e) = 31 by omega]
    exact ⟨by have := Nat.mul_le_mul_right (2 ^ (30 - e)) h1; omega, by have := Nat.mul_lt_mul_of_pos_right h2 (Nat.two_pow_pos (30 - e)); omega⟩
  · rename_i h
    have e1 : 1073741824 * 2 ^ (e - 30) = 2 ^ e := by rw [show (1073741824 : Nat) = 2 ^ 30 by rfl, ← Nat.pow_add, show 30 + (e - 30) = e by omega]
    have e2 : 2147483648 * 2 ^ (e - 30) = 2 ^ (e + 1) := by rw [show (2147483648 : Nat) = 2 ^ 31 by rfl, ← Nat.pow_add, show 31 + (e - 30) = e + 1 by omega]
    exact ⟨(Nat.le_div_iff_mul_le (Nat.two_pow_pos _)).2 (by omega), Nat.div_lt_of_lt_mul (by rw [Nat.mul_comm]; omega)⟩
theorem lstep_in {p : Nat × Nat} (h : InM p.1) : InM (lstep p).1 := by
  unfold InM at *
  have h1 : p.1 * p.1 < 2147483648 * 2147483648 := Nat.mul_lt_mul_of_lt_of_lt h.2 h.2
  have h2 : 1073741824 * 1073741824 ≤ p.1 * p.1 := Nat.mul_le_mul h.1 h.1
  unfold lstep
  generalize p.1 * p.1 = q at *
  split <;> simp only <;> omega
theorem liter_in {p : Nat × Nat} (h : InM p.1) : ∀ k, InM (liter k p).1
  | 0 => h
  | k + 1 => lstep_in (liter_in h k)
theorem lstep_f (p : Nat × Nat) : (lstep p).2 = 2 * p.2 ∨ (lstep p).2 = 2 * p.2 + 1 := by unfold lstep; split <;> simp
theorem liter_f {m : Nat} : ∀ k, (liter k (m, 0)).2 < 2 ^ k
  | 0 => by simp [liter]
  | k + 1 => by
    have h1 := liter_f (m := m) k
    have h2 := lstep_f (liter k (m, 0))
    rw [Nat.pow_succ]
    show (lstep (liter k (m, 0))).2 < _
    omega
/-- the order of pairs: by the second part, then by the first one -/
def Ler (p q : Nat × Nat) : Prop := p.2 < q.2 ∨ (p.2 = q.2 ∧ p.1 ≤ q.1)
theorem lstep_mono {p q : Nat × Nat} (h : Ler p q) : Ler (lstep p) (lstep q) := by
  have h1 := lstep_f p
  have h2 := lstep_f q
  rcases h with h | ⟨h, h'⟩
  · exact .inl (by omega)
  · have hm := Nat.mul_le_mul h' h'
    unfold lstep
    unfold Ler
    generalize p.1 * p.1 = x at *
    generalize q.1 * q.1 = y at *
    split <;> split <;> simp only <;> omega
theorem liter_mono {p q : Nat × Nat} (h : Ler p q) : ∀ k, Ler (liter k p) (liter k q)
  | 0 => h
  | k + 1 => lstep_mono (liter_mono h k)
theorem log_lo {n : Nat} (h : 1 ≤ n) : 2 ^ n.log2 ≤ n := Nat.log2_self_le (by omega)
theorem log_hi (n : Nat) : n < 2 ^ (n.log2 + 1) := Nat.lt_log2_self
theorem log2_eq {n e : Nat} (h1 : 2 ^ e ≤ n) (h2 : n < 2 ^ (e + 1)) : n.log2 = e := by
  have hn : 1 ≤ n := Nat.le_trans (Nat.two_pow_pos e) h1
  have a := log_lo hn
  have b := log_hi n
  have c : e < n.log2 + 1 := (Nat.pow_lt_pow_iff_right (by omega : 1 < 2)).1 (Nat.lt_of_le_of_lt h1 b)
  have d : n.log2 < e + 1 := (Nat.pow_lt_pow_iff_right (by omega : 1 < 2)).1 (Nat.lt_of_le_of_lt a h2)
  omega
theorem mant_mono {n m : Nat} (e : Nat) (h : n ≤ m) : mant n e ≤ mant m e := by
  unfold mant
  split
  · exact Nat.mul_le_mul_right _ h
  · exact Nat.div_le_div_right h
theorem logN_mono {n m : Nat} (h1 : 1 ≤ n) (h : n ≤ m) : logN n ≤ logN m := by
  have c : n.log2 < m.log2 + 1 := (Nat.pow_lt_pow_iff_right (by omega : 1 < 2)).1 (Nat.lt_of_le_of_lt (Nat.le_trans (log_lo h1) h) (log_hi m))
  unfold logN
  rcases Nat.lt_or_ge n.log2 m.log2 with d | d
  · have := liter_f (m := mant n n.log2) 8; omega
  · have e : n.log2 = m.log2 := by omega
    rw [e]
    have := liter_mono (.inr ⟨rfl, mant_mono m.log2 h⟩ : Ler (mant n m.log2, 0) (mant m m.log2, 0)) 8
    unfold Ler at this
    omega
theorem logN_lt {n : Nat} (h1 : 1 ≤ n) (h : n ≤ 2 ^ 62) : logN n < 256 * 63 := by
  have := liter_f (m := mant n n.log2) 8
  have c : n.log2 < 63 := (Nat.pow_lt_pow_iff_right (by omega : 1 < 2)).1 (Nat.lt_of_le_of_lt (Nat.le_trans (log_lo h1) h) (by omega : 2 ^ 62 < 2 ^ 63))
  unfold logN
  omega
theorem liter_one : ∀ k, liter k (1073741824, 0) = (1073741824, 0)
  | 0 => rfl
  | k + 1 => by rw [liter, liter_one k]; rfl
theorem logN_pow (e : Nat) : logN (2 ^ e) = 256 * e := by
  have h : (2 ^ e).log2 = e := log2_eq (Nat.le_refl _) (by rw [Nat.pow_succ]; have := Nat.two_pow_pos e; omega)
  unfold logN
  rw [h]
  have : mant (2 ^ e) e = 1073741824 := by
    unfold mant
    split
    · rename_i h; rw [← Nat.pow_add, Nat.add_sub_cancel' h]
    · rename_i h
      rw [show (2 : Nat) ^ e = 1073741824 * 2 ^ (e - 30) by rw [show (1073741824 : Nat) = 2 ^ 30 by rfl, ← Nat.pow_add, show 30 + (e - 30) = e by omega]]
      exact Nat.mul_div_cancel _ (Nat.two_pow_pos _)
  rw [this, liter_one]
  rfl
theorem logN_two {n : Nat} (h1 : 1 ≤ n) (h : n ≤ 1073741824) : logN (2 * n) = logN n + 256 := by
  have a := log_lo h1
  have b := log_hi n
  have c : (2 * n).log2 = n.log2 + 1 := log2_eq (by rw [Nat.pow_succ]; omega) (by rw [Nat.pow_succ]; omega)
  have d : n.log2 < 31 := (Nat.pow_lt_pow_iff_right (by omega : 1 < 2)).1 (Nat.lt_of_le_of_lt a (by omega))
  unfold logN
  rw [c]
  have : mant (2 * n) (n.log2 + 1) = mant n n.log2 := by
    unfold mant
    rcases Nat.lt_or_ge n.log2 30 with f | f
    · rw [if_pos (by omega), if_pos (by omega), show 30 - n.log2 = (30 - (n.log2 + 1)) + 1 by omega, Nat.pow_succ]
      rw [Nat.mul_comm 2 n, Nat.mul_assoc, Nat.mul_comm 2]
    · have : n.log2 = 30 := by omega
      rw [this, if_neg (by omega), if_pos (by omega)]
      simp
  rw [this]
  omega

/-! powers -/
def c8 (i : Nat) : Nat := [2147483648, 1518500249, 1276901416, 1170923761, 1121280435, 1097253707, 1085434105, 1079572135, 1076653032].getD i 0
theorem c8_root (i : Nat) (h : i < 8) : rt (c8 i * 1073741824) = c8 (i + 1) := by
  have : ∀ i, i < 8 → c8 i * 1073741824 < 2 ^ 64 ∧ c8 (i + 1) * c8 (i + 1) ≤ c8 i * 1073741824 ∧ c8 i * 1073741824 < (c8 (i + 1) + 1) * (c8 (i + 1) + 1) := by decide +kernel
  exact rt_eq (this i h).1 (this i h).2.1 (this i h).2.2
theorem c8_le (i : Nat) (h : i < 9) : 1073741824 ≤ c8 i ∧ c8 i ≤ 2147483648 := by
  have : ∀ i, i < 9 → 1073741824 ≤ c8 i ∧ c8 i ≤ 2147483648 := by decide +kernel
  exact this i h
/-- m after k bits of j -/
def exM (j : Nat) : Nat → Nat
  | 0 => 1073741824
  | k + 1 => if j / 2 ^ (7 - k) % 2 = 1 then exM j k * c8 (k + 1) / 1073741824 else exM j k
def expN (k : Nat) : Nat := if k / 256 ≤ 30 then exM (k % 256) 8 / 2 ^ (30 - k / 256) else exM (k % 256) 8 * 2 ^ (k / 256 - 30)
theorem exM_in (j k : Nat) (hj : j < 256) (hk : k ≤ 8) : InM (exM j k) := by
  have : ∀ j, j < 256 → ∀ k, k < 9 → 1073741824 ≤ exM j k ∧ exM j k < 2147483648 := by decide +kernel
  exact this j hj k (by omega)
theorem exM_next : ∀ j, j < 255 → exM j 8 ≤ exM (j + 1) 8 := by decide +kernel
theorem exM_mono (i d : Nat) (h : i + d < 256) : exM i 8 ≤ exM (i + d) 8 := by
  induction d with
  | zero => exact Nat.le_refl _
  | succ d ih => exact Nat.le_trans (ih (by omega)) (exM_next _ (by omega))
def shl (m e : Nat) : Nat := if e ≤ 30 then m / 2 ^ (30 - e) else m * 2 ^ (e - 30)
theorem shl_mono {m n : Nat} (e : Nat) (h : m ≤ n) : shl m e ≤ shl n e := by
  unfold shl
  split
  · exact Nat.div_le_div_right h
  · exact Nat.mul_le_mul_right _ h
theorem shl_in {m : Nat} (e : Nat) (h : InM m) : 2 ^ e ≤ shl m e ∧ shl m e < 2 ^ (e + 1) := by
  unfold shl
  split
  · rename_i hh
    have e1 : 2 ^ e * 2 ^ (30 - e) = 1073741824 := by rw [← Nat.pow_add, Nat.add_sub_cancel' hh]
    have e2 : 2 ^ (e + 1) * 2 ^ (30 - e) = 2147483648 := by rw [← Nat.pow_add, show e + 1 + (30 - e) = 31 by omega]
    exact ⟨(Nat.le_div_iff_mul_le (Nat.two_pow_pos _)).2 (by rw [e1]; exact h.1), Nat.div_lt_of_lt_mul (by rw [Nat.mul_comm, e2]; exact h.2)⟩
  · rename_i hh
    have e1 : 1073741824 * 2 ^ (e - 30) = 2 ^ e := by rw [show (1073741824 : Nat) = 2 ^ 30 by rfl, ← Nat.pow_add, show 30 + (e - 30) = e by omega]
    have e2 : 2147483648 * 2 ^ (e - 30) = 2 ^ (e + 1) := by rw [show (2147483648 : Nat) = 2 ^ 31 by rfl, ← Nat.pow_add, show 31 + (e - 30) = e + 1 by omega]
    rw [← e1, ← e2]
    exact ⟨Nat.mul_le_mul_right _ h.1, Nat.mul_lt_mul_of_pos_right h.2 (Nat.two_pow_pos _)⟩
theorem expN_eq (k : Nat) : expN k = shl (exM (k % 256) 8) (k / 256) := rfl
theorem expN_mono {a b : Nat} (h : a ≤ b) : expN a ≤ expN b := by
  rw [expN_eq, expN_eq]
  have hd : a / 256 ≤ b / 256 := Nat.div_le_div_right h
  rcases Nat.lt_or_ge (a / 256) (b / 256) with h1 | h1
  · have h2 := (shl_in (a / 256) (exM_in (a % 256) 8 (by omega) (by omega))).2
    have h3 := (shl_in (b / 256) (exM_in (b % 256) 8 (by omega) (by omega))).1
    have := Nat.pow_le_pow_right (show 0 < 2 by omega) (show a / 256 + 1 ≤ b / 256 by omega)
    omega
  · have e : a / 256 = b / 256 := by omega
    rw [e]
    have := exM_mono (a % 256) (b % 256 - a % 256) (by omega)
    rw [Nat.add_sub_cancel' (by omega)] at this
    exact shl_mono _ this
theorem exM_zero : ∀ k, exM 0 k = 1073741824
  | 0 => rfl
  | k + 1 => by rw [exM, exM_zero k]; simp
theorem expN_pow (e : Nat) : expN (256 * e) = 2 ^ e := by
  rw [expN_eq, Nat.mul_mod_right, Nat.mul_div_cancel_left e (by omega), exM_zero]
  unfold shl
  split
  · rename_i hh
    rw [show (1073741824 : Nat) = 2 ^ e * 2 ^ (30 - e) by rw [← Nat.pow_add, Nat.add_sub_cancel' hh]]
    exact Nat.mul_div_cancel _ (Nat.two_pow_pos _)
  · rename_i hh
    rw [show (1073741824 : Nat) = 2 ^ 30 by rfl, ← Nat.pow_add, show 30 + (e - 30) = e by omega]
def stepN (q : Nat) : Nat := [4096, 4871, 5793, 6889].getD (q % 4) 0 * 2 ^ (q / 4) / 256
theorem stepN_next : ∀ q, q < 95 → stepN q ≤ stepN (q + 1) := by decide +kernel
theorem stepN_mono {a b : Nat} (h : a ≤ b) (hb : b < 96) : stepN a ≤ stepN b := by
  obtain ⟨d, rfl⟩ := Nat.exists_eq_add_of_le h
  induction d with
  | zero => exact Nat.le_refl _
  | succ d ih => exact Nat.le_trans (ih (by omega) (by omega)) (stepN_next _ (by omega))
end Go.Proofs.Yteioaeceobgbdaa
