/- bursts: what the sums tell, in plain numbers -/
import Derived.Test.YtdjaileeklhkmaaSum
namespace Go.Proofs.Ytdjaileeklhkmaa

theorem xor_cancel {a b c : Nat} (h : a ^^^ c = b ^^^ c) : a = b := by
  have := congrArg (· ^^^ c) h
  simpa [Nat.xor_assoc] using this
/-- Two xors with one number agree in their low bits if and only if the numbers do. -/
theorem xor_mod_inj {a b c : Nat} (m : Nat) (h : (a ^^^ c) % 2 ^ m = (b ^^^ c) % 2 ^ m) : a % 2 ^ m = b % 2 ^ m := by
  rw [Nat.xor_mod_two_pow, Nat.xor_mod_two_pow] at h
  exact xor_cancel h
theorem mod_of_mod {a b m n : Nat} (hmn : n ≤ m) (h : a % 2 ^ m = b % 2 ^ m) : a % 2 ^ n = b % 2 ^ n := by
  have e := Nat.pow_dvd_pow 2 hmn
  rw [← Nat.mod_mod_of_dvd a e, h, Nat.mod_mod_of_dvd b e]
theorem c16_even (r x : Nat) : c16 r x % 2 = if r / 32768 = x then 0 else 1 := by
  unfold c16; split
  · omega
  · have h := Nat.xor_mod_two_pow (a := 2 * r % 65536) (b := 32773) (n := 1)
    have e : 2 * r % 65536 % 2 = 0 := by omega
    simp only [Nat.pow_one, e] at h
    rw [h]; rfl
theorem two_mod {r s m : Nat} (hm : m ≤ 15) (h : 2 * r % 65536 % 2 ^ (m + 1) = 2 * s % 65536 % 2 ^ (m + 1)) : r % 2 ^ m = s % 2 ^ m := by
  have e : (2 : Nat) ^ (m + 1) ∣ 65536 := Nat.pow_dvd_pow 2 (show m + 1 ≤ 16 by omega)
  rw [Nat.mod_mod_of_dvd _ e, Nat.mod_mod_of_dvd _ e, Nat.pow_succ, Nat.mul_comm (2 ^ m) 2, Nat.mul_mod_mul_left, Nat.mul_mod_mul_left] at h
  omega
/-- One step backwards: what agrees in m + 1 low bits agreed in m, and so did the tests. -/
theorem c16_back {r s x y m : Nat} (hm : m ≤ 15) (h : c16 r x % 2 ^ (m + 1) = c16 s y % 2 ^ (m + 1)) : r % 2 ^ m = s % 2 ^ m ∧ (r / 32768 = x ↔ s / 32768 = y) := by
  have h1 : c16 r x % 2 = c16 s y % 2 := by
    have := mod_of_mod (n := 1) (by omega) h
    simpa using this
  rw [c16_even, c16_even] at h1
  unfold c16 at h
  by_cases hx : r / 32768 = x
  · by_cases hy : s / 32768 = y
    · rw [if_pos hx, if_pos hy] at h
      exact ⟨two_mod hm h, by simp [hx, hy]⟩
    · rw [if_pos hx, if_neg hy] at h1; omega
  · by_cases hy : s / 32768 = y
    · rw [if_neg hx, if_pos hy] at h1; omega
    · rw [if_neg hx, if_neg hy] at h
      exact ⟨two_mod hm (xor_mod_inj _ h), by simp [hx, hy]⟩
theorem fold16_back : ∀ (xs ys : List Nat) (r s m : Nat), xs.length = ys.length → m + xs.length ≤ 16 → xs.foldl c16 r % 2 ^ (m + xs.length) = ys.foldl c16 s % 2 ^ (m + xs.length) → r % 2 ^ m = s % 2 ^ m
  | [], [], r, s, m, _, _, h => by simpa using h
  | x :: xs, y :: ys, r, s, m, hl, hm, h => by
    simp only [List.length_cons, Nat.add_right_cancel_iff] at hl
    simp only [List.length_cons] at hm
    simp only [List.length_cons, List.foldl_cons] at h
    rw [show m + (xs.length + 1) = (m + 1) + xs.length by omega] at h
    exact (c16_back (by omega) (fold16_back xs ys _ _ (m + 1) hl (by omega) h)).1
/-- Within sixteen bits the sum tells all changes. -/
theorem fold16_inj : ∀ (xs ys : List Nat) (r : Nat), xs.length = ys.length → xs.length ≤ 16 → (∀ x ∈ xs, x ≤ 1) → (∀ y ∈ ys, y ≤ 1) → r < 65536 → xs.foldl c16 r = ys.foldl c16 r → xs = ys
  | [], [], _, _, _, _, _, _, _ => rfl
  | x :: xs, y :: ys, r, hl, hm, hx, hy, hr, h => by
    simp only [List.length_cons, Nat.add_right_cancel_iff] at hl
    simp only [List.length_cons] at hm
    simp only [List.foldl_cons] at h
    have h1 := fold16_back xs ys (c16 r x) (c16 r y) (16 - xs.length) hl (by omega) (congrArg (· % _) h)
    have e16 : 16 - xs.length = 15 - xs.length + 1 := by omega
    rw [e16] at h1
    have h2 := (c16_back (m := 15 - xs.length) (by omega) h1).2
    have x1 := hx x (List.mem_cons_self ..)
    have y1 := hy y (List.mem_cons_self ..)
    have hr1 : r / 32768 ≤ 1 := by omega
    have e : x = y := by
      by_cases hxx : r / 32768 = x
      · have := h2.1 hxx; omega
      · have : ¬ r / 32768 = y := fun hh => hxx (h2.2 hh)
        omega
    subst e
    rw [fold16_inj xs ys _ hl (by omega) (fun z hz => hx z (List.mem_cons_of_mem _ hz)) (fun z hz => hy z (List.mem_cons_of_mem _ hz)) (c16_lt _ _) h]
theorem c16_inj {r s x : Nat} (hr : r < 65536) (hs : s < 65536) (hx : x ≤ 1) (h : c16 r x = c16 s x) : r = s := by
  obtain ⟨h1, h2⟩ := c16_back (r := r) (s := s) (x := x) (y := x) (m := 15) (by omega) (by rw [h])
  have e : (2 : Nat) ^ 15 = 32768 := rfl
  rw [e] at h1
  have hd : r / 32768 = s / 32768 := by
    by_cases hxx : r / 32768 = x
    · rw [h2.1 hxx, hxx]
    · have : ¬ s / 32768 = x := fun hh => hxx (h2.2 hh)
      omega
  omega
theorem fold16_same : ∀ (xs : List Nat) (r s : Nat), (∀ x ∈ xs, x ≤ 1) → r < 65536 → s < 65536 → xs.foldl c16 r = xs.foldl c16 s → r = s
  | [], _, _, _, _, _, h => h
  | x :: xs, _, _, hx, hr, hs, h => c16_inj hr hs (hx x (List.mem_cons_self ..)) (fold16_same xs _ _ (fun z hz => hx z (List.mem_cons_of_mem _ hz)) (c16_lt _ _) (c16_lt _ _) h)

/-! the sum of 32 bits -/
theorem xor_div_inj {a b c : Nat} (m : Nat) (h : (a ^^^ c) / 2 ^ m = (b ^^^ c) / 2 ^ m) : a / 2 ^ m = b / 2 ^ m := by
  rw [Nat.xor_div_two_pow, Nat.xor_div_two_pow] at h
  exact xor_cancel h
theorem div_of_div {a b m n : Nat} (hmn : m ≤ n) (h : a / 2 ^ m = b / 2 ^ m) : a / 2 ^ n = b / 2 ^ n := by
  obtain ⟨d, rfl⟩ := Nat.exists_eq_add_of_le hmn
  rw [Nat.pow_add, ← Nat.div_div_eq_div_mul, ← Nat.div_div_eq_div_mul, h]
theorem c32_top {r x : Nat} (hr : r < 4294967296) : c32 r x / 2147483648 = if r % 2 = x then 0 else 1 := by
  unfold c32; split
  · omega
  · have h := Nat.xor_div_two_pow (a := r / 2) (b := 3988292384) (n := 31)
    rw [show (2 : Nat) ^ 31 = 2147483648 from rfl] at h
    rw [h, show r / 2 / 2147483648 = 0 by omega]
    rfl
theorem c32_back {r s x y m : Nat} (hr : r < 4294967296) (hs : s < 4294967296) (hm : m ≤ 31) (h : c32 r x / 2 ^ m = c32 s y / 2 ^ m) : r / 2 ^ (m + 1) = s / 2 ^ (m + 1) ∧ (r % 2 = x ↔ s % 2 = y) := by
  have h1 : c32 r x / 2147483648 = c32 s y / 2147483648 := div_of_div (n := 31) hm h
  rw [c32_top hr, c32_top hs] at h1
  have two : ∀ z : Nat, z / 2 ^ (m + 1) = z / 2 / 2 ^ m := fun z => by rw [Nat.pow_succ, Nat.mul_comm, Nat.div_div_eq_div_mul]
  rw [two, two]
  unfold c32 at h
  by_cases hx : r % 2 = x
  · by_cases hy : s % 2 = y
    · rw [if_pos hx, if_pos hy] at h
      exact ⟨h, by simp [hx, hy]⟩
    · rw [if_pos hx, if_neg hy] at h1; omega
  · by_cases hy : s % 2 = y
    · rw [if_neg hx, if_pos hy] at h1; omega
    · rw [if_neg hx, if_neg hy] at h
      exact ⟨xor_div_inj _ h, by simp [hx, hy]⟩
theorem fold32_back : ∀ (xs ys : List Nat) (r s m : Nat), r < 4294967296 → s < 4294967296 → xs.length = ys.length → m + xs.length ≤ 32 → xs.foldl c32 r / 2 ^ m = ys.foldl c32 s / 2 ^ m → r / 2 ^ (m + xs.length) = s / 2 ^ (m + xs.length)
  | [], [], r, s, m, _, _, _, _, h => by simpa using h
  | x :: xs, y :: ys, r, s, m, hr, hs, hl, hm, h => by
    simp only [List.length_cons, Nat.add_right_cancel_iff] at hl
    simp only [List.length_cons] at hm ⊢
    simp only [List.foldl_cons] at h
    exact (c32_back (m := m + xs.length) hr hs (by omega) (fold32_back xs ys _ _ m (c32_lt hr _) (c32_lt hs _) hl (by omega) h)).1
theorem fold32_inj : ∀ (xs ys : List Nat) (r : Nat), xs.length = ys.length → xs.length ≤ 32 → (∀ x ∈ xs, x ≤ 1) → (∀ y ∈ ys, y ≤ 1) → r < 4294967296 → xs.foldl c32 r = ys.foldl c32 r → xs = ys
  | [], [], _, _, _, _, _, _, _ => rfl
  | x :: xs, y :: ys, r, hl, hm, hx, hy, hr, h => by
    simp only [List.length_cons, Nat.add_right_cancel_iff] at hl
    simp only [List.length_cons] at hm
    simp only [List.foldl_cons] at h
    have h1 := fold32_back xs ys (c32 r x) (c32 r y) 0 (c32_lt hr _) (c32_lt hr _) hl (by omega) (congrArg (· / _) h)
    rw [Nat.zero_add] at h1
    have h2 := (c32_back hr hr (show xs.length ≤ 31 by omega) h1).2
    have x1 := hx x (List.mem_cons_self ..)
    have y1 := hy y (List.mem_cons_self ..)
    have e : x = y := by
      by_cases hxx : r % 2 = x
      · have := h2.1 hxx; omega
      · have : ¬ r % 2 = y := fun hh => hxx (h2.2 hh)
        omega
    subst e
    rw [fold32_inj xs ys _ hl (by omega) (fun z hz => hx z (List.mem_cons_of_mem _ hz)) (fun z hz => hy z (List.mem_cons_of_mem _ hz)) (c32_lt hr _) h]
theorem c32_inj {r s x : Nat} (hr : r < 4294967296) (hs : s < 4294967296) (hx : x ≤ 1) (h : c32 r x = c32 s x) : r = s := by
  obtain ⟨h1, h2⟩ := c32_back (m := 0) hr hs (by omega) (show c32 r x / 2 ^ 0 = c32 s x / 2 ^ 0 by rw [h])
  have e : (2 : Nat) ^ (0 + 1) = 2 := rfl
  rw [e] at h1
  have hd : r % 2 = s % 2 := by
    by_cases hxx : r % 2 = x
    · rw [h2.1 hxx, hxx]
    · have : ¬ s % 2 = x := fun hh => hxx (h2.2 hh)
      omega
  omega
theorem fold32_same : ∀ (xs : List Nat) (r s : Nat), (∀ x ∈ xs, x ≤ 1) → r < 4294967296 → s < 4294967296 → xs.foldl c32 r = xs.foldl c32 s → r = s
  | [], _, _, _, _, _, h => h
  | x :: xs, _, _, hx, hr, hs, h => c32_inj hr hs (hx x (List.mem_cons_self ..)) (fold32_same xs _ _ (fun z hz => hx z (List.mem_cons_of_mem _ hz)) (c32_lt hr _) (c32_lt hs _) h)

/-- Lists that are the same outside a window of n places, of the same length. -/
theorem window {xs ys : List Nat} {p n : Nat} (hl : xs.length = ys.length) (h : ∀ k, k < p ∨ p + n ≤ k → xs[k]? = ys[k]?) :
    xs = xs.take p ++ ((xs.drop p).take n ++ (xs.drop p).drop n) ∧ ys = xs.take p ++ ((ys.drop p).take n ++ (xs.drop p).drop n) ∧ ((xs.drop p).take n).length = ((ys.drop p).take n).length ∧ ((xs.drop p).take n).length ≤ n := by
  have e1 : ys.take p = xs.take p := by
    refine List.ext_getElem? fun k => ?_
    simp only [List.getElem?_take]
    by_cases hk : k < p
    · rw [if_pos hk, if_pos hk, h k (.inl hk)]
    · rw [if_neg hk, if_neg hk]
  have e2 : (ys.drop p).drop n = (xs.drop p).drop n := by
    refine List.ext_getElem? fun k => ?_
    simp only [List.getElem?_drop]
    rw [h _ (.inr (by omega))]
  refine ⟨by rw [List.take_append_drop, List.take_append_drop], ?_, ?_, ?_⟩
  · rw [← e1, ← e2, List.take_append_drop, List.take_append_drop]
  · simp [hl]
  · simp; omega
theorem burst16 {xs ys : List Nat} {p r : Nat} (hl : xs.length = ys.length) (h : ∀ k, k < p ∨ p + 16 ≤ k → xs[k]? = ys[k]?) (hx : ∀ x ∈ xs, x ≤ 1) (hy : ∀ y ∈ ys, y ≤ 1) (hr : r < 65536) (hc : xs.foldl c16 r = ys.foldl c16 r) : xs = ys := by
  obtain ⟨e1, e2, l1, l2⟩ := window hl h
  generalize ha : xs.take p = a at *
  generalize hb : (xs.drop p).take 16 = b at *
  generalize hd : (ys.drop p).take 16 = d at *
  generalize (xs.drop p).drop 16 = c at *
  clear ha hb hd
  subst e1; subst e2
  simp only [List.foldl_append] at hc
  have f : ∀ (l : List Nat) (q : Nat), q < 65536 → l.foldl c16 q < 65536 := fun l => by
    induction l with
    | nil => intro q h; exact h
    | cons z l ih => intro q _; exact ih _ (c16_lt _ _)
  have h1 := fold16_same c _ _ (fun x hx' => hx x (by simp [hx'])) (f _ _ (f _ _ hr)) (f _ _ (f _ _ hr)) hc
  rw [fold16_inj b d _ l1 l2 (fun x hx' => hx x (by simp [hx'])) (fun x hx' => hy x (by simp [hx'])) (f _ _ hr) h1]
theorem burst32 {xs ys : List Nat} {p r : Nat} (hl : xs.length = ys.length) (h : ∀ k, k < p ∨ p + 32 ≤ k → xs[k]? = ys[k]?) (hx : ∀ x ∈ xs, x ≤ 1) (hy : ∀ y ∈ ys, y ≤ 1) (hr : r < 4294967296) (hc : xs.foldl c32 r = ys.foldl c32 r) : xs = ys := by
  obtain ⟨e1, e2, l1, l2⟩ := window hl h
  generalize ha : xs.take p = a at *
  generalize hb : (xs.drop p).take 32 = b at *
  generalize hd : (ys.drop p).take 32 = d at *
  generalize (xs.drop p).drop 32 = c at *
  clear ha hb hd
  subst e1; subst e2
  simp only [List.foldl_append] at hc
  have f : ∀ (l : List Nat) (q : Nat), q < 4294967296 → l.foldl c32 q < 4294967296 := fun l => by
    induction l with
    | nil => intro q h; exact h
    | cons z l ih => intro q hq; exact ih _ (c32_lt hq _)
  have h1 := fold32_same c _ _ (fun x hx' => hx x (by simp [hx'])) (f _ _ (f _ _ hr)) (f _ _ (f _ _ hr)) hc
  rw [fold32_inj b d _ l1 l2 (fun x hx' => hx x (by simp [hx'])) (fun x hx' => hy x (by simp [hx'])) (f _ _ hr) h1]

/-- The register's own bits, the highest one first, make it zero. -/
theorem own16 : ∀ (n r : Nat), r % 2 ^ (16 - n) = 0 → n ≤ 16 → r < 65536 → ((List.range n).map fun i => r / 2 ^ (15 - i) % 2).foldl c16 r = 0 := by
  intro n
  induction n with
  | zero => intro r h _ hr; simp at h ⊢; omega
  | succ n ih =>
    intro r h hn hr
    rw [List.range_succ_eq_map, List.map_cons, List.foldl_cons, List.map_map]
    have e0 : c16 r (r / 2 ^ (15 - 0) % 2) = 2 * r % 65536 := by
      unfold c16
      rw [if_pos (by show r / 32768 = r / 32768 % 2; omega)]
    rw [e0]
    have e1 : ((List.range n).map ((fun i => r / 2 ^ (15 - i) % 2) ∘ Nat.succ)) = (List.range n).map fun i => (2 * r % 65536) / 2 ^ (15 - i) % 2 := by
      refine List.map_congr_left fun i hi => ?_
      have hi := List.mem_range.1 hi
      simp only [Function.comp]
      obtain ⟨j, hj⟩ : ∃ j, 15 - i = j + 1 := ⟨14 - i, by omega⟩
      rw [hj, show 15 - i.succ = j by omega]
      have e65 : (65536 : Nat) = 2 ^ (j + 1) * 2 ^ (15 - j) := by rw [← Nat.pow_add, show j + 1 + (15 - j) = 16 by omega]
      rw [e65, Nat.mod_mul_right_div_self, Nat.pow_succ, Nat.mul_comm (2 ^ j) 2, Nat.mul_div_mul_left _ _ (by decide)]
      rw [Nat.mod_mod_of_dvd]
      exact Nat.dvd_trans (by simp) (Nat.pow_dvd_pow 2 (show 1 ≤ 15 - j by omega))
    rw [e1]
    refine ih _ ?_ (by omega) (by omega)
    have e2 : (2 : Nat) ^ (16 - n) ∣ 65536 := Nat.pow_dvd_pow 2 (show 16 - n ≤ 16 by omega)
    rw [Nat.mod_mod_of_dvd _ e2, show 16 - n = (16 - (n + 1)) + 1 by omega, Nat.pow_succ, Nat.mul_comm, Nat.mul_comm (2 ^ (16 - (n + 1))) 2, Nat.mul_comm r 2, Nat.mul_mod_mul_left, h]

end Go.Proofs.Ytdjaileeklhkmaa
