/- rice: the numbers of the chapter -/
import Derived.Test.YtmdladcfckoglaaKI
namespace Go.Proofs.Ytmdladcfckoglaa
open Go.RowKit Go.Shelf

/-- an integer that can be coded -/
def isNum (v : Int) : Bool := decide (-2147483648 ≤ v ∧ v < 2147483648)
theorem isNum_yes {v : Int} (h : isNum v = true) : -2147483648 ≤ v ∧ v < 2147483648 := of_decide_eq_true h
theorem isNum_no {v : Int} (h : isNum v = false) : ¬ (-2147483648 ≤ v ∧ v < 2147483648) := of_decide_eq_false h
theorem isNum_of {v : Int} (h : -2147483648 ≤ v) (h2 : v < 2147483648) : isNum v = true := decide_eq_true ⟨h, h2⟩
def isPar (k : Int) : Bool := decide (0 ≤ k ∧ k ≤ 14)
theorem isPar_yes {k : Int} (h : isPar k = true) : 0 ≤ k ∧ k ≤ 14 := of_decide_eq_true h
theorem isPar_no {k : Int} (h : isPar k = false) : ¬ (0 ≤ k ∧ k ≤ 14) := of_decide_eq_false h
/-- folded, and back -/
def fo (v : Int) : Nat := if v < 0 then (-2 * v - 1).toNat else (2 * v).toNat
def uf (u : Nat) : Int := if u % 2 = 1 then -(((u + 1) / 2 : Nat) : Int) else ((u / 2 : Nat) : Int)
theorem fo_neg {v : Int} (h : v < 0) : (fo v : Int) = -2 * v - 1 := by unfold fo; rw [if_pos h]; omega
theorem fo_pos {v : Int} (h : 0 ≤ v) : (fo v : Int) = 2 * v := by unfold fo; rw [if_neg (by omega)]; omega
theorem fo_lt {v : Int} (h : isNum v = true) : fo v < 4294967296 := by
  have := isNum_yes h
  unfold fo
  split <;> omega
theorem uf_num {u : Nat} (h : u < 4294967296) : isNum (uf u) = true := by
  unfold uf
  split <;> exact isNum_of (by omega) (by omega)
theorem uf_fo {v : Int} : uf (fo v) = v := by
  unfold uf fo
  split
  · rw [if_pos (by omega)]; omega
  · rw [if_neg (by omega)]; omega
theorem fo_uf {u : Nat} : fo (uf u) = u := by
  unfold uf
  split
  · unfold fo; rw [if_pos (by omega)]; omega
  · unfold fo; rw [if_neg (by omega)]; omega
theorem uf_lt {u : Nat} (h : u < 4294967296) : -2147483648 ≤ uf u ∧ uf u ≤ 2147483647 := by
  unfold uf; split <;> omega
/-- the word of a folded integer: the unary number, the rest, its width, all its bits -/
def wUn (u k : Nat) : Nat := if u / 2 ^ k < 24 then u / 2 ^ k else 24
def wRe (u k : Nat) : Nat := if u / 2 ^ k < 24 then u % 2 ^ k else u
def wWi (u k : Nat) : Nat := if u / 2 ^ k < 24 then k else 32
def wSz (u k : Nat) : Nat := wUn u k + 1 + wWi u k
def wBits (u k : Nat) : List Nat := (numBits 0 (wUn u k) ++ numBits 1 1) ++ numBits (wRe u k : Nat) (wWi u k)
theorem wUn_le (u k : Nat) : wUn u k ≤ 24 := by unfold wUn; split <;> omega
theorem wWi_le {k : Nat} (u : Nat) (hk : k ≤ 14) : wWi u k ≤ 32 := by unfold wWi; split <;> omega
theorem wRe_lt {u : Nat} (hu : u < 4294967296) (k : Nat) : wRe u k < 2 ^ wWi u k := by
  unfold wRe wWi
  split
  · exact Nat.mod_lt _ (Nat.two_pow_pos _)
  · simpa using hu
theorem wRe_lt' {u : Nat} (hu : u < 4294967296) (k : Nat) : wRe u k < 4294967296 := by
  unfold wRe
  split
  · exact Nat.lt_of_le_of_lt (Nat.mod_le _ _) hu
  · exact hu
theorem wSz_le {k : Nat} (u : Nat) (hk : k ≤ 14) : wSz u k ≤ 57 := by have := wUn_le u k; have := wWi_le u hk; unfold wSz; omega
theorem wSz_pos (u k : Nat) : 1 ≤ wSz u k := by unfold wSz; omega
theorem wBits_length (u k : Nat) : (wBits u k).length = wSz u k := by simp only [wBits, List.length_append, numBits_length, wSz]
theorem numBits_01' (x : Int) (n : Nat) : ∀ y ∈ numBits x n, y ≤ 1 := fun y hy => by
  simp only [numBits, numTo, List.mem_map] at hy
  obtain ⟨i, _, rfl⟩ := hy
  omega
theorem wBits_01 (u k : Nat) : ∀ y ∈ wBits u k, y ≤ 1 := fun y hy => by
  simp only [wBits, List.mem_append] at hy
  rcases hy with (hy | hy) | hy
  · exact numBits_01' _ _ y hy
  · exact numBits_01' _ _ y hy
  · exact numBits_01' _ _ y hy
/-- how many bits the words of a list have with a parameter -/
def lc (l : List Int) (k : Nat) : Nat := (l.map fun v => wSz (fo v) k).sum
theorem lc_nil (k : Nat) : lc [] k = 0 := rfl
theorem lc_append (a b : List Int) (k : Nat) : lc (a ++ b) k = lc a k + lc b k := by simp [lc]
theorem lc_one (v : Int) (k : Nat) : lc [v] k = wSz (fo v) k := by simp [lc]
theorem lc_take {l : List Int} {j : Nat} {v : Int} (h : l[j]? = some v) (k : Nat) : lc (l.take (j + 1)) k = lc (l.take j) k + wSz (fo v) k := by
  rw [List.take_add_one, h, lc_append]; simp [lc]
theorem lc_le (l : List Int) {k : Nat} (hk : k ≤ 14) : lc l k ≤ 57 * l.length := by
  induction l with
  | nil => simp [lc]
  | cons v l ih =>
    have e : lc (v :: l) k = wSz (fo v) k + lc l k := by simp [lc]
    have := wSz_le (fo v) hk
    rw [e, List.length_cons]; omega
theorem lc_take_le (l : List Int) (j : Nat) {k : Nat} (hk : k ≤ 14) : lc (l.take j) k ≤ 57 * j := by
  have := lc_le (l.take j) hk
  have h2 := List.length_take_le j l
  exact Nat.le_trans this (Nat.mul_le_mul_left _ h2)
/-- the first one of 0, .., n that makes f least -/
def amin (f : Nat → Nat) : Nat → Nat
  | 0 => 0
  | n + 1 => if f (n + 1) < f (amin f n) then n + 1 else amin f n
theorem amin_le (f : Nat → Nat) : ∀ n, amin f n ≤ n
  | 0 => Nat.le_refl _
  | n + 1 => by
    have := amin_le f n
    unfold amin; split <;> omega
theorem amin_least (f : Nat → Nat) : ∀ n i, i ≤ n → f (amin f n) ≤ f i
  | 0, i, h => by obtain rfl : i = 0 := by omega
                  exact Nat.le_refl _
  | n + 1, i, h => by
    have ih := amin_least f n
    unfold amin
    by_cases hi : i = n + 1
    · subst hi; split <;> omega
    · have := ih i (by omega)
      split <;> omega
theorem amin_first (f : Nat → Nat) : ∀ n i, i < amin f n → f (amin f n) < f i
  | 0, i, h => by simp [amin] at h
  | n + 1, i, h => by
    have ih := amin_first f n
    have hl := amin_least f n
    unfold amin at h ⊢
    split at h
    · rename_i hc
      rw [if_pos hc]
      have := hl i (by omega)
      omega
    · rename_i hc
      rw [if_neg hc]
      exact ih i h
/-- the parameter of a list -/
def bst (l : List Int) : Nat := amin (lc l) 14
theorem bst_le (l : List Int) : bst l ≤ 14 := amin_le _ _
/-- the errors of a list -/
def listE (l : List Int) : Int := if 8192 < l.length then 2 else if l.all isNum then 0 else 6
theorem listE_ok {l : List Int} (h : listE l = 0) : l.length ≤ 8192 ∧ ∀ (j : Nat) (v : Int), l[j]? = some v → isNum v = true := by
  unfold listE at h
  split at h
  · omega
  · split at h
    · rename_i h1 h2
      exact ⟨by omega, fun j v hj => List.all_eq_true.1 h2 v (List.mem_of_getElem? hj)⟩
    · omega
theorem listE_mem {l : List Int} (h : listE l = 0) : ∀ v ∈ l, isNum v = true := by
  unfold listE at h
  split at h
  · omega
  · split at h
    · rename_i h1 h2
      exact List.all_eq_true.1 h2
    · omega
theorem listE_of {l : List Int} (h1 : l.length ≤ 8192) (h2 : ∀ v ∈ l, isNum v = true) : listE l = 0 := by
  unfold listE
  rw [if_neg (by omega), if_pos (List.all_eq_true.2 h2)]
theorem listE_cases (l : List Int) : listE l = 0 ∨ listE l = 2 ∨ listE l = 6 := by
  unfold listE
  split
  · exact .inr (.inl rfl)
  · split
    · exact .inl rfl
    · exact .inr (.inr rfl)
/-- parts of a list -/
def partOf (l : List Int) (n i : Nat) : List Int := (l.drop (i * n)).take n
def canB (n p : Nat) : Bool := decide (p = 0 ∨ (0 < n ∧ n % 2 ^ p = 0))
def wholeTo (l : List Int) (n : Nat) : Nat → Nat
  | 0 => 2
  | i + 1 => wholeTo l n i + (4 + lc (partOf l n i) (bst (partOf l n i)))
def whole (l : List Int) (p : Nat) : Nat := wholeTo l (l.length / 2 ^ p) (2 ^ p)
def omin (l : List Int) : Nat → Nat
  | 0 => 0
  | p + 1 => if canB l.length (p + 1) = true ∧ whole l (p + 1) < whole l (omin l p) then p + 1 else omin l p
def ord (l : List Int) : Nat := omin l 3
theorem partOf_le (l : List Int) (n i : Nat) : (partOf l n i).length ≤ n := by unfold partOf; exact List.length_take_le _ _
theorem partOf_le' (l : List Int) (n i : Nat) : (partOf l n i).length ≤ l.length := by unfold partOf; simp; omega
theorem wholeTo_le (l : List Int) (n : Nat) : ∀ i, wholeTo l n i ≤ 2 + i * (4 + 57 * n)
  | 0 => by simp [wholeTo]
  | i + 1 => by
    have ih := wholeTo_le l n i
    have h1 := lc_le (partOf l n i) (bst_le (partOf l n i))
    have h2 := Nat.mul_le_mul_left 57 (partOf_le l n i)
    rw [wholeTo, Nat.add_mul, Nat.one_mul]
    omega
theorem omin_le (l : List Int) : ∀ p, omin l p ≤ p
  | 0 => Nat.le_refl _
  | p + 1 => by have := omin_le l p; unfold omin; split <;> omega
theorem omin_can (l : List Int) : ∀ p, canB l.length (omin l p) = true
  | 0 => by simp [omin, canB]
  | p + 1 => by
    have := omin_can l p
    unfold omin
    split
    · rename_i h; exact h.1
    · exact this
theorem omin_least (l : List Int) : ∀ p i, i ≤ p → canB l.length i = true → whole l (omin l p) ≤ whole l i
  | 0, i, h, _ => by obtain rfl : i = 0 := by omega
                     exact Nat.le_refl _
  | p + 1, i, h, hc => by
    have ih := omin_least l p
    unfold omin
    by_cases hi : i = p + 1
    · subst hi
      split
      · exact Nat.le_refl _
      · rename_i hn
        rcases Nat.lt_or_ge (whole l (p + 1)) (whole l (omin l p)) with h1 | h1
        · exact absurd ⟨hc, h1⟩ hn
        · exact h1
    · have := ih i (by omega) hc
      split
      · omega
      · exact this
theorem omin_first (l : List Int) : ∀ p i, i < omin l p → canB l.length i = true → whole l (omin l p) < whole l i
  | 0, i, h, _ => by simp [omin] at h
  | p + 1, i, h, hc => by
    have ih := omin_first l p
    have hl := omin_least l p
    unfold omin at h ⊢
    split at h
    · rename_i hd
      rw [if_pos hd]
      have := hl i (by omega) hc
      omega
    · rename_i hd
      rw [if_neg hd]
      exact ih i h hc
end Go.Proofs.Ytmdladcfckoglaa
