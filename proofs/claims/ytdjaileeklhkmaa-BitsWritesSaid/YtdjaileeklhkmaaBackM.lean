/- what was written is read again: numbers and bits -/
import Derived.Test.YtdjaileeklhkmaaWritten
namespace Go.Proofs.Ytdjaileeklhkmaa
open Go.RowKit Go.Shelf

theorem bitOf_pack {L : List Nat} (h : bit01 L) (k : Nat) (hk : k < L.length) : bitOf (pack L) k = L.getD k 0 := by
  have hj : k / 8 < (L.length + 7) / 8 := by omega
  have e : (pack L).getD (k / 8) 0 = packByte L (k / 8) := by
    simp only [List.getD_eq_getElem?_getD, pack_get, if_pos hj, Option.getD_some]
  unfold bitOf
  rw [e]
  have hk8 : k = 8 * (k / 8) + k % 8 := by omega
  have h0 := h (8 * (k / 8)); have h1 := h (8 * (k / 8) + 1); have h2 := h (8 * (k / 8) + 2); have h3 := h (8 * (k / 8) + 3)
  have h4 := h (8 * (k / 8) + 4); have h5 := h (8 * (k / 8) + 5); have h6 := h (8 * (k / 8) + 6); have h7 := h (8 * (k / 8) + 7)
  have hr : k % 8 = 0 ∨ k % 8 = 1 ∨ k % 8 = 2 ∨ k % 8 = 3 ∨ k % 8 = 4 ∨ k % 8 = 5 ∨ k % 8 = 6 ∨ k % 8 = 7 := by omega
  conv => rhs; rw [hk8]
  unfold packByte
  rcases hr with hr | hr | hr | hr | hr | hr | hr | hr <;> rw [hr] <;> simp only [Nat.add_zero, Nat.sub_zero, Nat.reducePow, Nat.reduceSub] <;> omega
theorem bitsOf_pack {L : List Nat} (h : bit01 L) (s n : Nat) (hs : s + n ≤ L.length) : bitsOf (pack L) s n = (L.drop s).take n := by
  refine List.ext_getElem (by simp [bitsOf]; omega) fun i h1 h2 => ?_
  have hi : i < n := by simpa [bitsOf] using h1
  have e := bitOf_pack h (s + i) (by omega)
  simp only [bitsOf, List.getElem_map, List.getElem_range, List.getElem_take, List.getElem_drop]
  rw [e, List.getD_eq_getElem?_getD, List.getElem?_eq_getElem (by omega), Option.getD_some]
theorem bitsOf_mid {P bs R : List Nat} (h : bit01 (P ++ (bs ++ R))) : bitsOf (pack (P ++ (bs ++ R))) P.length bs.length = bs := by
  rw [bitsOf_pack h _ _ (by simp), List.drop_left, List.take_left]
theorem bitsOf_end {P bs R : List Nat} (h : bit01 (P ++ (bs ++ R))) : bitsOf (pack (P ++ (bs ++ R))) P.length ((P ++ (bs ++ R)).length - P.length) = bs ++ R := by
  rw [bitsOf_pack h _ _ (by simp), List.drop_left, List.take_of_length_le (by simp)]
theorem half_mod (w : Int) (k : Nat) : w % 2 ^ (k + 1) = 2 * (w / 2 % 2 ^ k) + w % 2 := by
  have hq : (0 : Int) < 2 ^ k := Int.pow_pos (by omega)
  generalize hQ : (2 : Int) ^ k = q at *
  have e2 : (2 : Int) ^ (k + 1) = 2 * q := by rw [Int.pow_succ, hQ]; omega
  rw [e2]
  have a1 := Int.mul_ediv_add_emod w 2
  have a2 := Int.mul_ediv_add_emod (w / 2) q
  have b1 := Int.emod_nonneg (w / 2) (by omega : q ≠ 0)
  have b2 := Int.emod_lt_of_pos (w / 2) hq
  have e : w = (2 * (w / 2 % q) + w % 2) + (2 * q) * (w / 2 / q) := by
    have : 2 * q * (w / 2 / q) = 2 * (q * (w / 2 / q)) := Int.mul_assoc ..
    omega
  conv => lhs; rw [e]
  rw [Int.add_mul_emod_self_left]
  exact Int.emod_eq_of_lt (by omega) (by omega)
theorem valBits_numTo (v : Int) (n : Nat) : ∀ k, k ≤ n → (valBits (numTo v n k) : Int) = v / 2 ^ (n - k) % 2 ^ k
  | 0, _ => by simp [numTo, valBits]
  | k + 1, h => by
    rw [numTo_succ, valBits_snoc]
    have ih := valBits_numTo v n k (by omega)
    have e1 : n - k = (n - 1 - k) + 1 := by omega
    have e2 : n - (k + 1) = n - 1 - k := by omega
    rw [e1] at ih
    rw [e2]
    have e3 : v / 2 ^ (n - 1 - k + 1) = v / 2 ^ (n - 1 - k) / 2 := by
      have hp : (0 : Int) < 2 ^ (n - 1 - k) := Int.pow_pos (by omega)
      rw [Int.pow_succ, Int.ediv_ediv, if_neg (fun h => by omega), Int.sub_zero]
    rw [e3] at ih
    generalize v / 2 ^ (n - 1 - k) = w at *
    rw [half_mod]
    have : 0 ≤ w % 2 := by omega
    push_cast
    omega
theorem valBits_num (v : Int) (n : Nat) : (valBits (numBits v n) : Int) = v % 2 ^ n := by
  have := valBits_numTo v n n (Nat.le_refl _)
  simpa [numBits] using this
theorem numBits_zero (n : Nat) : ∀ y ∈ numBits 0 n, y = 0 := fun y hy => by
  simp [numBits, numTo] at hy
  exact hy.2.symm ▸ rfl
theorem numBits_one : numBits 1 1 = [1] := by decide
theorem numBits_top (v : Int) (k : Nat) (h1 : 2 ^ k ≤ v) (h2 : v < 2 ^ (k + 1)) : ∃ rest, numBits v (k + 1) = 1 :: rest := by
  have e : v / 2 ^ k % 2 = 1 := by
    have hp : (0 : Int) < 2 ^ k := Int.pow_pos (by omega)
    have e2 : (2 : Int) ^ (k + 1) = 2 * 2 ^ k := by rw [Int.pow_succ]; omega
    rw [e2] at h2
    generalize (2 : Int) ^ k = q at *
    have : v / q = 1 := by
      have a1 := Int.mul_ediv_add_emod v q
      have a2 := Int.emod_nonneg v (by omega : q ≠ 0)
      have a3 := Int.emod_lt_of_pos v hp
      have l1 : 1 ≤ v / q := (Int.le_ediv_iff_mul_le hp).2 (by omega)
      have l2 : v / q < 2 := (Int.ediv_lt_iff_lt_mul hp).2 (by omega)
      omega
    rw [this]; rfl
  refine ⟨(List.range k).map (fun i => (v / 2 ^ (k - (i + 1)) % 2).toNat), ?_⟩
  unfold numBits numTo
  rw [List.range_succ_eq_map, List.map_cons, List.map_map]
  congr 1
  simp only [Nat.add_sub_cancel, Nat.sub_zero, e]
  rfl
theorem zscan_found (most k : Nat) (zs rest : List Nat) (hz : ∀ y ∈ zs, y = 0) (hl : zs.length = k) (hk : k ≤ most) : zscan most (zs ++ 1 :: rest) 0 = (k, 0) := by
  rw [zscan_skip most zs _ 0 hz (by omega), hl, Nat.zero_add, zscan, if_pos rfl]

/-- The bits so far, those of a call, and the rest. -/
structure Mid (L P R : List Nat) (x : OpD) : Prop where
  eq : L = P ++ (x.bits P ++ R)
  b : bit01 L
  len : L.length ≤ 1048576
  bad : ¬ x.bad

theorem back0 {L P R : List Nat} {x : OpD} (h : Mid L P R x) (hk : x.k % 6 = 0) : getR (pack L) L.length P.length x.n = (x.v, 0, (P ++ x.bits P).length) := by
  obtain ⟨rfl, hb, hl, hx⟩ := h
  have hx : ¬ putBad x.v x.n := by simpa [OpD.bad, hk] using hx
  have hx : 0 ≤ x.n ∧ x.n ≤ 32 ∧ 0 ≤ x.v ∧ x.v < 2 ^ x.n.toNat := Classical.not_not.1 hx
  have hbits : x.bits P = numBits x.v x.n.toNat := by simp [OpD.bits, hk]
  rw [hbits] at hb ⊢
  have hm := bitsOf_mid hb
  rw [numBits_length] at hm
  unfold getR
  rw [if_neg (by omega), if_neg (by simp [numBits_length]; omega), hm, valBits_num, Int.emod_eq_of_lt hx.2.2.1 hx.2.2.2]
  simp [numBits_length]
theorem back1 {L P R : List Nat} {x : OpD} (h : Mid L P R x) (hk : x.k % 6 = 1) : sgnR (pack L) L.length P.length x.n = (x.v, 0, (P ++ x.bits P).length) := by
  obtain ⟨rfl, hb, hl, hx⟩ := h
  have hx : ¬ signedBad x.v x.n := by simpa [OpD.bad, hk] using hx
  have hx : 1 ≤ x.n ∧ x.n ≤ 32 ∧ -2 ^ (x.n.toNat - 1) ≤ x.v ∧ x.v < 2 ^ (x.n.toNat - 1) := Classical.not_not.1 hx
  have hbits : x.bits P = numBits x.v x.n.toNat := by simp [OpD.bits, hk]
  rw [hbits] at hb ⊢
  have hm := bitsOf_mid hb
  rw [numBits_length] at hm
  unfold sgnR
  rw [if_neg (by omega), if_neg (by simp [numBits_length]; omega), hm]
  have hv := valBits_num x.v x.n.toNat
  have hp : (0 : Int) < 2 ^ (x.n.toNat - 1) := Int.pow_pos (by omega)
  have e2 : (2 : Int) ^ x.n.toNat = 2 * 2 ^ (x.n.toNat - 1) := by
    conv => lhs; rw [show x.n.toNat = (x.n.toNat - 1) + 1 by omega, Int.pow_succ]
    omega
  have eN : ((2 ^ (x.n.toNat - 1) : Nat) : Int) = 2 ^ (x.n.toNat - 1) := by push_cast; rfl
  obtain ⟨_, _, l1, l2⟩ := hx
  have goal : (if 2 ^ (x.n.toNat - 1) ≤ valBits (numBits x.v x.n.toNat) then (valBits (numBits x.v x.n.toNat) : Int) - 2 ^ x.n.toNat else valBits (numBits x.v x.n.toNat)) = x.v := by
    rw [e2] at hv ⊢
    generalize valBits (numBits x.v x.n.toNat) = u at *
    generalize hq : (2 : Int) ^ (x.n.toNat - 1) = q at *
    by_cases hneg : x.v < 0
    · have : x.v % (2 * q) = x.v + 2 * q := by
        rw [← Int.add_emod_right]; exact Int.emod_eq_of_lt (by omega) (by omega)
      rw [this] at hv
      rw [if_pos (by omega)]; omega
    · have : x.v % (2 * q) = x.v := Int.emod_eq_of_lt (by omega) (by omega)
      rw [this] at hv
      rw [if_neg (by omega)]; omega
  rw [goal]
  simp [numBits_length]
theorem back2 {L P R : List Nat} {x : OpD} (h : Mid L P R x) (hk : x.k % 6 = 2) : unaR (pack L) L.length P.length 1000 = (x.v, 0, (P ++ x.bits P).length) := by
  obtain ⟨rfl, hb, hl, hx⟩ := h
  have hx : ¬ unaryBad x.v := by simpa [OpD.bad, hk] using hx
  have hx : 0 ≤ x.v ∧ x.v ≤ 1000 := Classical.not_not.1 hx
  have hbits : x.bits P = numBits 0 x.v.toNat ++ numBits 1 1 := by simp [OpD.bits, hk]
  rw [hbits] at hb ⊢
  have he := bitsOf_end hb
  have hz := zscan_found 1000 x.v.toNat (numBits 0 x.v.toNat) R (numBits_zero _) (numBits_length _ _) (by omega)
  unfold unaR
  rw [he, numBits_one, List.append_assoc]
  simp only [List.singleton_append, show Int.toNat 1000 = 1000 from rfl, hz]
  rw [if_neg (by decide), if_pos trivial]
  simp [numBits_length]
  omega
theorem back3 {L P R : List Nat} {x : OpD} (h : Mid L P R x) (hk : x.k % 6 = 3) : gamR (pack L) L.length P.length = (x.v, 0, (P ++ x.bits P).length) := by
  obtain ⟨rfl, hb, hl, hx⟩ := h
  have hx : ¬ gammaBad x.v := by simpa [OpD.bad, hk] using hx
  have hx : 1 ≤ x.v ∧ x.v < 2097152 := Classical.not_not.1 hx
  have hbits : x.bits P = numBits 0 (Nat.log2 x.v.toNat) ++ numBits x.v (Nat.log2 x.v.toNat + 1) := by simp [OpD.bits, hk]
  rw [hbits] at hb ⊢
  have hv0 : x.v.toNat ≠ 0 := by omega
  have g1 : 2 ^ Nat.log2 x.v.toNat ≤ x.v.toNat := Nat.log2_self_le hv0
  have g2 : x.v.toNat < 2 ^ (Nat.log2 x.v.toNat + 1) := Nat.lt_log2_self
  have g3 : Nat.log2 x.v.toNat < 21 := (Nat.log2_lt hv0).2 (by omega)
  generalize Nat.log2 x.v.toNat = k at *
  have c1 : (2 : Int) ^ k ≤ x.v := by
    have : ((2 ^ k : Nat) : Int) ≤ x.v := by omega
    simpa using this
  have c2 : x.v < (2 : Int) ^ (k + 1) := by
    have : x.v < ((2 ^ (k + 1) : Nat) : Int) := by omega
    simpa using this
  obtain ⟨rest, hr⟩ := numBits_top x.v k c1 c2
  have he := bitsOf_end hb
  have hz := zscan_found 20 k (numBits 0 k) (rest ++ R) (numBits_zero _) (numBits_length _ _) (by omega)
  have hb2 : bit01 ((P ++ numBits 0 k) ++ (numBits x.v (k + 1) ++ R)) := by simpa [List.append_assoc] using hb
  have hm := bitsOf_mid hb2
  rw [List.length_append, numBits_length, numBits_length] at hm
  have eL : (P ++ numBits 0 k) ++ (numBits x.v (k + 1) ++ R) = P ++ (numBits 0 k ++ numBits x.v (k + 1) ++ R) := by simp [List.append_assoc]
  rw [eL] at hm
  have e0 : bitsOf (pack (P ++ (numBits 0 k ++ numBits x.v (k + 1) ++ R))) P.length ((P ++ (numBits 0 k ++ numBits x.v (k + 1) ++ R)).length - P.length) = numBits 0 k ++ 1 :: (rest ++ R) := by
    rw [he, List.append_assoc, hr]; rfl
  unfold gamR
  rw [e0, hz]
  simp only
  rw [if_pos trivial, if_neg (by simp [numBits_length]; omega), hm, valBits_num, Int.emod_eq_of_lt (by omega) c2]
  simp [numBits_length]
  omega
theorem back4 {L P R : List Nat} {x : OpD} (h : Mid L P R x) (hk : x.k % 6 = 4) : P.length + alnN L.length P.length = (P ++ x.bits P).length ∧ (P ++ x.bits P).length % 8 = 0 := by
  obtain ⟨rfl, hb, hl, hx⟩ := h
  have hbits : x.bits P = numBits (-x.v) ((8 - P.length % 8) % 8) := by simp [OpD.bits, hk]
  rw [hbits]
  unfold alnN
  simp only [List.length_append, numBits_length]
  omega
theorem back5 {L P R : List Nat} {x : OpD} (h : Mid L P R x) (hk : x.k % 6 = 5) : takeOut (pack L) L.length P.length x.n = (pack (bitsOf x.zs 0 x.n.toNat), 0, (P ++ x.bits P).length) ∧ 0 ≤ x.n ∧ x.n ≤ 8 * (x.zs.length : Int) := by
  obtain ⟨rfl, hb, hl, hx⟩ := h
  have hx : ¬ appendBad x.zs x.n := by simpa [OpD.bad, hk] using hx
  have hx : 0 ≤ x.n ∧ x.n ≤ 8 * (x.zs.length : Int) := Classical.not_not.1 hx
  have hbits : x.bits P = bitsOf x.zs 0 x.n.toNat := by simp [OpD.bits, hk]
  rw [hbits] at hb ⊢
  have hm := bitsOf_mid hb
  rw [bitsOf_length] at hm
  refine ⟨?_, hx⟩
  unfold takeOut
  rw [if_neg (by omega), if_neg (by simp [bitsOf_length]; omega), hm]
  simp [bitsOf_length]
end Go.Proofs.Ytdjaileeklhkmaa
