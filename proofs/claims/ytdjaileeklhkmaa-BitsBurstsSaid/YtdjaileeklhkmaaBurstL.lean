/- BitsBursts, as the law has it -/
import Derived.Test.YtdjaileeklhkmaaFlip
import Derived.Test.YtdjaileeklhkmaaRE
namespace Go.Proofs.Ytdjaileeklhkmaa
open Go.RowKit Go.Shelf

theorem bitAt_high (zs : List Nat) (k : Nat) : bitAt false zs k = bitOf zs k := rfl
theorem lowB_get (z i k : Nat) : (lowB z i)[k]? = if k < i then some (z / 2 ^ k % 2) else none := by
  unfold lowB
  by_cases h : k < i
  · rw [if_pos h]; simp [h]
  · rw [if_neg h]; exact List.getElem?_eq_none (by simp; omega)
theorem lowOf_get : ∀ (zs : List Nat) (k : Nat), (lowOf zs)[k]? = if k < 8 * zs.length then some (bitAt true zs k) else none
  | [], k => by simp [lowOf]
  | z :: zs, k => by
    have e : lowOf (z :: zs) = lowB z 8 ++ lowOf zs := by simp [lowOf]
    rw [e]
    by_cases h : k < 8
    · rw [List.getElem?_append_left (by rw [lowB_length]; exact h), lowB_get, if_pos h, if_pos (by simp; omega)]
      have e0 : k / 8 = 0 := by omega
      have e1 : k % 8 = k := by omega
      simp [bitAt, posOf, e0, e1]
    · rw [List.getElem?_append_right (by rw [lowB_length]; omega), lowB_length, lowOf_get zs (k - 8)]
      by_cases h2 : k - 8 < 8 * zs.length
      · rw [if_pos h2, if_pos (by simp; omega)]
        have e0 : k / 8 = (k - 8) / 8 + 1 := by omega
        have e1 : k % 8 = (k - 8) % 8 := by omega
        simp [bitAt, posOf, e0, e1]
      · rw [if_neg h2, if_neg (by simp; omega)]
theorem lowOf_01 (zs : List Nat) : ∀ x ∈ lowOf zs, x ≤ 1 := fun x hx => by
  obtain ⟨k, hk⟩ := List.getElem?_of_mem hx
  rw [lowOf_get] at hk
  split at hk
  · injection hk with hk; subst hk; unfold bitAt; omega
  · cases hk
/-- Bytes are told by their bits. -/
theorem byte_of_bits {x y : Nat} (hx : x ≤ 255) (hy : y ≤ 255) (h : ∀ i, i < 8 → x / 2 ^ i % 2 = y / 2 ^ i % 2) : x = y := by
  have h0 := h 0 (by omega); have h1 := h 1 (by omega); have h2 := h 2 (by omega); have h3 := h 3 (by omega)
  have h4 := h 4 (by omega); have h5 := h 5 (by omega); have h6 := h 6 (by omega); have h7 := h 7 (by omega)
  simp only [Nat.reducePow, Nat.div_one] at h0 h1 h2 h3 h4 h5 h6 h7
  omega
theorem bytes_of_bits {low : Bool} {xs ys : List Nat} (hl : xs.length = ys.length) (hx : ∀ j, xs.getD j 0 ≤ 255) (hy : ∀ j, ys.getD j 0 ≤ 255) (h : ∀ k, k < 8 * xs.length → bitAt low xs k = bitAt low ys k) : xs = ys := by
  refine List.ext_getElem hl fun j h1 h2 => ?_
  have e1 : xs.getD j 0 = xs[j] := by simp [List.getD_eq_getElem?_getD, h1]
  have e2 : ys.getD j 0 = ys[j] := by simp [List.getD_eq_getElem?_getD, h2]
  have a1 := hx j
  have a2 := hy j
  rw [e1] at a1; rw [e2] at a2
  refine byte_of_bits a1 a2 fun i hi => ?_
  have hk := h (8 * j + if low then i else 7 - i) (by split <;> omega)
  have f1 : (8 * j + if low then i else 7 - i) / 8 = j := by split <;> omega
  have f2 : posOf low (8 * j + if low then i else 7 - i) = i := by unfold posOf; split <;> omega
  unfold bitAt at hk
  rw [f1, f2, e1, e2] at hk
  exact hk
theorem bursts16 {xs ys : List Nat} {p : Nat} (hl : ys.length = xs.length) (hx : ∀ j, xs.getD j 0 ≤ 255) (hy : ∀ j, ys.getD j 0 ≤ 255) (h : ∀ k, k < p ∨ p + 16 ≤ k → bitAt false ys k = bitAt false xs k)
    (hc : (bitsOf ys 0 (8 * ys.length)).foldl c16 65535 = (bitsOf xs 0 (8 * xs.length)).foldl c16 65535) : ys = xs := by
  have hb := burst16 (p := p) (by rw [bitsOf_length, bitsOf_length, hl]) (fun k hk => by
    rw [bitsOf_get, bitsOf_get, hl, Nat.zero_add]
    have := h k hk
    rw [bitAt_high, bitAt_high] at this
    rw [this]) (bitsOf_01 _ _ _) (bitsOf_01 _ _ _) (by decide) hc
  refine bytes_of_bits (low := false) hl hy hx fun k hk => ?_
  have h1 := congrArg (fun l : List Nat => l[k]?) hb
  simp only [bitsOf_get, Nat.zero_add] at h1
  rw [if_pos hk, if_pos (by omega)] at h1
  injection h1
theorem bursts32 {xs ys : List Nat} {p : Nat} (hl : ys.length = xs.length) (hx : ∀ j, xs.getD j 0 ≤ 255) (hy : ∀ j, ys.getD j 0 ≤ 255) (h : ∀ k, k < p ∨ p + 32 ≤ k → bitAt true ys k = bitAt true xs k)
    (hc : (lowOf ys).foldl c32 4294967295 ^^^ 4294967295 = (lowOf xs).foldl c32 4294967295 ^^^ 4294967295) : ys = xs := by
  have hb := burst32 (p := p) (by rw [lowOf_length, lowOf_length, hl]) (fun k hk => by
    rw [lowOf_get, lowOf_get, hl, h k hk]) (lowOf_01 _) (lowOf_01 _) (by decide) (xor_cancel hc)
  refine bytes_of_bits (low := true) hl hy hx fun k hk => ?_
  have h1 := congrArg (fun l : List Nat => l[k]?) hb
  simp only [lowOf_get] at h1
  rw [if_pos hk, if_pos (by omega)] at h1
  injection h1
/-- The sum of bytes and their own sum is 0. -/
theorem own_sum (zs : List Nat) (s : Nat) (hs : s = (bitsOf zs 0 (8 * zs.length)).foldl c16 65535) (h : s < 65536) : (bitsOf (zs ++ [s / 256, s % 256]) 0 (8 * (zs ++ [s / 256, s % 256]).length)).foldl c16 65535 = 0 := by
  have e : bitsOf (zs ++ [s / 256, s % 256]) 0 (8 * (zs ++ [s / 256, s % 256]).length) = bitsOf zs 0 (8 * zs.length) ++ (List.range 16).map fun i => s / 2 ^ (15 - i) % 2 := by
    refine List.ext_getElem? fun k => ?_
    rw [bitsOf_get, Nat.zero_add]
    by_cases hk : k < 8 * zs.length
    · rw [if_pos (by simp; omega), List.getElem?_append_left (by rw [bitsOf_length]; exact hk), bitsOf_get, if_pos hk, Nat.zero_add]
      unfold bitOf
      simp only [List.getD_eq_getElem?_getD, List.getElem?_append_left (show k / 8 < zs.length by omega)]
    · rw [List.getElem?_append_right (by rw [bitsOf_length]; omega), bitsOf_length]
      by_cases hk2 : k < 8 * zs.length + 16
      · rw [if_pos (by simp; omega)]
        obtain ⟨i, hi⟩ : ∃ i, k = 8 * zs.length + i := ⟨k - 8 * zs.length, by omega⟩
        have e2 : k - 8 * zs.length = i := by omega
        have hi16 : i < 16 := by omega
        rw [e2, List.getElem?_map, List.getElem?_range hi16]
        simp only [Option.map_some]
        unfold bitOf
        have e3 : k / 8 = zs.length + i / 8 := by omega
        have e4 : k % 8 = i % 8 := by omega
        rw [e3, e4, List.getD_eq_getElem?_getD, List.getElem?_append_right (by omega), Nat.add_sub_cancel_left]
        rcases (show i / 8 = 0 ∨ i / 8 = 1 by omega) with h8 | h8
        · rw [h8]
          simp only [List.getElem?_cons_zero, Option.getD_some]
          rw [show (256 : Nat) = 2 ^ 8 from rfl, Nat.div_div_eq_div_mul, ← Nat.pow_add, show 8 + (7 - i % 8) = 15 - i by omega]
        · rw [h8]
          simp only [List.getElem?_cons_succ, List.getElem?_cons_zero, Option.getD_some]
          have e5 : 15 - i = 7 - i % 8 := by omega
          rw [e5]
          have h7 : 7 - i % 8 < 8 := by omega
          generalize 7 - i % 8 = t at *
          congr 1
          match t, h7 with
          | 0, _ | 1, _ | 2, _ | 3, _ | 4, _ | 5, _ | 6, _ | 7, _ => simp only [Nat.reducePow]; omega
      · rw [if_neg (by simp; omega), List.getElem?_eq_none (by simp; omega)]
  rw [e, List.foldl_append, ← hs]
  exact own16 16 s (by simp [Nat.mod_one]) (by decide) h
end Go.Proofs.Ytdjaileeklhkmaa
