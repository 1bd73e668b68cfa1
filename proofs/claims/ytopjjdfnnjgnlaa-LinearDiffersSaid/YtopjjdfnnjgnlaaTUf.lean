/- linear: the reference's Add in mathematics -/
import Derived.Test.YtopjjdfnnjgnlaaTUe
namespace Go.Proofs.Ytopjjdfnnjgnlaa
open Go.RowKit Go.Shelf

/-- the i-th element from behind -/
def bkG (l : List Int) (i : Nat) : Int := l.reverse.getD i 0
theorem difG_snoc : ∀ (b : Int) (l : List Int) (u : Int), difG b (l ++ [u]) = difG b l ++ [u - befG b l l.length]
  | b, [], u => rfl
  | b, x :: l, u => by
    rw [List.cons_append]
    show (x - b) :: difG x (l ++ [u]) = ((x - b) :: difG x l) ++ [u - befG b (x :: l) (x :: l).length]
    have e : befG x l l.length = befG b (x :: l) (l.length + 1) := by
      show (if l.length = 0 then x else l.getD (l.length - 1) 0) = (if l.length + 1 = 0 then b else (x :: l).getD (l.length + 1 - 1) 0)
      rw [if_neg (Nat.succ_ne_zero _), Nat.add_sub_cancel]
      cases l with
      | nil => rfl
      | cons a t => rw [if_neg (by simp)]; rfl
    rw [difG_snoc x l u, List.length_cons, ← e]
    rfl
theorem bef_bk (l : List Int) : befG 0 l l.length = bkG l 0 := by
  unfold befG bkG
  rw [rev_get]
  by_cases h : l.length = 0
  · rw [if_pos h, if_neg (by omega)]
  · rw [if_neg h, if_pos (by omega)]; rfl
theorem bk_dif (l : List Int) (i : Nat) : bkG (difG 0 l) i = bkG l i - bkG l (i + 1) := by
  unfold bkG
  rw [rev_get, rev_get, rev_get, difG_len]
  by_cases h : i < l.length
  · rw [if_pos h, if_pos h, difG_get _ _ _ (by omega)]
    by_cases h2 : i + 1 < l.length
    · rw [if_pos h2, if_neg (by omega), show l.length - 1 - (i + 1) = l.length - 1 - i - 1 by omega]
    · rw [if_neg h2, if_pos (by omega)]
  · rw [if_neg h, if_neg h, if_neg (by omega)]; rfl
/-- what the elements before add to the next one -/
def preG (k : Nat) (y : List Int) : Int :=
  match k with
  | 0 => 0
  | 1 => bkG y 0
  | 2 => 2 * bkG y 0 - bkG y 1
  | 3 => 3 * bkG y 0 - 3 * bkG y 1 + bkG y 2
  | _ => 4 * bkG y 0 - 6 * bkG y 1 + 4 * bkG y 2 - bkG y 3
theorem difK_snoc {k : Nat} (hk : k ≤ 4) (y : List Int) (u : Int) : difK k (y ++ [u]) = difK k y ++ [u - preG k y] := by
  have s0 : difK 0 (y ++ [u]) = difK 0 y ++ [u - 0] := by show y ++ [u] = y ++ [u - 0]; rw [Int.sub_zero]
  have st : ∀ i e, difK i (y ++ [u]) = difK i y ++ [e] → difK (i + 1) (y ++ [u]) = difK (i + 1) y ++ [e - bkG (difK i y) 0] := fun i e h => by
    show difG 0 (difK i (y ++ [u])) = difG 0 (difK i y) ++ _
    rw [h, difG_snoc, bef_bk]
  have s1 := st 0 _ s0
  have s2 := st 1 _ s1
  have s3 := st 2 _ s2
  have s4 := st 3 _ s3
  have b1 : ∀ i, bkG (difK 1 y) i = bkG y i - bkG y (i + 1) := fun i => bk_dif y i
  have b2 : ∀ i, bkG (difK 2 y) i = bkG (difK 1 y) i - bkG (difK 1 y) (i + 1) := fun i => bk_dif _ i
  have b3 : ∀ i, bkG (difK 3 y) i = bkG (difK 2 y) i - bkG (difK 2 y) (i + 1) := fun i => bk_dif _ i
  have b0 : bkG (difK 0 y) 0 = bkG y 0 := rfl
  rw [b0] at s1 s2 s3 s4
  rw [b1] at s2 s3 s4
  rw [b2, b1, b1] at s3 s4
  rw [b3, b2, b2, b1, b1, b1] at s4
  simp only [Nat.zero_add, Nat.reduceAdd] at s1 s2 s3 s4
  have : k = 0 ∨ k = 1 ∨ k = 2 ∨ k = 3 ∨ k = 4 := by omega
  rcases this with rfl | rfl | rfl | rfl | rfl
  · exact s0
  · rw [s1, show preG 1 y = bkG y 0 from rfl]; congr 2; omega
  · rw [s2, show preG 2 y = 2 * bkG y 0 - bkG y 1 from rfl]; congr 2; omega
  · rw [s3, show preG 3 y = 3 * bkG y 0 - 3 * bkG y 1 + bkG y 2 from rfl]; congr 2; omega
  · rw [s4, show preG 4 y = 4 * bkG y 0 - 6 * bkG y 1 + 4 * bkG y 2 - bkG y 3 from rfl]; congr 2; omega
theorem difG_takeN : ∀ (b : Int) (l : List Int) (n : Nat), difG b (l.take n) = (difG b l).take n
  | b, [], n => by rw [List.take_nil]; show [] = [].take n; rw [List.take_nil]
  | b, x :: l, 0 => rfl
  | b, x :: l, n + 1 => by
    show (x - b) :: difG x (l.take n) = (x - b) :: (difG x l).take n
    rw [difG_takeN x l n]
theorem difK_takeN : ∀ (k : Nat) (l : List Int) (n : Nat), difK k (l.take n) = (difK k l).take n
  | 0, l, n => rfl
  | k + 1, l, n => by
    show difG 0 (difK k (l.take n)) = (difG 0 (difK k l)).take n
    rw [difK_takeN k l n, difG_takeN]
theorem difK_inj : ∀ (k : Nat) {y z : List Int}, difK k y = difK k z → y = z
  | 0, y, z, h => h
  | k + 1, y, z, h => difK_inj k (by
    have h : difG 0 (difK k y) = difG 0 (difK k z) := h
    have := congrArg (sumG 0) h
    rw [sum_dif, sum_dif] at this
    exact this)
/-- one round of the reference's Add -/
theorem add_step {k : Nat} (hk : k ≤ 4) {d y : List Int} {n : Nat} {v : Int} (h : d[n]? = some v) (hy : difK k y = d.take n) :
    difK k (y ++ [v + preG k y]) = d.take (n + 1) ∧ (¬ (-2097152 ≤ v + preG k y ∧ v + preG k y ≤ 2097152) → addK k d = none) := by
  have hd : d.take (n + 1) = d.take n ++ [v] := by rw [List.take_add_one, h]; rfl
  refine ⟨by rw [difK_snoc hk, hy, hd, show v + preG k y - preG k y = v by omega], fun hc => ?_⟩
  cases e : addK k d with
  | none => rfl
  | some z =>
    exfalso
    obtain ⟨hz, hdz⟩ := addK_some k e
    have hn : n < z.length := by
      have := (List.getElem?_eq_some_iff.1 h).1
      rw [← hdz, difK_len] at this
      exact this
    have e1 : z.take n = y := difK_inj k (by rw [difK_takeN, hdz, hy])
    have e2 : z.take (n + 1) = y ++ [z.getD n 0] := by rw [List.take_add_one, e1, getD_of hn]; rfl
    have e3 : difK k (z.take (n + 1)) = d.take (n + 1) := by rw [difK_takeN, hdz]
    rw [e2, difK_snoc hk, hy, hd] at e3
    have e4 := List.append_cancel_left e3
    injection e4 with e4
    have hb := inM_yes hz (z.getD n 0) (List.mem_of_getElem? (getD_of hn))
    omega
theorem add_end {k : Nat} {d y : List Int} (hy : difK k y = d) (hi : inM 2097152 y = true) : addK k d = some y := by rw [← hy]; exact addK_dif k hi
end Go.Proofs.Ytopjjdfnnjgnlaa
