/- linear: for the law None -/
import Derived.Test.YtopjjdfnnjgnlaaTR
namespace Go.Proofs.Ytopjjdfnnjgnlaa
open Go.RowKit Go.Shelf

theorem wtStep_zero (a : List Int) : wtStep a 0 = a ++ [0] := by
  refine (wtStep_of (a := a) (ys := a) (k := 0) rfl fun p hp => ?_).symm
  rw [Int.zero_mul, show rnd 0 128 = 0 by decide]
  omega
theorem wtF_zeros : ∀ (z a : List Int), (∀ x ∈ z, x = 0) → z.foldl wtStep a = a ++ z
  | [], a, _ => by rw [List.append_nil]; rfl
  | x :: z, a, h => by
    obtain rfl : x = 0 := h x List.mem_cons_self
    rw [List.foldl_cons, wtStep_zero, wtF_zeros z _ (fun y hy => h y (List.mem_cons_of_mem _ hy)), List.append_assoc]
    rfl
theorem resG_same {ws ws' : List Int} (h : ∀ s, prd ws s = prd ws' s) : ∀ (l s : List Int), resG ws s l = resG ws' s l
  | [], _ => rfl
  | v :: l, s => by
    show (v - prd ws s) :: resG ws (seeL s v) l = (v - prd ws' s) :: resG ws' (seeL s v) l
    rw [h s, resG_same h l (seeL s v)]
theorem resG_zero {ws : List Int} (h : ∀ x ∈ ws, x = 0) : ∀ (l s : List Int), resG ws s l = l
  | [], _ => rfl
  | v :: l, s => by
    have e : prd ws s = 0 := by unfold prd; rw [dotL_zero ws s h]; decide
    show (v - prd ws s) :: resG ws (seeL s v) l = v :: l
    rw [e, resG_zero h l (seeL s v), Int.sub_zero]
theorem isF_zeros {z : List Int} (hz : ∀ x ∈ z, x = 0) (hl : z.length ≤ 12) : isF z = true := by
  unfold isF
  rw [Bool.and_eq_true, decide_eq_true_eq]
  exact ⟨hl, inM_all fun x hx => by rw [hz x hx]; decide⟩
/-- Residual with a filter of zeros -/
theorem re_zeros {x z : List Int} (hz : ∀ y ∈ z, y = 0) (hl : z.length ≤ 12) : reE 2097152 x z = ckE 2097152 x ∧ reS x z = (if ckE 2097152 x = 0 then x else []) := by
  have e1 : reE 2097152 x z = ckE 2097152 x := by unfold reE; rw [isF_zeros hz hl]; rfl
  refine ⟨e1, ?_⟩
  unfold reS
  rw [e1]
  by_cases h : ckE 2097152 x = 0
  · rw [if_pos h, if_pos h]
    have e : wtL z = z := by unfold wtL; rw [wtF_zeros z [] hz]; rfl
    rw [e]
    exact resG_zero hz x s0L
  · rw [if_neg h, if_neg h]
theorem tmN_le (xs : List Int) : ∀ e, tmN xs e ≤ e
  | 0 => Nat.le_refl _
  | e + 1 => by
    unfold tmN
    split
    · have := tmN_le xs e; omega
    · exact Nat.le_refl _
theorem tmN_zero (xs : List Int) : ∀ e j, tmN xs e ≤ j → j < e → xs.getD j 0 = 0
  | 0, j, _, h => by omega
  | e + 1, j, h1, h2 => by
    unfold tmN at h1
    split at h1
    · rename_i h0
      by_cases hj : j = e
      · subst hj; exact h0
      · exact tmN_zero xs e j h1 (by omega)
    · omega
theorem tmN_last (xs : List Int) : ∀ e k, tmN xs e = k + 1 → xs.getD k 0 ≠ 0
  | 0, k, h => by simp [tmN] at h
  | e + 1, k, h => by
    unfold tmN at h
    split at h
    · exact tmN_last xs e k h
    · rename_i h0
      obtain rfl : e = k := by omega
      exact h0
theorem tm_split {f : List Int} : f = f.take (tmN f f.length) ++ f.drop (tmN f f.length) ∧ ∀ x ∈ f.drop (tmN f f.length), x = 0 := by
  refine ⟨(List.take_append_drop _ _).symm, fun x hx => ?_⟩
  obtain ⟨i, hi⟩ := List.getElem?_of_mem hx
  rw [List.getElem?_drop] at hi
  have hl := (List.getElem?_eq_some_iff.1 hi).1
  have := tmN_zero f f.length (tmN f f.length + i) (by omega) hl
  rw [List.getD_eq_getElem?_getD, hi] at this
  exact this
/-- Residual with the filter trimmed is Residual. -/
theorem re_trim {x f : List Int} (hf : isF f = true) : reE 2097152 x (f.take (tmN f f.length)) = reE 2097152 x f ∧ reS x (f.take (tmN f f.length)) = reS x f := by
  have ht := isF_take hf (tmN f f.length)
  have e1 : reE 2097152 x (f.take (tmN f f.length)) = reE 2097152 x f := by unfold reE; rw [hf, ht]
  refine ⟨e1, ?_⟩
  unfold reS
  rw [e1]
  by_cases h : reE 2097152 x f = 0
  · rw [if_pos h, if_pos h]
    obtain ⟨s1, s2⟩ := tm_split (f := f)
    have e : wtL f = wtL (f.take (tmN f f.length)) ++ f.drop (tmN f f.length) := by
      conv => lhs; rw [s1]
      unfold wtL
      rw [List.foldl_append, wtF_zeros _ _ s2]
    rw [e]
    refine (resG_same (fun s => ?_) x s0L).symm
    unfold prd
    rw [dotL_app _ _ s s2]
  · rw [if_neg h, if_neg h]
end Go.Proofs.Ytopjjdfnnjgnlaa
