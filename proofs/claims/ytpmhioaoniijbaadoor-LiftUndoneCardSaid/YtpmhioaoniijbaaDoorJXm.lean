/- undoing: the plain mathematics -/
import Derived.Test.YtpmhioaoniijbaaDoorJT
import Derived.Test.YtpmhioaoniijbaaDoorJZ
namespace Go.Proofs.YtpmhioaoniijbaaDoor
open Go.RowKit Go.Shelf

theorem undo1 {x y n d : Int} (h : ttE 1073741824 x y n d = 0) : ttE 4294967296 (turnV x y n d).1 (turnV x y n d).2 n d = 0 ∧ backV (turnV x y n d).1 (turnV x y n d).2 n d = (x, y) := by
  have hc := ttE_cases 1073741824 x y n d
  rcases hc with h' | h' | h'
  · rw [h'.2] at h; exact absurd h h'.1
  · omega
  have ok := turE_ok h'.1
  have V : turnV x y n d = forthF (turQ n d) (turA n d) (turB n d) (x, y) := by unfold turnV; rw [if_pos h]; rfl
  have N : nrm (turnV x y n d) = nrm (liftF (turA n d) (turB n d) 1 (rot (x, y) (turQ n d))) := by rw [V]; rfl
  have g := nrm_grow (S := 1) (p := rot (x, y) (turQ n d)) (.inl rfl) (tur_fit (n := n) ok.1)
  rw [← N, nrm_rot] at g
  obtain ⟨c1, c2, c3, c4⟩ := inB_bd h'.2.1
  simp only at c1 c2 c3 c4
  have q1 := abs_mul (a := x) (b := x) c1 c2 c1 c2
  have q2 := abs_mul (a := y) (b := y) c3 c4 c3 c4
  have b := bd_root (p := turnV x y n d) (r := 4294967296) (by decide) (by
    have e : nrm (x, y) = x * x + y * y := rfl
    rw [e] at g
    generalize nrm (turnV x y n d) = m at *
    generalize x * x = u at *
    generalize y * y = v at *
    omega)
  have hb : (inB 4294967296 (turnV x y n d).1 && inB 4294967296 (turnV x y n d).2) = true := by
    unfold inB; simp only [Bool.and_eq_true, decide_eq_true_eq]; exact ⟨⟨b.1, b.2.1⟩, ⟨b.2.2.1, b.2.2.2⟩⟩
  have t : ttE 4294967296 (turnV x y n d).1 (turnV x y n d).2 n d = 0 := by unfold ttE; rw [if_pos h'.1, hb]; rfl
  refine ⟨t, ?_⟩
  unfold backV
  rw [if_pos t]
  show backF (turQ n d) (turA n d) (turB n d) (turnV x y n d) = (x, y)
  rw [V, back_forth]
theorem undo2 {x y n d : Int} (h : ttE 4294967296 x y n d = 0) (h2 : ttE 1073741824 (backV x y n d).1 (backV x y n d).2 n d = 0) : turnV (backV x y n d).1 (backV x y n d).2 n d = (x, y) := by
  have V : backV x y n d = backF (turQ n d) (turA n d) (turB n d) (x, y) := by unfold backV; rw [if_pos h]; rfl
  unfold turnV
  rw [if_pos h2]
  show forthF (turQ n d) (turA n d) (turB n d) (backV x y n d) = (x, y)
  rw [V, forth_back]
theorem undo3 {x y : Int} (h : midE 1073741824 x y = 0) : midE 4294967296 (midV x y).1 (midV x y).2 = 0 ∧ sidV (midV x y).1 (midV x y).2 = (x, y) := by
  have hb : (inB 1073741824 x && inB 1073741824 y) = true := by
    rcases midE_cases 1073741824 x y with h' | h'
    · exact h'.2
    · omega
  obtain ⟨c1, c2, c3, c4⟩ := inB_bd hb
  simp only at c1 c2 c3 c4
  have V : midV x y = (y + (x - y) / 2, x - y) := by unfold midV; rw [if_pos hb]
  rw [V]
  have hb2 : (inB 4294967296 (y + (x - y) / 2) && inB 4294967296 (x - y)) = true := by
    unfold inB; simp only [Bool.and_eq_true, decide_eq_true_eq]; omega
  refine ⟨by unfold midE; rw [hb2]; rfl, ?_⟩
  unfold sidV
  rw [if_pos hb2]
  exact Prod.ext (by simp only; omega) (by simp only; omega)
theorem set_back {xs : List Int} {i j : Nat} (hi : i < xs.length) (hj : j < xs.length) (_ : i ≠ j) (a b : Int) : (((xs.set i a).set j b).set i (xs.getD i 0)).set j (xs.getD j 0) = xs := by
  refine List.ext_getElem? fun k => ?_
  simp only [List.getElem?_set, List.length_set]
  by_cases h1 : j = k
  · subst h1
    rw [if_pos rfl, if_pos hj, List.getD_eq_getElem?_getD, List.getElem?_eq_getElem hj]; rfl
  · rw [if_neg h1]
    by_cases h2 : i = k
    · subst h2
      rw [if_pos rfl, if_pos hi, List.getD_eq_getElem?_getD, List.getElem?_eq_getElem hi]; rfl
    · rw [if_neg h2, if_neg h1, if_neg h2]
theorem step_undo {s : Sp} {xs : List Int} (h : SpOk xs.length s) : stepL backF s (stepL forthF s xs) = xs := by
  obtain ⟨_, _, _, _, _, i0, i1, j0, j1, hij⟩ := h
  have hi : s.i.toNat < xs.length := by omega
  have hj : s.j.toNat < xs.length := by omega
  have hne : s.i.toNat ≠ s.j.toNat := by omega
  generalize hP : forthF s.q s.A s.B (xs.getD s.i.toNat 0, xs.getD s.j.toNat 0) = P
  have e1 : stepL forthF s xs = (xs.set s.i.toNat P.1).set s.j.toNat P.2 := by unfold stepL; rw [hP]
  have g1 : ((xs.set s.i.toNat P.1).set s.j.toNat P.2).getD s.i.toNat 0 = P.1 := by rw [getD_set_ne _ (fun h => hne h.symm), getD_set_eq _ hi]
  have g2 : ((xs.set s.i.toNat P.1).set s.j.toNat P.2).getD s.j.toNat 0 = P.2 := getD_set_eq _ (by rw [List.length_set]; exact hj)
  rw [e1]
  unfold stepL
  rw [g1, g2, show (P.1, P.2) = P from rfl, ← hP, back_forth]
  exact set_back hi hj hne _ _
theorem allT_length (f : Nat → Int → Int → Int × Int → Int × Int) : ∀ (ts : List Tn) (xs : List Int), (allT f ts xs).length = xs.length
  | [], _ => rfl
  | t :: ts, xs => by
    have := allT_length f ts (stepL f t.sp xs)
    rw [stepL_length] at this
    exact this
theorem all_undo : ∀ (ts : List Tn) (xs : List Int), tnsE xs.length ts = 0 → allT backF ts.reverse (allT forthF ts xs) = xs
  | [], _, _ => rfl
  | t :: ts, xs, h => by
    have h0 := tn_ok (tnsE_ok h 0 t rfl)
    have h1 : tnsE xs.length ts = 0 := by
      unfold tnsE at h
      rw [if_pos (tnsE_ok (ts := t :: ts) (by unfold tnsE; exact h) 0 t rfl)] at h
      exact h
    have ih := all_undo ts (stepL forthF t.sp xs) (by rw [stepL_length]; exact h1)
    have e : allT forthF (t :: ts) xs = allT forthF ts (stepL forthF t.sp xs) := rfl
    have e2 : ∀ ys, allT backF (t :: ts).reverse ys = stepL backF t.sp (allT backF ts.reverse ys) := fun ys => by
      unfold allT
      rw [List.reverse_cons, List.foldl_append]; rfl
    rw [e, e2, ih]
    exact step_undo h0.1
theorem all_sq : ∀ (ts : List Tn) (xs : List Int) (B k : Nat), tnsE xs.length ts = 0 → sq xs ≤ (bnd B k : Nat) → sq (allT forthF ts xs) ≤ (bnd B (k + ts.length) : Nat)
  | [], xs, B, k, _, h => h
  | t :: ts, xs, B, k, h, hs => by
    have h0 := tn_ok (tnsE_ok h 0 t rfl)
    have h1 : tnsE xs.length ts = 0 := by
      have e := tnsE_ok h 0 t rfl
      unfold tnsE at h
      rw [if_pos e] at h
      exact h
    obtain ⟨⟨_, _, _, _, _, i0, i1, j0, j1, hij⟩, hfit⟩ := h0
    have g := sq_step (f := forthF) (s := t.sp) (xs := xs) (by omega) (by omega) (by omega) (fun p => forth_grow hfit p)
    have ih := all_sq ts (stepL forthF t.sp xs) B (k + 1) (by rw [stepL_length]; exact h1) (bnd_next hs g)
    have e : k + (t :: ts).length = k + 1 + ts.length := by simp; omega
    rw [e]
    exact ih
/-- what Apply gives can be undone, and is -/
theorem app_undo {xs : List Int} {ts : List Tn} (h : stpE 1048576 xs ts = 0) (hx : xs.length ≤ 60) (ht : ts.length ≤ 60) : stpE 1073741824 (appV xs ts) ts = 0 ∧ undV (appV xs ts) ts = xs := by
  obtain ⟨_, _, hall, htn⟩ := stp_ok h
  have V : appV xs ts = allT forthF ts xs := if_pos h
  have s0 := sqs_le (M := 1048576) (by omega) hall
  have s1 := all_sq ts xs 65970697666560 0 htn (by
    have e : bnd 65970697666560 0 = 65970697666560 := rfl
    rw [e]; omega)
  have s2 := bnd_le (B := 65970697666560) (show 0 + ts.length ≤ 60 by omega)
  have s3 := bnd_thin
  have al : allIn 1073741824 (allT forthF ts xs) = true := allIn_true fun k x _ hk => by
    have := sq_bd s1 (M := 1073741824) (by omega) (by
      generalize bnd 65970697666560 (0 + ts.length) = a at *
      generalize bnd 65970697666560 60 = b at *
      omega) k x hk
    exact decide_eq_true this
  have e : stpE 1073741824 (appV xs ts) ts = 0 := by
    unfold stpE
    rw [V, allT_length, if_neg (by omega), if_neg (by rw [al]; decide)]
    exact htn
  refine ⟨e, ?_⟩
  unfold undV
  rw [if_pos e, V]
  exact all_undo ts xs htn
end Go.Proofs.YtpmhioaoniijbaaDoor
