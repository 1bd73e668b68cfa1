/- Sin and Cos of the reference -/
import Derived.Test.YtpmhioaoniijbaaDoorFcc
import Derived.Test.YtpmhioaoniijbaaDoorFAr
namespace Go.Proofs.YtpmhioaoniijbaaDoor
open Go.RowKit Go.Shelf

theorem near46 (v : Int) (N : Nat) (V : Nat) (h1 : (V + 35184372088832) / 70368744177664 = N) (h2 : (V + 35184372088831) / 70368744177664 = N) : (v = (V : Int) → rnd v 70368744177664 = (N : Int)) ∧ (v = -(V : Int) → rnd v 70368744177664 = -(N : Int)) := by
  unfold rnd
  constructor
  · rintro rfl; exact rnd_pos46 V N h1
  · rintro rfl; exact rnd_neg46 V N h2
theorem ang_two {r d q j : Nat} (hd : 0 < d) (hq : 0 < q) (e : r * q = 8 * j) (h : d * q = 16384) : 905502432259640355 * r / d = ang (2 * j) := by
  rw [ang_eq hd hq e h]
  unfold ang
  rw [show (16384 : Nat) = 4096 * 4 by rfl, show 905502432259640355 * (8 * j) = 905502432259640355 * (2 * j) * 4 by omega]
  exact Nat.mul_div_mul_right _ _ (by omega)
/-- what the reference's circle gives, rounded, is the point of the program -/
theorem circle_ref {n d : Int} (h : angE n d = 0) : ∃ (D t o r : Nat) (s c : Int), d = (D : Int) ∧ 1 ≤ D ∧ D ≤ 16384 ∧ n % (D : Int) = (t : Int) ∧ 8 * t / D = o ∧ 8 * t % D = r ∧
    ((ser (905502432259640355 * octR o r D / D) 62 (905502432259640355 * octR o r D / D) 1 : Nat) : Int) = s ∧ ((ser (905502432259640355 * octR o r D / D) 62 1152921504606846976 0 : Nat) : Int) = c ∧
    rnd (octF o s c).1 70368744177664 = (cir (n * (16384 / d))).2 ∧ rnd (octF o s c).2 70368744177664 = (cir (n * (16384 / d))).1 ∧
    (-1152921504606846976 ≤ (octF o s c).1 ∧ (octF o s c).1 ≤ 1152921504606846976) ∧ (-1152921504606846976 ≤ (octF o s c).2 ∧ (octF o s c).2 ≤ 1152921504606846976) := by
  have hp : pow2 d = true := by
    rcases angE_cases n d with h' | h' | h' | h'
    · omega
    · omega
    · omega
    · exact h'.1
  have di := pow2_in hp
  obtain ⟨k, hk, rfl⟩ := pow2_cases hp
  obtain ⟨q, hq⟩ : ∃ q, 16384 / 2 ^ k = q := ⟨_, rfl⟩
  have hdq : 2 ^ k * q = 16384 := by
    have : ∀ k, k < 15 → 2 ^ k * (16384 / 2 ^ k) = 16384 := by decide +kernel
    rw [← hq]; exact this k hk
  obtain ⟨D, hDe⟩ : ∃ D, 2 ^ k = D := ⟨_, rfl⟩
  rw [hDe] at hq hdq di h ⊢
  have hD1 : 1 ≤ D := by omega
  have hq0 : 0 < q := by
    rcases Nat.eq_zero_or_pos q with z | z
    · subst z; simp at hdq
    · exact z
  have e16 : (16384 : Int) / (D : Int) = (q : Int) := by rw [← hq]; rfl
  obtain ⟨t, h1, h2, h3⟩ := rem_in (n := n) hD1
  obtain ⟨oc1, oc2⟩ := oct (t := t) hdq
  have tT : t * q < 16384 := by rw [← hdq]; exact Nat.mul_lt_mul_of_pos_right h2 hq0
  have hS : n * (q : Int) % 16384 = ((t * q : Nat) : Int) := by
    have e := Int.mul_ediv_add_emod n D
    have e5 : n * (q : Int) = 16384 * (n / (D : Int)) + ((t * q : Nat) : Int) := by
      rw [h3] at e
      have e6 : ((D * q : Nat) : Int) = 16384 := by rw [hdq]; rfl
      rw [Int.natCast_mul] at e6
      generalize n / (D : Int) = z at *
      rw [← e, Int.add_mul, Int.mul_assoc, Int.mul_comm z, ← Int.mul_assoc, e6, Int.natCast_mul]
    rw [e5]; omega
  obtain ⟨T, eT⟩ : ∃ T, t * q = T := ⟨_, rfl⟩
  rw [eT] at oc1 oc2 tT hS
  obtain ⟨Q, r, eQ, hr, hQ⟩ : ∃ Q r, T = 4096 * Q + r ∧ r < 4096 ∧ Q ≤ 3 := ⟨T / 4096, T % 4096, by omega, by omega, by omega⟩
  have hc := cir_eq (S := n * (q : Int)) (Q := Q) (r := r) (by rw [hS, eQ]) hr
  refine ⟨D, t, 8 * t / D, 8 * t % D, _, _, rfl, hD1, by omega, h3, rfl, rfl, rfl, rfl, ?_⟩
  rw [e16, hc, oc1]
  obtain ⟨j, hj, hjR⟩ : ∃ j, j ≤ 2048 ∧ octR (T / 2048) (8 * t % D) D * q = 8 * j ∧ ((r < 2048 ∧ T / 2048 = 2 * Q ∧ j = r) ∨ (2048 ≤ r ∧ T / 2048 = 2 * Q + 1 ∧ j = 4096 - r)) := by
    by_cases hr2 : r < 2048
    · refine ⟨r, by omega, ?_, .inl ⟨hr2, by omega, rfl⟩⟩
      unfold octR
      rw [if_neg (by omega), oc2]; omega
    · refine ⟨4096 - r, by omega, ?_, .inr ⟨by omega, by omega, rfl⟩⟩
      unfold octR
      rw [if_pos (by omega), Nat.sub_mul, hdq, oc2]; omega
  have hx := ang_two (r := octR (T / 2048) (8 * t % D) D) (by omega) hq0 hjR.1 hdq
  rw [hx]
  have hl1 := ser_le (x := ang (2 * j)) 62 (ang (2 * j)) 1
  have hl2 := ser_le (x := ang (2 * j)) 62 1152921504606846976 0
  have ha : ang (2 * j) ≤ 1152921504606846976 := by unfold ang; omega
  have rf := sin_ref hj
  have d1 : ser (ang (2 * j)) 62 (ang (2 * j)) 1 = sinS (2 * j) := rfl
  have d2 : ser (ang (2 * j)) 62 1152921504606846976 0 = cosS (2 * j) := rfl
  rw [d1] at hl1 ⊢
  rw [d2] at hl2 ⊢
  have ns := fun v => near46 v _ _ rf.1 rf.2.1
  have nc := fun v => near46 v _ _ rf.2.2.1 rf.2.2.2
  generalize sinS (2 * j) = s0 at *
  generalize cosS (2 * j) = c0 at *
  have key : (r < 2048 ∧ T / 2048 = 2 * Q ∧ sinR j = sinR r ∧ cosR j = cosR r) ∨ (T / 2048 = 2 * Q + 1 ∧ sinR j = cosR r ∧ cosR j = sinR r) := by
    rcases hjR.2 with ⟨x1, x2, x3⟩ | ⟨x1, x2, x3⟩
    · exact .inl ⟨x1, x2, by rw [x3], by rw [x3]⟩
    · exact .inr ⟨x2, by rw [x3]; exact sin_sym (by omega) (by omega), by rw [x3]; exact cos_sym (by omega) (by omega)⟩
  rcases key with ⟨_, ko, k1, k2⟩ | ⟨ko, k1, k2⟩
  all_goals
    rw [ko]
    rw [k1] at ns
    rw [k2] at nc
    rcases (show Q = 0 ∨ Q = 1 ∨ Q = 2 ∨ Q = 3 by omega) with rfl | rfl | rfl | rfl
    all_goals
      simp only [octF, rot, Int.neg_neg, Nat.mul_zero, Nat.mul_one, Nat.reduceMul, Nat.reduceAdd, Nat.zero_add]
      refine ⟨?_, ?_, by omega, by omega⟩
      all_goals first
        | exact (ns _).1 rfl
        | exact (ns _).2 rfl
        | exact (nc _).1 rfl
        | exact (nc _).2 rfl

set_option maxRecDepth 100000 in
theorem rSin_any (n d : Int) (w : World) : Calls Tryd.prog 12 #[.int .i64 n, .int .i64 d] w fun e w' => e = .returned (.tuple #[.int .i64 (onOk (angE n d) (cir (n * (16384 / d))).2), .int .i64 (angE n d)]) ∧ Upd NoB w w' := by
  by_cases h : angE n d = 0
  · have g := angE_ok h
    have V := Lib.hid (show onOk (angE n d) (cir (n * (16384 / d))).2 = (cir (n * (16384 / d))).2 by rw [h]; rfl)
    have H := Lib.hid h
    obtain ⟨D, t, o, r, s, c, rfl, hD, hD2, ht, ho, hr, hs, hc, e1, e2, b1, b2⟩ := circle_ref h
    have rc := fun w => rcircle_any n D t o r s c w hD (by omega) g.2.2.1 g.2.2.2 ht ho hr hs hc
    obtain ⟨S, eS⟩ : ∃ S, (octF o s c).1 = S := ⟨_, rfl⟩
    obtain ⟨C, eC⟩ : ∃ C, (octF o s c).2 = C := ⟨_, rfl⟩
    simp only [eS, eC] at rc e1 e2 b1 b2
    have RC := Lib.hid rc; have E := Lib.hid e1
    clear rc e1 e2 hs hc ho hr ht eS eC h g
    go_enter Tryd.func12, Tryd.ntmps12
    go_wp2_with fail
    refine (angle_any n D _).mono ?_
    rintro e w' ⟨rfl, rfl⟩
    rw [H.out]
    go_wp2_with fail
    refine (RC.out _).mono ?_
    rintro e w2 ⟨rfl, k, rfl⟩
    go_wp2_with fail
    refine (near_any S 70368744177664 _ (by omega) (by omega) (by omega) (by omega)).mono ?_
    rintro e w3 ⟨rfl, rfl⟩
    go_wp2
    go_ret2
    exact ⟨ret2_int (by rw [V.out, E.out]) H.out.symm, (Upd.refl _ _).draw k⟩
  · have V := Lib.hid (show onOk (angE n d) (cir (n * (16384 / d))).2 = 0 from if_neg h)
    have t : (angE n d != 0) = true := by simpa using h
    have H := Lib.hid h; clear h
    go_enter Tryd.func12, Tryd.ntmps12
    go_wp2_with fail
    refine (angle_any n d _).mono ?_
    rintro e w' ⟨rfl, rfl⟩
    go_wp2
    go_ret2
    exact ⟨ret2_int V.out.symm rfl, Upd.refl _ _⟩

set_option maxRecDepth 100000 in
theorem rCos_any (n d : Int) (w : World) : Calls Tryd.prog 14 #[.int .i64 n, .int .i64 d] w fun e w' => e = .returned (.tuple #[.int .i64 (onOk (angE n d) (cir (n * (16384 / d))).1), .int .i64 (angE n d)]) ∧ Upd NoB w w' := by
  by_cases h : angE n d = 0
  · have g := angE_ok h
    have V := Lib.hid (show onOk (angE n d) (cir (n * (16384 / d))).1 = (cir (n * (16384 / d))).1 by rw [h]; rfl)
    have H := Lib.hid h
    obtain ⟨D, t, o, r, s, c, rfl, hD, hD2, ht, ho, hr, hs, hc, e1, e2, b1, b2⟩ := circle_ref h
    have rc := fun w => rcircle_any n D t o r s c w hD (by omega) g.2.2.1 g.2.2.2 ht ho hr hs hc
    obtain ⟨S, eS⟩ : ∃ S, (octF o s c).1 = S := ⟨_, rfl⟩
    obtain ⟨C, eC⟩ : ∃ C, (octF o s c).2 = C := ⟨_, rfl⟩
    simp only [eS, eC] at rc e1 e2 b1 b2
    have RC := Lib.hid rc; have E := Lib.hid e2
    clear rc e1 e2 hs hc ho hr ht eS eC h g
    go_enter Tryd.func14, Tryd.ntmps14
    go_wp2_with fail
    refine (angle_any n D _).mono ?_
    rintro e w' ⟨rfl, rfl⟩
    rw [H.out]
    go_wp2_with fail
    refine (RC.out _).mono ?_
    rintro e w2 ⟨rfl, k, rfl⟩
    go_wp2_with fail
    refine (near_any C 70368744177664 _ (by omega) (by omega) (by omega) (by omega)).mono ?_
    rintro e w3 ⟨rfl, rfl⟩
    go_wp2
    go_ret2
    exact ⟨ret2_int (by rw [V.out, E.out]) H.out.symm, (Upd.refl _ _).draw k⟩
  · have V := Lib.hid (show onOk (angE n d) (cir (n * (16384 / d))).1 = 0 from if_neg h)
    have t : (angE n d != 0) = true := by simpa using h
    have H := Lib.hid h; clear h
    go_enter Tryd.func14, Tryd.ntmps14
    go_wp2_with fail
    refine (angle_any n d _).mono ?_
    rintro e w' ⟨rfl, rfl⟩
    go_wp2
    go_ret2
    exact ⟨ret2_int V.out.symm rfl, Upd.refl _ _⟩
end Go.Proofs.YtpmhioaoniijbaaDoor
