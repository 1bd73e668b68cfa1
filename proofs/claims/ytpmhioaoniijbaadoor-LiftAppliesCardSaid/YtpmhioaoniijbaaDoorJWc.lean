/- the law of lists of turns -/
import Derived.Test.YtpmhioaoniijbaaDoorJWb
import Derived.Test.YtpmhioaoniijbaaDoorJM
namespace Go.Proofs.YtpmhioaoniijbaaDoor
open Go.RowKit Go.Shelf

theorem qints_own (sa sb : Value) (xs : List Int) (w : World) (ha : Ints w sa xs) (hb : Ints w sb xs) : Calls Tryd.prog 32 #[sa, sb] w fun e w' => e = .returned (.bool true) ∧ Upd NoB w w' := by
  have h := qints_any _ _ xs xs w ha hb
  rw [intsB_self] at h
  exact h.mono fun e w' ⟨he, n, hn⟩ => ⟨he, by subst hn; exact upd_drewN (Upd.refl _ _) n⟩
theorem allT_len (f : Nat → Int → Int → Int × Int → Int × Int) : ∀ (l : List Tn) (ys : List Int), (allT f l ys).length = ys.length
  | [], _ => rfl
  | t :: l, ys => by have := allT_len f l (stepL f t.sp ys); rw [stepL_length] at this; exact this
set_option maxRecDepth 100000 in
set_option maxHeartbeats 8000000 in
theorem applies_law (xv tv : Value) (xs : List Int) (ts : List Tn) (w : World) (hx : Ints w xv xs) (ht : Tns w tv ts) (hp : Parts w) :
    Calls Tryd.prog 6 #[xv, tv] w fun e w' => e = .returned (.bool true) ∧ Upd NoB w w' := by
  obtain ⟨xa, xcap, rfl⟩ := hx.form
  obtain ⟨ta, tcap, rfl⟩ := ht.form
  have P0 := Lib.hid hp; have HX := Lib.hid hx; have HT := Lib.hid ht
  have lx := hx.1
  have lt := ht.1
  clear hx ht hp
  by_cases hg : (60 < xs.length ∧ xs.length ≤ 1024) ∨ (60 < ts.length ∧ ts.length ≤ 4096) ∨ 1100 < xs.length ∨ 4200 < ts.length
  · obtain ⟨L, hL⟩ : ∃ L, xs.length = L := ⟨_, rfl⟩
    obtain ⟨K, hK⟩ : ∃ K, ts.length = K := ⟨_, rfl⟩
    rw [hL] at lx HX hg ⊢
    rw [hK] at lt HT hg ⊢
    clear hL hK
    obtain ⟨p1, e1⟩ : ∃ p, decide (60 < (L : Int)) = p := ⟨_, rfl⟩
    obtain ⟨p2, e2⟩ : ∃ p, decide ((L : Int) ≤ 1024) = p := ⟨_, rfl⟩
    obtain ⟨p3, e3⟩ : ∃ p, decide (1100 < (L : Int)) = p := ⟨_, rfl⟩
    obtain ⟨q1, f1⟩ : ∃ p, decide (60 < (K : Int)) = p := ⟨_, rfl⟩
    obtain ⟨q2, f2⟩ : ∃ p, decide ((K : Int) ≤ 4096) = p := ⟨_, rfl⟩
    obtain ⟨q3, f3⟩ : ∃ p, decide (4200 < (K : Int)) = p := ⟨_, rfl⟩
    cases p1 <;> cases p2 <;> cases p3 <;> cases q1 <;> cases q2 <;> cases q3 <;> (try (exfalso; simp only [decide_eq_true_eq, decide_eq_false_iff_not] at e1 e2 e3 f1 f2 f3; omega))
    all_goals
      go_enter Tryd.func6, Tryd.ntmps6
      go_wp2_with fail
      (with_reducible refine (jawake_any _ P0.out).mono ?_)
      rintro e w1 ⟨rfl, u1⟩
      have U1 := Lib.hid u1; clear u1
      go_wp2
      go_ret
      exact ⟨rfl, U1.out⟩
  have sm : ∀ M, stpE M xs ts = 0 → xs.length ≤ 60 ∧ ts.length ≤ 60 := fun M h => by
    obtain ⟨h1, h2, _, _⟩ := stp_ok h
    omega
  have lA : (appV xs ts).length ≤ 60 := by
    unfold appV
    split
    · rename_i h; rw [allT_len]; exact (sm _ h).1
    · simp
  have lB : (undV xs ts).length ≤ 60 := by
    unfold undV
    split
    · rename_i h; rw [allT_len]; exact (sm _ h).1
    · simp
  have SM := Lib.hid sm
  clear sm
  have HA := Lib.hid (apply_any _ _ xs ts w HX.out HT.out P0.out (SM.out _))
  have HA2 := Lib.hid (fun w' (u : Upd NoB w w') => rapply_any _ _ xs ts w' (HX.out.later u) (HT.out.later u) (SM.out _))
  have HB := Lib.hid (fun w' (u : Upd NoB w w') => undo_any _ _ xs ts w' (HX.out.later u) (HT.out.later u) (P0.out.upd u (noB 0)) (SM.out _))
  have HB2 := Lib.hid (fun w' (u : Upd NoB w w') => rundo_any _ _ xs ts w' (HX.out.later u) (HT.out.later u) (SM.out _))
  obtain ⟨A, hA⟩ : ∃ A, appV xs ts = A := ⟨_, rfl⟩
  obtain ⟨B, hB⟩ : ∃ B, undV xs ts = B := ⟨_, rfl⟩
  obtain ⟨E, hE⟩ : ∃ E, stpE 1048576 xs ts = E := ⟨_, rfl⟩
  obtain ⟨F, hF⟩ : ∃ F, stpE 1073741824 xs ts = F := ⟨_, rfl⟩
  rw [hA] at lA HA HA2
  rw [hB] at lB HB HB2
  rw [hE] at HA HA2
  rw [hF] at HB HB2
  obtain ⟨L, hL⟩ : ∃ L, xs.length = L := ⟨_, rfl⟩
  obtain ⟨K, hK⟩ : ∃ K, ts.length = K := ⟨_, rfl⟩
  rw [hL] at hg lx HA HA2 HB HB2 ⊢
  rw [hK] at hg lt HA HA2 HB HB2 ⊢
  clear hA hB hE hF hL hK SM HX HT
  obtain ⟨p1, e1⟩ : ∃ p, decide (60 < (L : Int)) = p := ⟨_, rfl⟩
  obtain ⟨p2, e2⟩ : ∃ p, decide ((L : Int) ≤ 1024) = p := ⟨_, rfl⟩
  obtain ⟨p3, e3⟩ : ∃ p, decide (1100 < (L : Int)) = p := ⟨_, rfl⟩
  obtain ⟨q1, f1⟩ : ∃ p, decide (60 < (K : Int)) = p := ⟨_, rfl⟩
  obtain ⟨q2, f2⟩ : ∃ p, decide ((K : Int) ≤ 4096) = p := ⟨_, rfl⟩
  obtain ⟨q3, f3⟩ : ∃ p, decide (4200 < (K : Int)) = p := ⟨_, rfl⟩
  cases p1 <;> cases p2 <;> cases p3 <;> cases q1 <;> cases q2 <;> cases q3 <;> (try (exfalso; simp only [decide_eq_true_eq, decide_eq_false_iff_not] at e1 e2 e3 f1 f2 f3; omega))
  all_goals
    go_enter Tryd.func6, Tryd.ntmps6
    go_wp2_with fail
    (with_reducible refine HA.out.mono ?_)
    rintro e w1 ⟨av, rfl, r1, u1⟩
    have I1 := Lib.hid (Ints.ofRow r1 (by omega)); have U1 := Lib.hid u1
    clear r1 u1 HA
    go_wp2_with fail
    (with_reducible refine (HA2.out _ U1.out).mono ?_)
    rintro e w2 ⟨bv, rfl, r2, u2⟩
    have I2 := Lib.hid (Ints.ofRow r2 (by omega)); have J1 := Lib.hid (I1.out.later u2); have U2 := Lib.hid (U1.out.then u2)
    clear r2 u2 HA2 I1 U1
    go_wp2_with fail
    (with_reducible refine (HB.out _ U2.out).mono ?_)
    rintro e w3 ⟨cv, rfl, r3, u3⟩
    have I3 := Lib.hid (Ints.ofRow r3 (by omega)); have J2 := Lib.hid (I2.out.later u3); have K1 := Lib.hid (J1.out.later u3); have U3 := Lib.hid (U2.out.then u3)
    clear r3 u3 HB I2 J1 U2
    go_wp2_with fail
    (with_reducible refine (HB2.out _ U3.out).mono ?_)
    rintro e w4 ⟨dv, rfl, r4, u4⟩
    have I4 := Lib.hid (Ints.ofRow r4 (by omega)); have J3 := Lib.hid (I3.out.later u4); have M2 := Lib.hid (J2.out.later u4); have M1 := Lib.hid (K1.out.later u4); have U4 := Lib.hid (U3.out.then u4)
    clear r4 u4 HB2 I3 J2 K1 U3
    have HQ1 := Lib.hid (qints_own _ _ _ w4 M1.out M2.out)
    go_wp2_with fail
    (with_reducible refine HQ1.out.mono ?_)
    rintro e w5 ⟨rfl, u5⟩
    have HQ2 := Lib.hid (qints_own _ _ _ w5 (J3.out.later u5) (I4.out.later u5))
    have U5 := Lib.hid (U4.out.then u5)
    clear u5 HQ1 M1 M2 U4
    go_wp2_with fail
    (with_reducible refine HQ2.out.mono ?_)
    rintro e w6 ⟨rfl, u6⟩
    have U6 := Lib.hid (U5.out.then u6)
    clear u6 HQ2 J3 I4 U5
    go_wp2_with fail
    (with_reducible refine (jawake_any _ (P0.out.upd U6.out (noB 0))).mono ?_)
    rintro e w7 ⟨rfl, u7⟩
    have U7 := Lib.hid (U6.out.then u7)
    clear u7
    go_wp2
    go_ret
    exact ⟨rfl, U7.out⟩
end Go.Proofs.YtpmhioaoniijbaaDoor
