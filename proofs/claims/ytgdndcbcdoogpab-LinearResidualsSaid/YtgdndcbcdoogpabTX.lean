/- linear: the law Residuals -/
import Derived.Test.YtgdndcbcdoogpabTXb
namespace Go.Proofs.Ytgdndcbcdoogpab
open Go.RowKit Go.Shelf

theorem rs_len (x f : List Int) : (rsS x f).length ≤ 1000000 := by
  by_cases h : rsE x f = 0
  · obtain ⟨y, h1, h2, _, h4, h5⟩ := rsE_ok h
    rw [h5]
    have := (res_rst _ _ _ h4).2.2
    omega
  · have e : rsS x f = [] := if_neg h
    rw [e]
    exact Nat.zero_le _
set_option maxRecDepth 100000 in
set_option maxHeartbeats 8000000 in
theorem residuals_law (sv fv : Value) (x f : List Int) (w : World) (h : Ints w sv x) (hf : Ints w fv f) : Calls Try.prog 6 #[sv, fv] w fun e w' => e = .returned (.bool true) ∧ Upd NoB w w' := by
  have PA := Lib.hid (Residual_any sv fv x f w h hf)
  have PB := Lib.hid (fun W (u : Upd NoB w W) => rResidual_any sv fv x f W (h.later u) (hf.later u))
  have PC := Lib.hid (fun W (u : Upd NoB w W) => Restore_any sv fv x f W (h.later u) (hf.later u))
  have PD := Lib.hid (fun W (u : Upd NoB w W) => rRestore_any sv fv x f W (h.later u) (hf.later u))
  have HTl := Lib.hid (rs_len x f)
  have HWl := Lib.hid (re_le x f)
  obtain ⟨a, cap, rfl⟩ := h.form
  obtain ⟨fa, fcap, rfl⟩ := hf.form
  obtain ⟨L, hL⟩ : ∃ L, x.length = L := ⟨_, rfl⟩
  obtain ⟨M, hM⟩ : ∃ M, f.length = M := ⟨_, rfl⟩
  rw [hL, hM] at PA PB PC PD ⊢
  by_cases h1 : 9000 < L
  · have t1 : decide ((9000 : Int) < (L : Int)) = true := decide_eq_true (by omega)
    have t1n : decide (9000 < L) = true := decide_eq_true h1
    clear h hf h1 PA PB PC PD hL hM
    go_enter Try.func6, Try.ntmps6
    go_wp2_with fail
    refine (awake_lin _).mono ?_
    rintro e z9 ⟨rfl, u9⟩
    have U9 := Lib.hid ((Upd.refl NoB w).then u9)
    clear u9
    go_wp2_with fail
    go_ret
    exact ⟨rfl, U9.out⟩
  have t1 : decide ((9000 : Int) < (L : Int)) = false := decide_eq_false (by omega)
  have t1n : decide (9000 < L) = false := decide_eq_false h1
  by_cases h2 : 100 < M
  · have t2 : decide ((100 : Int) < (M : Int)) = true := decide_eq_true (by omega)
    have t2n : decide (100 < M) = true := decide_eq_true h2
    clear h hf h1 h2 PA PB PC PD hL hM
    go_enter Try.func6, Try.ntmps6
    go_wp2_with fail
    refine (awake_lin _).mono ?_
    rintro e z9 ⟨rfl, u9⟩
    have U9 := Lib.hid ((Upd.refl NoB w).then u9)
    clear u9
    go_wp2_with fail
    go_ret
    exact ⟨rfl, U9.out⟩
  have t2 : decide ((100 : Int) < (M : Int)) = false := decide_eq_false (by omega)
  have t2n : decide (100 < M) = false := decide_eq_false h2
  obtain ⟨A, hA⟩ : ∃ A, reS x f = A := ⟨_, rfl⟩
  obtain ⟨E, hE⟩ : ∃ E, reE 2097152 x f = E := ⟨_, rfl⟩
  obtain ⟨T, hT⟩ : ∃ T, rsS x f = T := ⟨_, rfl⟩
  obtain ⟨F, hF⟩ : ∃ F, rsE x f = F := ⟨_, rfl⟩
  rw [hA, hE] at PA PB
  rw [hT, hF] at PC PD
  rw [hA] at HWl
  rw [hT] at HTl
  have hEE : (E == E) = true := by simp
  have hFF : (F == F) = true := by simp
  clear h hf h1 h2 hL hM hA hE hT hF
  go_enter Try.func6, Try.ntmps6
  go_wp2_with fail
  refine PA.out.mono ?_
  intro e w1 hr
  obtain ⟨a1, c1, rfl, i1, u1⟩ := EInts.open hr HWl.out
  obtain ⟨AL, hAL⟩ : ∃ AL, A.length = AL := ⟨_, rfl⟩
  rw [hAL] at i1 ⊢
  have U1 := Lib.hid u1; have I1 := Lib.hid i1; have HAL := Lib.hid hAL
  clear hr u1 i1 hAL PA
  go_wp2_with fail
  refine (PB.out w1 U1.out).mono ?_
  intro e w2 hr
  obtain ⟨a2, c2, rfl, i2, u2⟩ := EInts.open hr HWl.out
  rw [HAL.out] at i2 ⊢
  have U2 := Lib.hid (U1.out.then u2); have I2 := Lib.hid i2; have J1 := Lib.hid (I1.out.later u2)
  clear hr u2 i2 I1
  go_wp2_with fail
  refine (PC.out w2 U2.out).mono ?_
  intro e w3 hr
  obtain ⟨a3, c3, rfl, i3, u3⟩ := EInts.open hr HTl.out
  obtain ⟨TL, hTL⟩ : ∃ TL, T.length = TL := ⟨_, rfl⟩
  rw [hTL] at i3 ⊢
  have U3 := Lib.hid (U2.out.then u3); have I3 := Lib.hid i3; have K1 := Lib.hid (J1.out.later u3); have K2 := Lib.hid (I2.out.later u3); have HTL := Lib.hid hTL
  clear hr u3 i3 J1 I2 hTL
  go_wp2_with fail
  refine (PD.out w3 U3.out).mono ?_
  intro e w4 hr
  obtain ⟨a4, c4, rfl, i4, u4⟩ := EInts.open hr HTl.out
  rw [HTL.out] at i4 ⊢
  have U4 := Lib.hid (U3.out.then u4); have I4 := Lib.hid i4; have M1 := Lib.hid (K1.out.later u4); have M2 := Lib.hid (K2.out.later u4); have M3 := Lib.hid (I3.out.later u4)
  clear hr u4 i4 K1 K2 I3
  go_wp2_with fail
  refine (qints_any _ _ A A w4 M1.out M2.out).mono ?_
  rw [intsB_self]
  rintro e w5 ⟨rfl, m5, hw5⟩
  have u5 : Upd NoB w4 w5 := by rw [hw5]; exact upd_drewN (Upd.refl _ _) _
  have U5 := Lib.hid (U4.out.then u5); have N3 := Lib.hid (M3.out.later u5); have N4 := Lib.hid (I4.out.later u5)
  clear u5 hw5
  go_wp2_with fail
  refine (qints_any _ _ T T w5 N3.out N4.out).mono ?_
  rw [intsB_self]
  rintro e w6 ⟨rfl, m6, hw6⟩
  have U6 := Lib.hid (show Upd NoB w w6 by rw [hw6]; exact upd_drewN U5.out _)
  clear hw6
  go_wp2_with fail
  refine (awake_lin _).mono ?_
  rintro e z9 ⟨rfl, u9⟩
  have U9 := Lib.hid (U6.out.then u9)
  clear u9
  go_wp2_with fail
  go_ret
  exact ⟨rfl, U9.out⟩
end Go.Proofs.Ytgdndcbcdoogpab
