/- linear: the law Differs -/
import Derived.Test.YtopjjdfnnjgnlaaTUg
namespace Go.Proofs.Ytopjjdfnnjgnlaa
open Go.RowKit Go.Shelf

set_option maxRecDepth 100000 in
set_option maxHeartbeats 4000000 in
theorem rAdd_any (sv : Value) (x : List Int) (k : Int) (w : World) (h : Ints w sv x) : Calls Try.prog 37 #[sv, .int .i64 k] w (EInts w (adS x k) (adE x k)) := by
  by_cases hk : k < 0 ∨ 4 < k
  · have hE : adE x k = 1 := if_pos hk
    have hS : adS x k = [] := if_neg (by rw [hE]; decide)
    rw [hE, hS]
    obtain ⟨a, cap, rfl⟩ := h.form
    generalize x.length = L at *
    clear hE hS
    by_cases h1 : k < 0
    · have t1 : decide (k < 0) = true := decide_eq_true h1
      clear h hk h1
      go_enter Try.func37, Try.ntmps37
      go_wp2_with fail
      go_ret2
      exact ⟨none, 0, 0, rfl, World.ownsRow_nil _ _ _ _, Upd.refl _ _⟩
    · have t1 : decide (k < 0) = false := decide_eq_false h1
      have t2 : decide (4 < k) = true := decide_eq_true (by omega)
      clear h hk h1
      go_enter Try.func37, Try.ntmps37
      go_wp2_with fail
      go_ret2
      exact ⟨none, 0, 0, rfl, World.ownsRow_nil _ _ _ _, Upd.refl _ _⟩
  · obtain ⟨n, rfl⟩ : ∃ n : Nat, k = (n : Int) := ⟨k.toNat, by omega⟩
    have : n = 0 ∨ n = 1 ∨ n = 2 ∨ n = 3 ∨ n = 4 := by omega
    rcases this with rfl | rfl | rfl | rfl | rfl
    · exact rAdd0_any sv x w h
    · exact rAdd1_any sv x w h
    · exact rAdd2_any sv x w h
    · exact rAdd3_any sv x w h
    · exact rAdd4_any sv x w h
set_option maxRecDepth 100000 in
set_option maxHeartbeats 8000000 in
theorem differs_law (sv : Value) (x : List Int) (k : Int) (w : World) (h : Ints w sv x) : Calls Try.prog 9 #[sv, .int .i64 k] w fun e w' => e = .returned (.bool true) ∧ Upd NoB w w' := by
  have PA := Lib.hid (Differ_any sv x k w h)
  have PB := Lib.hid (fun W (u : Upd NoB w W) => rDiffer_any sv x k W (h.later u))
  have PC := Lib.hid (fun W (u : Upd NoB w W) => Add_any sv x k W (h.later u))
  have PD := Lib.hid (fun W (u : Upd NoB w W) => rAdd_any sv x k W (h.later u))
  have HTl := Lib.hid (ad_le x k)
  have HWl := Lib.hid (di_le x k)
  obtain ⟨a, cap, rfl⟩ := h.form
  obtain ⟨L, hL⟩ : ∃ L, x.length = L := ⟨_, rfl⟩
  rw [hL] at PA PB PC PD ⊢
  by_cases h1 : 9000 < L
  · have t1 : decide ((9000 : Int) < (L : Int)) = true := decide_eq_true (by omega)
    have t1n : decide (9000 < L) = true := decide_eq_true h1
    clear h h1 PA PB PC PD hL
    go_enter Try.func9, Try.ntmps9
    go_wp2_with fail
    refine (awake_lin _).mono ?_
    rintro e z9 ⟨rfl, u9⟩
    have U9 := Lib.hid ((Upd.refl NoB w).then u9)
    clear u9
    go_wp2_with fail
    go_ret
    exact ⟨rfl, U9.out⟩
  have t1 : decide ((9000 : Int) < (L : Int)) = false := decide_eq_false (by omega)
  have t1n : decide (9000 < L) = false := decide_eq_false h1
  obtain ⟨A, hA⟩ : ∃ A, diS x k = A := ⟨_, rfl⟩
  obtain ⟨E, hE⟩ : ∃ E, diE x k = E := ⟨_, rfl⟩
  obtain ⟨T, hT⟩ : ∃ T, adS x k = T := ⟨_, rfl⟩
  obtain ⟨F, hF⟩ : ∃ F, adE x k = F := ⟨_, rfl⟩
  rw [hA, hE] at PA PB
  rw [hT, hF] at PC PD
  rw [hA] at HWl
  rw [hT] at HTl
  have hEE : (E == E) = true := by simp
  have hFF : (F == F) = true := by simp
  clear h h1 hL hA hE hT hF
  go_enter Try.func9, Try.ntmps9
  go_wp2_with fail
  refine PA.out.mono ?_
  intro e w1 hr
  obtain ⟨a1, c1, rfl, i1, u1⟩ := EInts.open hr HWl.out
  obtain ⟨AL, hAL⟩ : ∃ AL, A.length = AL := ⟨_, rfl⟩
  rw [hAL] at i1 ⊢
  have U1 := Lib.hid u1; have I1 := Lib.hid i1; have HAL := Lib.hid hAL
  clear hr u1 i1 hAL PA
  go_wp2_with fail
  refine (PB.out w1 U1.out).mono ?_
  intro e w2 hr
  obtain ⟨a2, c2, rfl, i2, u2⟩ := EInts.open hr HWl.out
  rw [HAL.out] at i2 ⊢
  have U2 := Lib.hid (U1.out.then u2); have I2 := Lib.hid i2; have J1 := Lib.hid (I1.out.later u2)
  clear hr u2 i2 I1
  go_wp2_with fail
  refine (PC.out w2 U2.out).mono ?_
  intro e w3 hr
  obtain ⟨a3, c3, rfl, i3, u3⟩ := EInts.open hr HTl.out
  obtain ⟨TL, hTL⟩ : ∃ TL, T.length = TL := ⟨_, rfl⟩
  rw [hTL] at i3 ⊢
  have U3 := Lib.hid (U2.out.then u3); have I3 := Lib.hid i3; have K1 := Lib.hid (J1.out.later u3); have K2 := Lib.hid (I2.out.later u3); have HTL := Lib.hid hTL
  clear hr u3 i3 J1 I2 hTL
  go_wp2_with fail
  refine (PD.out w3 U3.out).mono ?_
  intro e w4 hr
  obtain ⟨a4, c4, rfl, i4, u4⟩ := EInts.open hr HTl.out
  rw [HTL.out] at i4 ⊢
  have U4 := Lib.hid (U3.out.then u4); have I4 := Lib.hid i4; have M1 := Lib.hid (K1.out.later u4); have M2 := Lib.hid (K2.out.later u4); have M3 := Lib.hid (I3.out.later u4)
  clear hr u4 i4 K1 K2 I3
  go_wp2_with fail
  refine (qints_any _ _ A A w4 M1.out M2.out).mono ?_
  rw [intsB_self]
  rintro e w5 ⟨rfl, m5, hw5⟩
  have u5 : Upd NoB w4 w5 := by rw [hw5]; exact upd_drewN (Upd.refl _ _) _
  have U5 := Lib.hid (U4.out.then u5); have N3 := Lib.hid (M3.out.later u5); have N4 := Lib.hid (I4.out.later u5)
  clear u5 hw5
  go_wp2_with fail
  refine (qints_any _ _ T T w5 N3.out N4.out).mono ?_
  rw [intsB_self]
  rintro e w6 ⟨rfl, m6, hw6⟩
  have U6 := Lib.hid (show Upd NoB w w6 by rw [hw6]; exact upd_drewN U5.out _)
  clear hw6
  go_wp2_with fail
  refine (awake_lin _).mono ?_
  rintro e z9 ⟨rfl, u9⟩
  have U9 := Lib.hid (U6.out.then u9)
  clear u9
  go_wp2_with fail
  go_ret
  exact ⟨rfl, U9.out⟩
end Go.Proofs.Ytopjjdfnnjgnlaa
