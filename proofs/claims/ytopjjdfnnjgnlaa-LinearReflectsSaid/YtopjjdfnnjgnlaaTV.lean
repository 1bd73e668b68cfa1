/- linear: the law Reflects -/
import Derived.Test.YtopjjdfnnjgnlaaTVb
namespace Go.Proofs.Ytopjjdfnnjgnlaa
open Go.RowKit Go.Shelf

theorem rf_le (x : List Int) (k : Int) : (rfS x k).length ≤ 1000000 := by
  by_cases h : rfE x k = 0
  · have e : rfS x k = flG k.toNat ((likL x k.toNat).drop 1) ((likL x k.toNat).take k.toNat) := if_pos h
    rw [e, flG_len]
    by_cases hk : k < 0 ∨ 12 < k
    · have : rfE x k = 1 := if_pos hk
      omega
    · omega
  · have e : rfS x k = [] := if_neg h
    rw [e]; decide
set_option maxRecDepth 100000 in
set_option maxHeartbeats 8000000 in
theorem reflects_law (sv : Value) (x : List Int) (k : Int) (w : World) (h : Ints w sv x) : Calls Try.prog 10 #[sv, .int .i64 k] w fun e w' => e = .returned (.bool true) ∧ Upd NoB w w' := by
  have PA := Lib.hid (Reflect_any sv x k w h)
  have PB := Lib.hid (fun W (u : Upd NoB w W) => rReflect_any sv x k W (h.later u))
  have HWl := Lib.hid (rf_le x k)
  obtain ⟨a, cap, rfl⟩ := h.form
  obtain ⟨L, hL⟩ : ∃ L, x.length = L := ⟨_, rfl⟩
  rw [hL] at PA PB ⊢
  by_cases h1 : 9000 < L
  · have t1 : decide ((9000 : Int) < (L : Int)) = true := decide_eq_true (by omega)
    have t1n : decide (9000 < L) = true := decide_eq_true h1
    clear h h1 PA PB hL
    go_enter Try.func10, Try.ntmps10
    go_wp2_with fail
    refine (awake_lin _).mono ?_
    rintro e z9 ⟨rfl, u9⟩
    have U9 := Lib.hid ((Upd.refl NoB w).then u9)
    clear u9
    go_wp2_with fail
    go_ret
    exact ⟨rfl, U9.out⟩
  have t1 : decide ((9000 : Int) < (L : Int)) = false := decide_eq_false (by omega)
  have t1n : decide (9000 < L) = false := decide_eq_false h1
  obtain ⟨A, hA⟩ : ∃ A, rfS x k = A := ⟨_, rfl⟩
  obtain ⟨E, hE⟩ : ∃ E, rfE x k = E := ⟨_, rfl⟩
  rw [hA, hE] at PA PB
  rw [hA] at HWl
  have hEE : (E == E) = true := by simp
  clear h h1 hL hA hE
  go_enter Try.func10, Try.ntmps10
  go_wp2_with fail
  refine PA.out.mono ?_
  intro e w1 hr
  obtain ⟨a1, c1, rfl, i1, u1⟩ := EInts.open hr HWl.out
  obtain ⟨AL, hAL⟩ : ∃ AL, A.length = AL := ⟨_, rfl⟩
  rw [hAL] at i1 ⊢
  have U1 := Lib.hid u1; have I1 := Lib.hid i1; have HAL := Lib.hid hAL
  clear hr u1 i1 hAL PA
  go_wp2_with fail
  refine (PB.out w1 U1.out).mono ?_
  intro e w2 hr
  obtain ⟨a2, c2, rfl, i2, u2⟩ := EInts.open hr HWl.out
  rw [HAL.out] at i2 ⊢
  have U2 := Lib.hid (U1.out.then u2); have I2 := Lib.hid i2; have J1 := Lib.hid (I1.out.later u2)
  clear hr u2 i2 I1
  go_wp2_with fail
  refine (qints_any _ _ A A w2 J1.out I2.out).mono ?_
  rw [intsB_self]
  rintro e w5 ⟨rfl, m5, hw5⟩
  have u5 : Upd NoB w2 w5 := by rw [hw5]; exact upd_drewN (Upd.refl _ _) _
  have U5 := Lib.hid (U2.out.then u5)
  clear u5 hw5
  go_wp2_with fail
  refine (awake_lin _).mono ?_
  rintro e z9 ⟨rfl, u9⟩
  have U9 := Lib.hid (U5.out.then u9)
  clear u9
  go_wp2_with fail
  go_ret
  exact ⟨rfl, U9.out⟩
end Go.Proofs.Ytopjjdfnnjgnlaa
