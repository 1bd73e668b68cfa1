/- linear: the reference's Weights; the law Weights -/
import Derived.Test.YtgdndcbcdoogpabTUc
namespace Go.Proofs.Ytgdndcbcdoogpab
open Go.RowKit Go.Shelf

set_option maxRecDepth 100000 in
set_option maxHeartbeats 2000000 in
theorem rWeights_any (sv : Value) (f : List Int) (w : World) (h : Ints w sv f) : Calls Try.prog 25 #[sv] w (EInts w (weS f) (weE f)) := by
  have HC := Lib.hid (rIs_any sv f w h)
  have HE := Lib.hid (show weE f = if isF f = true then 0 else 1 from rfl)
  have HS := Lib.hid (show weS f = if isF f = true then wtL f else [] from rfl)
  cases hf : isF f with
  | false =>
    rw [hf] at HE HS HC
    rw [if_neg (by decide)] at HE HS
    rw [HE.out, HS.out]
    obtain ⟨a, cap, rfl⟩ := h.form
    generalize f.length = L at *
    clear h hf
    go_enter Try.func25, Try.ntmps25
    go_wp2_with fail
    refine HC.out.mono ?_
    rintro e w1 ⟨rfl, hw1⟩
    subst hw1
    have U1 := Lib.hid (Upd.refl NoB w)
    go_wp2_with fail
    go_ret2
    exact ⟨none, 0, 0, rfl, World.ownsRow_nil _ _ _ _, U1.out⟩
  | true =>
    have HWt := Lib.hid (fun w' (u : Upd NoB w w') => rweights_any sv f w' (h.later u) hf)
    rw [hf] at HE HS HC
    rw [if_pos rfl] at HE HS
    rw [HE.out, HS.out]
    obtain ⟨a, cap, rfl⟩ := h.form
    generalize f.length = L at *
    obtain ⟨N, hN⟩ : ∃ N, (wtL f).length = N := ⟨_, rfl⟩
    have HN := Lib.hid hN
    clear h hf hN
    go_enter Try.func25, Try.ntmps25
    go_wp2_with fail
    refine HC.out.mono ?_
    rintro e w1 ⟨rfl, hw1⟩
    subst hw1
    have U1 := Lib.hid (Upd.refl NoB w)
    go_wp2_with fail
    refine (HWt.out w U1.out).mono ?_
    rintro e w2 ⟨v2, rfl, r2, u2⟩
    rw [HN.out] at r2
    obtain ⟨a2, c2, rfl⟩ := row_form r2
    have R2 := Lib.hid (row_base r2 U1.out.size); have U2 := Lib.hid (U1.out.then u2)
    clear r2 u2
    go_wp2_with fail
    go_ret2
    exact ⟨_, _, _, rfl, by rw [HN.out]; exact R2.out, U2.out⟩
theorem we_len (f : List Int) : (weS f).length ≤ 1000000 := by
  unfold weS
  cases hf : isF f with
  | false => rw [if_neg (by decide)]; exact Nat.zero_le _
  | true => rw [if_pos rfl, wtL_len]; have := (wt_bd hf).2.1; omega
theorem tm_len (f : List Int) (h : f.length ≤ 100) : (tmS f).length ≤ 1000000 := by
  unfold tmS
  split
  · rw [List.length_take]; omega
  · exact Nat.zero_le _
set_option maxRecDepth 100000 in
set_option maxHeartbeats 8000000 in
theorem weights_law (sv : Value) (f : List Int) (w : World) (h : Ints w sv f) : Calls Try.prog 5 #[sv] w fun e w' => e = .returned (.bool true) ∧ Upd NoB w w' := by
  have PA := Lib.hid (Weights_any sv f w h)
  have PB := Lib.hid (fun W (u : Upd NoB w W) => rWeights_any sv f W (h.later u))
  have PC := Lib.hid (fun W (u : Upd NoB w W) => Trim_any sv f W (h.later u))
  have PD := Lib.hid (fun W (u : Upd NoB w W) => rTrim_any sv f W (h.later u))
  have HWl := Lib.hid (we_len f)
  by_cases h1 : 100 < f.length
  · obtain ⟨a, cap, rfl⟩ := h.form
    obtain ⟨L, hL⟩ : ∃ L, f.length = L := ⟨_, rfl⟩
    rw [hL] at h1 ⊢
    have t1 : decide ((100 : Int) < (L : Int)) = true := decide_eq_true (by omega)
    have t1n : decide (100 < L) = true := decide_eq_true h1
    clear h h1 PA PB PC PD hL
    go_enter Try.func5, Try.ntmps5
    go_wp2_with fail
    refine (awake_lin _).mono ?_
    rintro e z9 ⟨rfl, u9⟩
    have U9 := Lib.hid ((Upd.refl NoB w).then u9)
    clear u9
    go_wp2_with fail
    go_ret
    exact ⟨rfl, U9.out⟩
  have HTl := Lib.hid (tm_len f (by omega))
  obtain ⟨a, cap, rfl⟩ := h.form
  obtain ⟨L, hL⟩ : ∃ L, f.length = L := ⟨_, rfl⟩
  rw [hL] at h1 PA PB PC PD ⊢
  have t1 : decide ((100 : Int) < (L : Int)) = false := decide_eq_false (by omega)
  have t1n : decide (100 < L) = false := decide_eq_false h1
  obtain ⟨A, hA⟩ : ∃ A, weS f = A := ⟨_, rfl⟩
  obtain ⟨E, hE⟩ : ∃ E, weE f = E := ⟨_, rfl⟩
  obtain ⟨T, hT⟩ : ∃ T, tmS f = T := ⟨_, rfl⟩
  obtain ⟨F, hF⟩ : ∃ F, tmE f = F := ⟨_, rfl⟩
  rw [hA, hE] at PA PB
  rw [hT, hF] at PC PD
  rw [hA] at HWl
  rw [hT] at HTl
  have hEE : (E == E) = true := by simp
  have hFF : (F == F) = true := by simp
  clear h h1 hL hA hE hT hF
  go_enter Try.func5, Try.ntmps5
  go_wp2_with fail
  refine PA.out.mono ?_
  intro e w1 hr
  obtain ⟨a1, c1, rfl, i1, u1⟩ := EInts.open hr HWl.out
  obtain ⟨AL, hAL⟩ : ∃ AL, A.length = AL := ⟨_, rfl⟩
  rw [hAL] at i1 ⊢
  have U1 := Lib.hid u1; have I1 := Lib.hid i1; have HAL := Lib.hid hAL
  clear hr u1 i1 hAL PA
  go_wp2_with fail
  refine (PB.out w1 U1.out).mono ?_
  intro e w2 hr
  obtain ⟨a2, c2, rfl, i2, u2⟩ := EInts.open hr HWl.out
  rw [HAL.out] at i2 ⊢
  have U2 := Lib.hid (U1.out.then u2); have I2 := Lib.hid i2; have J1 := Lib.hid (I1.out.later u2)
  clear hr u2 i2 I1
  go_wp2_with fail
  refine (PC.out w2 U2.out).mono ?_
  intro e w3 hr
  obtain ⟨a3, c3, rfl, i3, u3⟩ := EInts.open hr HTl.out
  obtain ⟨TL, hTL⟩ : ∃ TL, T.length = TL := ⟨_, rfl⟩
  rw [hTL] at i3 ⊢
  have U3 := Lib.hid (U2.out.then u3); have I3 := Lib.hid i3; have K1 := Lib.hid (J1.out.later u3); have K2 := Lib.hid (I2.out.later u3); have HTL := Lib.hid hTL
  clear hr u3 i3 J1 I2 hTL
  go_wp2_with fail
  refine (PD.out w3 U3.out).mono ?_
  intro e w4 hr
  obtain ⟨a4, c4, rfl, i4, u4⟩ := EInts.open hr HTl.out
  rw [HTL.out] at i4 ⊢
  have U4 := Lib.hid (U3.out.then u4); have I4 := Lib.hid i4; have M1 := Lib.hid (K1.out.later u4); have M2 := Lib.hid (K2.out.later u4); have M3 := Lib.hid (I3.out.later u4)
  clear hr u4 i4 K1 K2 I3
  go_wp2_with fail
  refine (qints_any _ _ A A w4 M1.out M2.out).mono ?_
  rw [intsB_self]
  rintro e w5 ⟨rfl, m5, hw5⟩
  have u5 : Upd NoB w4 w5 := by rw [hw5]; exact upd_drewN (Upd.refl _ _) _
  have U5 := Lib.hid (U4.out.then u5); have N3 := Lib.hid (M3.out.later u5); have N4 := Lib.hid (I4.out.later u5)
  clear u5 hw5
  go_wp2_with fail
  refine (qints_any _ _ T T w5 N3.out N4.out).mono ?_
  rw [intsB_self]
  rintro e w6 ⟨rfl, m6, hw6⟩
  have U6 := Lib.hid (show Upd NoB w w6 by rw [hw6]; exact upd_drewN U5.out _)
  clear hw6
  go_wp2_with fail
  refine (awake_lin _).mono ?_
  rintro e z9 ⟨rfl, u9⟩
  have U9 := Lib.hid (U6.out.then u9)
  clear u9
  go_wp2_with fail
  go_ret
  exact ⟨rfl, U9.out⟩
end Go.Proofs.Ytgdndcbcdoogpab
