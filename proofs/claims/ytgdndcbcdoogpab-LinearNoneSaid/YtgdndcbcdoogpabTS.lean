/- linear: the law None -/
import Derived.Test.YtgdndcbcdoogpabTSm
namespace Go.Proofs.Ytgdndcbcdoogpab
open Go.RowKit Go.Shelf

theorem none_n {n : Int} (hn : 0 ≤ n ∧ n ≤ 255) : ∃ m : Nat, m ≤ 12 ∧ wrap64 n = n ∧ IntKind.i64.wrap n = n ∧ n.tmod 13 = (m : Int) ∧ wrap64 (m : Int) = (m : Int) ∧ IntKind.i64.wrap (m : Int) = (m : Int) := by
  have e : n.tmod 13 = n % 13 := Int.tmod_eq_emod_of_nonneg hn.1
  have h2 : ((n % 13).toNat : Int) = n % 13 := Int.toNat_of_nonneg (by omega)
  have h3 : n % 13 ≤ 12 := by omega
  have h4 : 0 ≤ n % 13 := by omega
  obtain ⟨r, hr⟩ : ∃ r, n % 13 = r := ⟨_, rfl⟩
  rw [hr] at h2 h3 h4 e
  refine ⟨r.toNat, by omega, IntWalk.wrap64_in _ ?_, IntWalk.i64_in _ ?_, by rw [h2]; exact e, IntWalk.wrap64_in _ ?_, IntWalk.i64_in _ ?_⟩
  all_goals clear e hr; omega
set_option maxRecDepth 100000 in
set_option maxHeartbeats 8000000 in
theorem none_law (sv fv : Value) (xs f : List Int) (n : Int) (w : World) (h : Ints w sv xs) (hf : Ints w fv f) (hn : 0 ≤ n ∧ n ≤ 255) : Calls Try.prog 8 #[sv, fv, .int .u8 n] w fun e w' => e = .returned (.bool true) ∧ Upd NoB w w' := by
  have HX := Lib.hid h; have HF := Lib.hid hf
  obtain ⟨i0, hi, hz0, hz1, hz2⟩ := info_parts Try.infoInt
  have P0 := Lib.hid (by
    have := Residual_any sv _ xs [] w h (Ints.nil w)
    rw [(re_zeros (x := xs) (z := []) (fun _ h => by cases h) (by decide)).1, (re_zeros (x := xs) (z := []) (fun _ h => by cases h) (by decide)).2] at this
    exact this)
  have P1 := Lib.hid (fun W m v (hm : m ≤ 12) (hv : Ints W v (List.replicate m 0)) (u : Upd NoB w W) => (show Calls Try.prog 28 #[sv, v] W (EInts W (if ckE 2097152 xs = 0 then xs else []) (ckE 2097152 xs)) by
    have := Residual_any sv v xs (List.replicate m 0) W (h.later u) hv
    have hz : ∀ y ∈ List.replicate m (0 : Int), y = 0 := fun y hy => (List.mem_replicate.1 hy).2
    rw [(re_zeros (x := xs) hz (by rw [List.length_replicate]; exact hm)).1, (re_zeros (x := xs) hz (by rw [List.length_replicate]; exact hm)).2] at this
    exact this))
  have P2 := Lib.hid (fun W (u : Upd NoB w W) => Trim_any fv f W (hf.later u))
  have P3 := Lib.hid (fun W v t (hv : Ints W v t) (u : Upd NoB w W) => Residual_any sv v xs t W (h.later u) hv)
  have P4 := Lib.hid (fun W (u : Upd NoB w W) => Residual_any sv fv xs f W (h.later u) (hf.later u))
  have HTr := Lib.hid (fun (hF : isF f = true) => re_trim (x := xs) hF)
  have HRl := Lib.hid (re_le xs f)
  have HTe := Lib.hid (show tmE f = if isF f = true then 0 else 1 from rfl)
  have HTs := Lib.hid (show tmS f = if isF f = true then f.take (tmN f f.length) else [] from rfl)
  have HNl := Lib.hid (tmN_le f f.length)
  have HLast := Lib.hid (fun k => tmN_last f f.length k)
  have hxl := h.1
  have hfl := hf.1
  obtain ⟨a, cap, rfl⟩ := h.form
  obtain ⟨fa, fcap, rfl⟩ := hf.form
  have hfcap : f.length ≤ fcap := by
    obtain ⟨_, a', c', e, ⟨hcc, _⟩, _⟩ := hf
    injection e with _ _ e3
    omega
  obtain ⟨L, hL⟩ : ∃ L, xs.length = L := ⟨_, rfl⟩
  obtain ⟨M, hM⟩ : ∃ M, f.length = M := ⟨_, rfl⟩
  have HL := Lib.hid hL; have HM := Lib.hid hM
  rw [hL] at HX P0 P1 P3 P4 hxl ⊢
  rw [hM] at HF P2 P4 HTr HTs HNl HLast hfl hfcap ⊢
  obtain ⟨m, hNN⟩ := none_n hn
  have HM12 := Lib.hid hNN.1
  have HN := Lib.hid hNN.2
  clear h hf hL hM hNN hn
  by_cases h1 : 9000 < L
  · have t1 : decide ((9000 : Int) < (L : Int)) = true := decide_eq_true (by omega)
    have t1n : decide (9000 < L) = true := decide_eq_true h1
    clear h1 P0 P1 P2 P3 P4
    go_enter Try.func8, Try.ntmps8
    go_wp2_with fail
    refine (awake_lin _).mono ?_
    rintro e z9 ⟨rfl, u9⟩
    have U9 := Lib.hid ((Upd.refl NoB w).then u9)
    clear u9
    go_wp2_with fail
    go_ret
    exact ⟨rfl, U9.out⟩
  have t1 : decide ((9000 : Int) < (L : Int)) = false := decide_eq_false (by omega)
  have t1n : decide (9000 < L) = false := decide_eq_false h1
  by_cases h2 : 100 < M
  · have t2 : decide ((100 : Int) < (M : Int)) = true := decide_eq_true (by omega)
    have t2n : decide (100 < M) = true := decide_eq_true h2
    clear h1 h2 P0 P1 P2 P3 P4
    go_enter Try.func8, Try.ntmps8
    go_wp2_with fail
    refine (awake_lin _).mono ?_
    rintro e z9 ⟨rfl, u9⟩
    have U9 := Lib.hid ((Upd.refl NoB w).then u9)
    clear u9
    go_wp2_with fail
    go_ret
    exact ⟨rfl, U9.out⟩
  have t2 : decide ((100 : Int) < (M : Int)) = false := decide_eq_false (by omega)
  have t2n : decide (100 < M) = false := decide_eq_false h2
  have HL9 := Lib.hid (show L ≤ 1000000 by omega); have HM9 := Lib.hid (show M ≤ 1000000 by omega)
  obtain ⟨C, hC⟩ : ∃ C, ckE 2097152 xs = C := ⟨_, rfl⟩
  rw [hC] at P0 P1
  obtain ⟨E, hE⟩ : ∃ E, reE 2097152 xs f = E := ⟨_, rfl⟩
  obtain ⟨R, hR⟩ : ∃ R, reS xs f = R := ⟨_, rfl⟩
  rw [hE, hR] at P4 HTr
  rw [hR] at HRl
  have hCC : (C != C) = false := by simp
  have hEE : (E == E) = true := by simp
  clear h1 h2 hC hE hR
  by_cases hc : C = 0
  · subst hc
    rw [if_pos rfl] at P0
    have P1' := Lib.hid (fun W m v hm hv u => (by have := P1.out W m v hm hv u; rw [if_pos rfl] at this; exact this : Calls Try.prog 28 #[.slice a L cap, v] W (EInts W xs 0)))
    clear P1
    obtain ⟨n1, n2, n3, n4, n5⟩ := HN.out
    go_enter Try.func8, Try.ntmps8
    go_wp2_with fail
    refine P0.out.mono ?_
    intro e v0 hr
    obtain ⟨a0, c0, rfl, i0', u0⟩ := EInts.open hr (by rw [HL.out]; exact HL9.out)
    rw [HL.out] at i0' ⊢
    have U0 := Lib.hid u0; have I0 := Lib.hid i0'
    clear hr i0' u0
    go_wp2_with (refine wpList_make_full v0 rfl _ _ 22 rfl v0.heap.size 3 i0 (.int .i64 0) 1 Try.underlying22 hi hz0 hz1 .i64 .i64 _ _ m rfl rfl rfl rfl ?c1 ?c2 ?c3 ?_)
    case c1 => clear n1 n2 n3 n4 n5; rw [hz2]; have := HM12.out; omega
    case c2 => clear n1 n2 n3 n4 n5; unfold maxLen; have := HM12.out; omega
    case c3 => exact Nat.le_refl _
    intro v1 hown hgr
    clear n1 n2 n3 n4 n5
    rw [made_zero] at hown
    have u1 : Upd NoB v0 v1 := (Upd.refl _ _).grown hgr (fun k e => by cases e)
    have IZ := Lib.hid (show Ints v1 (.slice (some ⟨v0.heap.size, 0, none⟩) m m) (List.replicate m 0) from row_ints hown (by simp) (by have := HM12.out; omega))
    have U1 := Lib.hid (U0.out.then u1); have I1 := Lib.hid (I0.out.later u1)
    clear hown hgr u1
    go_wp2_with fail
    refine (P1'.out v1 m _ HM12.out IZ.out U1.out).mono ?_
    intro e y1 hr
    obtain ⟨b0, d0, rfl, j0, x0⟩ := EInts.open hr (by rw [HL.out]; exact HL9.out)
    rw [HL.out] at j0 ⊢
    have X0 := Lib.hid (U1.out.then x0); have J0 := Lib.hid j0; have K0 := Lib.hid (I1.out.later x0)
    clear hr j0 x0
    go_wp2_with fail
    refine (qints_any _ _ xs xs y1 K0.out (HX.out.later X0.out)).mono ?_
    rw [intsB_self]
    rintro e y2 ⟨rfl, m2, hy2⟩
    have x2 : Upd NoB y1 y2 := by rw [hy2]; exact upd_drewN (Upd.refl _ _) _
    have X2 := Lib.hid (X0.out.then x2); have J2 := Lib.hid (J0.out.later x2)
    clear x2 hy2
    go_wp2_with fail
    refine (qints_any _ _ xs xs y2 J2.out (HX.out.later X2.out)).mono ?_
    rw [intsB_self]
    rintro e y3 ⟨rfl, m3', hy3⟩
    have X3 := Lib.hid (show Upd NoB w y3 by rw [hy3]; exact upd_drewN X2.out _)
    clear hy3
    go_wp2_with fail
    refine (P2.out _ X3.out).mono ?_
    intro e v2 hr
    cases hF : isF f with
    | false =>
      rw [hF] at HTe HTs
      rw [if_neg (by decide)] at HTe HTs
      rw [HTe.out, HTs.out] at hr
      obtain ⟨a2, c2, rfl, i2, u2⟩ := EInts.open hr (by decide)
      have U2 := Lib.hid (Upd.then X3.out u2)
      clear hr i2 u2 hF
      go_wp2_with fail
      refine (awake_lin _).mono ?_
      rintro e z9 ⟨rfl, u9⟩
      have U9 := Lib.hid (U2.out.then u9)
      clear u9
      go_wp2_with fail
      go_ret
      exact ⟨rfl, U9.out⟩
    | true =>
      rw [hF] at HTe HTs
      rw [if_pos rfl] at HTe HTs
      have HT2 := Lib.hid (HTr.out hF)
      rw [HTe.out, HTs.out] at hr
      obtain ⟨q, hq⟩ : ∃ q, tmN f M = q := ⟨_, rfl⟩
      rw [hq] at hr HT2 HNl HLast
      have HTl := Lib.hid (show (f.take q).length = q by rw [List.length_take, HM.out]; have := HNl.out; omega)
      obtain ⟨a2, c2, rfl, i2, u2⟩ := EInts.open hr (by rw [HTl.out]; have := HNl.out; have := HM9.out; omega)
      rw [HTl.out] at i2 ⊢
      have U2 := Lib.hid (Upd.then X3.out u2); have I2 := Lib.hid i2
      have HPre := Lib.hid (fun W (u : Upd NoB w W) => (show Ints W (.slice fa q fcap) (f.take q) by
        have := Ints.pre (HF.out.later u) q (by rw [HM.out]; exact HNl.out)
        rw [HTl.out] at this
        exact this))
      have hsl := fun V => run_slice_pre V fa M fcap q (by have := HNl.out; omega)
      have s1 : decide ((M : Int) < (q : Int)) = false := decide_eq_false (by have := HNl.out; omega)
      have s2 : decide (M < q) = false := decide_eq_false (by have := HNl.out; omega)
      clear hr i2 u2 hF hq
      rcases q with _ | p
      · go_wp2_with fail
        refine (qints_any _ _ (f.take 0) (f.take 0) v2 I2.out (HPre.out v2 U2.out)).mono ?_
        rw [intsB_self]
        rintro e v3 ⟨rfl, m3, hw3⟩
        have u3 : Upd NoB v2 v3 := by rw [hw3]; exact upd_drewN (Upd.refl _ _) _
        have U3 := Lib.hid (U2.out.then u3); have I3 := Lib.hid (I2.out.later u3)
        clear u3 hw3
        go_wp2_with fail
        have P5 := P3.out v3 _ (f.take 0) I3.out U3.out
        rw [HT2.out.1, HT2.out.2] at P5
        refine P5.mono ?_
        intro e v4 hr
        obtain ⟨a4, c4, rfl, i4, u4⟩ := EInts.open hr HRl.out
        have U4 := Lib.hid (U3.out.then u4); have I4 := Lib.hid i4
        clear hr i4 u4 P5
        obtain ⟨RL, hRL⟩ : ∃ RL, R.length = RL := ⟨_, rfl⟩
        rw [hRL] at I4 ⊢
        go_wp2_with fail
        refine (P4.out v4 U4.out).mono ?_
        intro e v5 hr
        obtain ⟨a5, c5, rfl, i5, u5⟩ := EInts.open hr HRl.out
        rw [hRL] at i5 ⊢
        have U5 := Lib.hid (U4.out.then u5); have I5 := Lib.hid i5; have J5 := Lib.hid (I4.out.later u5)
        clear hr i5 u5
        go_wp2_with fail
        refine (qints_any _ _ R R v5 J5.out I5.out).mono ?_
        rw [intsB_self]
        rintro e v6 ⟨rfl, m6, hw6⟩
        have U6 := Lib.hid (show Upd NoB w v6 by rw [hw6]; exact upd_drewN U5.out _)
        clear hw6
        go_wp2_with fail
        refine (awake_lin _).mono ?_
        rintro e z9 ⟨rfl, u9⟩
        have U9 := Lib.hid (U6.out.then u9)
        clear u9
        go_wp2_with fail
        go_ret
        exact ⟨rfl, U9.out⟩
      · obtain ⟨k, hk⟩ : ∃ k, p + 1 = k := ⟨_, rfl⟩
        have hlast := HLast.out p rfl
        have hq1 : p < M := by have := HNl.out; omega
        obtain ⟨x, hx⟩ : ∃ x, (f.take (p + 1))[p]? = some x := ⟨_, List.getElem?_eq_getElem (by rw [HTl.out]; omega)⟩
        have hx0 : x ≠ 0 := by
          have e := hx
          rw [List.getElem?_take, if_pos (by omega)] at e
          rw [List.getD_eq_getElem?_getD, e] at hlast
          exact hlast
        obtain ⟨xb, xo, hxa, cx⟩ := I2.out.cellAt hx
        rw [hk] at I2 HPre HT2 hsl HTl s1 s2 ⊢
        have g1 : wrap64 ((k : Int) - 1) = (p : Int) := by rw [IntWalk.wrap64_in _ (by omega)]; omega
        have g2 : IntKind.i64.wrap ((k : Int) - 1) = (p : Int) := by rw [IntWalk.i64_in _ (by omega)]; omega
        have g3 : decide ((0 : Int) < (k : Int)) = true := decide_eq_true (by omega)
        have g4 : decide (0 < k) = true := decide_eq_true (by omega)
        have g5 : (p : Int) < (k : Int) := by omega
        have g6 : p < k := by omega
        have g7 : (x == 0) = false := by rw [beq_eq_false_iff_ne]; exact hx0
        have g8 : decide (x = 0) = false := decide_eq_false hx0
        subst hxa
        clear hlast hx hx0 hk hq1
        go_wp2_with fail
        refine (qints_any _ _ (f.take k) (f.take k) v2 I2.out (HPre.out v2 U2.out)).mono ?_
        rw [intsB_self]
        rintro e v3 ⟨rfl, m3, hw3⟩
        have u3 : Upd NoB v2 v3 := by rw [hw3]; exact upd_drewN (Upd.refl _ _) _
        have U3 := Lib.hid (U2.out.then u3); have I3 := Lib.hid (I2.out.later u3)
        clear u3 hw3
        go_wp2_with fail
        have P5 := P3.out v3 _ (f.take k) I3.out U3.out
        rw [HT2.out.1, HT2.out.2] at P5
        refine P5.mono ?_
        intro e v4 hr
        obtain ⟨a4, c4, rfl, i4, u4⟩ := EInts.open hr HRl.out
        have U4 := Lib.hid (U3.out.then u4); have I4 := Lib.hid i4
        clear hr i4 u4 P5
        obtain ⟨RL, hRL⟩ : ∃ RL, R.length = RL := ⟨_, rfl⟩
        rw [hRL] at I4 ⊢
        go_wp2_with fail
        refine (P4.out v4 U4.out).mono ?_
        intro e v5 hr
        obtain ⟨a5, c5, rfl, i5, u5⟩ := EInts.open hr HRl.out
        rw [hRL] at i5 ⊢
        have U5 := Lib.hid (U4.out.then u5); have I5 := Lib.hid i5; have J5 := Lib.hid (I4.out.later u5)
        clear hr i5 u5
        go_wp2_with fail
        refine (qints_any _ _ R R v5 J5.out I5.out).mono ?_
        rw [intsB_self]
        rintro e v6 ⟨rfl, m6, hw6⟩
        have U6 := Lib.hid (show Upd NoB w v6 by rw [hw6]; exact upd_drewN U5.out _)
        clear hw6
        go_wp2_with fail
        refine (awake_lin _).mono ?_
        rintro e z9 ⟨rfl, u9⟩
        have U9 := Lib.hid (U6.out.then u9)
        clear u9
        go_wp2_with fail
        go_ret
        exact ⟨rfl, U9.out⟩
  · have hc0 : (C == 0) = false := beq_eq_false_iff_ne.2 hc
    rw [if_neg hc] at P0
    have P1' := Lib.hid (fun W m v hm hv u => (by have := P1.out W m v hm hv u; rw [if_neg hc] at this; exact this : Calls Try.prog 28 #[.slice a L cap, v] W (EInts W [] C)))
    clear P1 hc
    obtain ⟨n1, n2, n3, n4, n5⟩ := HN.out
    go_enter Try.func8, Try.ntmps8
    go_wp2_with fail
    refine P0.out.mono ?_
    intro e v0 hr
    obtain ⟨a0, c0, rfl, i0', u0⟩ := EInts.open hr (by decide)
    have U0 := Lib.hid u0; have I0 := Lib.hid i0'
    clear hr i0' u0
    go_wp2_with (refine wpList_make_full v0 rfl _ _ 22 rfl v0.heap.size 3 i0 (.int .i64 0) 1 Try.underlying22 hi hz0 hz1 .i64 .i64 _ _ m rfl rfl rfl rfl ?c1 ?c2 ?c3 ?_)
    case c1 => clear n1 n2 n3 n4 n5; rw [hz2]; have := HM12.out; omega
    case c2 => clear n1 n2 n3 n4 n5; unfold maxLen; have := HM12.out; omega
    case c3 => exact Nat.le_refl _
    intro v1 hown hgr
    clear n1 n2 n3 n4 n5
    rw [made_zero] at hown
    have u1 : Upd NoB v0 v1 := (Upd.refl _ _).grown hgr (fun k e => by cases e)
    have IZ := Lib.hid (show Ints v1 (.slice (some ⟨v0.heap.size, 0, none⟩) m m) (List.replicate m 0) from row_ints hown (by simp) (by have := HM12.out; omega))
    have U1 := Lib.hid (U0.out.then u1); have I1 := Lib.hid (I0.out.later u1)
    clear hown hgr u1
    go_wp2_with fail
    refine (P1'.out v1 m _ HM12.out IZ.out U1.out).mono ?_
    intro e y1 hr
    obtain ⟨b0, d0, rfl, j0, x0⟩ := EInts.open hr (by decide)
    have X0 := Lib.hid (U1.out.then x0); have J0 := Lib.hid j0; have K0 := Lib.hid (I1.out.later x0)
    clear hr j0 x0
    go_wp2_with fail
    refine (P2.out _ X0.out).mono ?_
    intro e v2 hr
    cases hF : isF f with
    | false =>
      rw [hF] at HTe HTs
      rw [if_neg (by decide)] at HTe HTs
      rw [HTe.out, HTs.out] at hr
      obtain ⟨a2, c2, rfl, i2, u2⟩ := EInts.open hr (by decide)
      have U2 := Lib.hid (Upd.then X0.out u2)
      clear hr i2 u2 hF
      go_wp2_with fail
      refine (awake_lin _).mono ?_
      rintro e z9 ⟨rfl, u9⟩
      have U9 := Lib.hid (U2.out.then u9)
      clear u9
      go_wp2_with fail
      go_ret
      exact ⟨rfl, U9.out⟩
    | true =>
      rw [hF] at HTe HTs
      rw [if_pos rfl] at HTe HTs
      have HT2 := Lib.hid (HTr.out hF)
      rw [HTe.out, HTs.out] at hr
      obtain ⟨q, hq⟩ : ∃ q, tmN f M = q := ⟨_, rfl⟩
      rw [hq] at hr HT2 HNl HLast
      have HTl := Lib.hid (show (f.take q).length = q by rw [List.length_take, HM.out]; have := HNl.out; omega)
      obtain ⟨a2, c2, rfl, i2, u2⟩ := EInts.open hr (by rw [HTl.out]; have := HNl.out; have := HM9.out; omega)
      rw [HTl.out] at i2 ⊢
      have U2 := Lib.hid (Upd.then X0.out u2); have I2 := Lib.hid i2
      have HPre := Lib.hid (fun W (u : Upd NoB w W) => (show Ints W (.slice fa q fcap) (f.take q) by
        have := Ints.pre (HF.out.later u) q (by rw [HM.out]; exact HNl.out)
        rw [HTl.out] at this
        exact this))
      have hsl := fun V => run_slice_pre V fa M fcap q (by have := HNl.out; omega)
      have s1 : decide ((M : Int) < (q : Int)) = false := decide_eq_false (by have := HNl.out; omega)
      have s2 : decide (M < q) = false := decide_eq_false (by have := HNl.out; omega)
      clear hr i2 u2 hF hq
      rcases q with _ | p
      · go_wp2_with fail
        refine (qints_any _ _ (f.take 0) (f.take 0) v2 I2.out (HPre.out v2 U2.out)).mono ?_
        rw [intsB_self]
        rintro e v3 ⟨rfl, m3, hw3⟩
        have u3 : Upd NoB v2 v3 := by rw [hw3]; exact upd_drewN (Upd.refl _ _) _
        have U3 := Lib.hid (U2.out.then u3); have I3 := Lib.hid (I2.out.later u3)
        clear u3 hw3
        go_wp2_with fail
        have P5 := P3.out v3 _ (f.take 0) I3.out U3.out
        rw [HT2.out.1, HT2.out.2] at P5
        refine P5.mono ?_
        intro e v4 hr
        obtain ⟨a4, c4, rfl, i4, u4⟩ := EInts.open hr HRl.out
        have U4 := Lib.hid (U3.out.then u4); have I4 := Lib.hid i4
        clear hr i4 u4 P5
        obtain ⟨RL, hRL⟩ : ∃ RL, R.length = RL := ⟨_, rfl⟩
        rw [hRL] at I4 ⊢
        go_wp2_with fail
        refine (P4.out v4 U4.out).mono ?_
        intro e v5 hr
        obtain ⟨a5, c5, rfl, i5, u5⟩ := EInts.open hr HRl.out
        rw [hRL] at i5 ⊢
        have U5 := Lib.hid (U4.out.then u5); have I5 := Lib.hid i5; have J5 := Lib.hid (I4.out.later u5)
        clear hr i5 u5
        go_wp2_with fail
        refine (qints_any _ _ R R v5 J5.out I5.out).mono ?_
        rw [intsB_self]
        rintro e v6 ⟨rfl, m6, hw6⟩
        have U6 := Lib.hid (show Upd NoB w v6 by rw [hw6]; exact upd_drewN U5.out _)
        clear hw6
        go_wp2_with fail
        refine (awake_lin _).mono ?_
        rintro e z9 ⟨rfl, u9⟩
        have U9 := Lib.hid (U6.out.then u9)
        clear u9
        go_wp2_with fail
        go_ret
        exact ⟨rfl, U9.out⟩
      · obtain ⟨k, hk⟩ : ∃ k, p + 1 = k := ⟨_, rfl⟩
        have hlast := HLast.out p rfl
        have hq1 : p < M := by have := HNl.out; omega
        obtain ⟨x, hx⟩ : ∃ x, (f.take (p + 1))[p]? = some x := ⟨_, List.getElem?_eq_getElem (by rw [HTl.out]; omega)⟩
        have hx0 : x ≠ 0 := by
          have e := hx
          rw [List.getElem?_take, if_pos (by omega)] at e
          rw [List.getD_eq_getElem?_getD, e] at hlast
          exact hlast
        obtain ⟨xb, xo, hxa, cx⟩ := I2.out.cellAt hx
        rw [hk] at I2 HPre HT2 hsl HTl s1 s2 ⊢
        have g1 : wrap64 ((k : Int) - 1) = (p : Int) := by rw [IntWalk.wrap64_in _ (by omega)]; omega
        have g2 : IntKind.i64.wrap ((k : Int) - 1) = (p : Int) := by rw [IntWalk.i64_in _ (by omega)]; omega
        have g3 : decide ((0 : Int) < (k : Int)) = true := decide_eq_true (by omega)
        have g4 : decide (0 < k) = true := decide_eq_true (by omega)
        have g5 : (p : Int) < (k : Int) := by omega
        have g6 : p < k := by omega
        have g7 : (x == 0) = false := by rw [beq_eq_false_iff_ne]; exact hx0
        have g8 : decide (x = 0) = false := decide_eq_false hx0
        subst hxa
        clear hlast hx hx0 hk hq1
        go_wp2_with fail
        refine (qints_any _ _ (f.take k) (f.take k) v2 I2.out (HPre.out v2 U2.out)).mono ?_
        rw [intsB_self]
        rintro e v3 ⟨rfl, m3, hw3⟩
        have u3 : Upd NoB v2 v3 := by rw [hw3]; exact upd_drewN (Upd.refl _ _) _
        have U3 := Lib.hid (U2.out.then u3); have I3 := Lib.hid (I2.out.later u3)
        clear u3 hw3
        go_wp2_with fail
        have P5 := P3.out v3 _ (f.take k) I3.out U3.out
        rw [HT2.out.1, HT2.out.2] at P5
        refine P5.mono ?_
        intro e v4 hr
        obtain ⟨a4, c4, rfl, i4, u4⟩ := EInts.open hr HRl.out
        have U4 := Lib.hid (U3.out.then u4); have I4 := Lib.hid i4
        clear hr i4 u4 P5
        obtain ⟨RL, hRL⟩ : ∃ RL, R.length = RL := ⟨_, rfl⟩
        rw [hRL] at I4 ⊢
        go_wp2_with fail
        refine (P4.out v4 U4.out).mono ?_
        intro e v5 hr
        obtain ⟨a5, c5, rfl, i5, u5⟩ := EInts.open hr HRl.out
        rw [hRL] at i5 ⊢
        have U5 := Lib.hid (U4.out.then u5); have I5 := Lib.hid i5; have J5 := Lib.hid (I4.out.later u5)
        clear hr i5 u5
        go_wp2_with fail
        refine (qints_any _ _ R R v5 J5.out I5.out).mono ?_
        rw [intsB_self]
        rintro e v6 ⟨rfl, m6, hw6⟩
        have U6 := Lib.hid (show Upd NoB w v6 by rw [hw6]; exact upd_drewN U5.out _)
        clear hw6
        go_wp2_with fail
        refine (awake_lin _).mono ?_
        rintro e z9 ⟨rfl, u9⟩
        have U9 := Lib.hid (U6.out.then u9)
        clear u9
        go_wp2_with fail
        go_ret
        exact ⟨rfl, U9.out⟩
end Go.Proofs.Ytgdndcbcdoogpab
