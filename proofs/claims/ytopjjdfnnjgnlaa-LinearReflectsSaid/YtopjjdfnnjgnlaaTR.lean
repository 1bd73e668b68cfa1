/- linear: the law Undone -/
import Derived.Test.YtopjjdfnnjgnlaaTQ
import Derived.Deep.CutRange
namespace Go.Proofs.Ytopjjdfnnjgnlaa
open Go.RowKit Go.Shelf

theorem re_le (x f : List Int) : (reS x f).length ≤ 1000000 := by
  by_cases h : reE 2097152 x f = 0
  · have e : reS x f = resG (wtL f) s0L x := if_pos h
    rw [e, resG_len]; have := (reE_ok h).2.1; omega
  · have e : reS x f = [] := if_neg h
    rw [e]; decide
theorem rs_le (d f : List Int) : (rsS d f).length ≤ 1000000 := by
  by_cases h : rsE d f = 0
  · obtain ⟨y, _, h2, _, h4, h5⟩ := rsE_ok h
    rw [h5, (res_rst d s0L y h4).2.2]; omega
  · have e : rsS d f = [] := if_neg h
    rw [e]; decide
theorem di_le (x : List Int) (k : Int) : (diS x k).length ≤ 1000000 := by
  by_cases h : diE x k = 0
  · obtain ⟨n, _, _, hl, _, e⟩ := di_ok h
    rw [e, difK_len]; omega
  · have e : diS x k = [] := if_neg h
    rw [e]; decide
theorem ad_le (x : List Int) (k : Int) : (adS x k).length ≤ 1000000 := by
  by_cases h : adE x k = 0
  · obtain ⟨n, y, _, _, hl, _, ha, e⟩ := ad_ok h
    have := (addK_some n ha).2
    rw [e]
    have e2 := difK_len n y
    rw [this] at e2
    omega
  · have e : adS x k = [] := if_neg h
    rw [e]; decide
set_option maxRecDepth 100000 in
set_option maxHeartbeats 8000000 in
theorem undone_law (sv fv : Value) (xs f : List Int) (k : Int) (w : World) (h : Ints w sv xs) (hf : Ints w fv f) : Calls Try.prog 13 #[sv, fv, .int .i64 k] w fun e w' => e = .returned (.bool true) ∧ Upd NoB w w' := by
  have HX := Lib.hid h; have HF := Lib.hid hf
  have P0 := Lib.hid (fun W (u : Upd NoB w W) => Residual_any sv fv xs f W (h.later u) (hf.later u))
  have L0 := Lib.hid (re_le xs f)
  have Q0 := Lib.hid (fun (hE : reE 2097152 xs f = 0) W v (hv : Ints W v (reS xs f)) (u : Upd NoB w W) => (show Calls Try.prog 46 #[v, fv] W (EInts W xs 0) by
      have := Restore_any v fv (reS xs f) f W hv (hf.later u)
      rw [(re_undone hE).1, (re_undone hE).2] at this
      exact this))
  have P1 := Lib.hid (fun W (u : Upd NoB w W) => Restore_any sv fv xs f W (h.later u) (hf.later u))
  have L1 := Lib.hid (rs_le xs f)
  have Q1 := Lib.hid (fun (hE : rsE xs f = 0) W v (hv : Ints W v (rsS xs f)) (u : Upd NoB w W) => (show Calls Try.prog 44 #[v, fv] W (EInts W xs 0) by
      have := Residual_any v fv (rsS xs f) f W hv (hf.later u)
      rw [(rs_undone hE).1, (rs_undone hE).2] at this
      exact this))
  have P2 := Lib.hid (fun W (u : Upd NoB w W) => Differ_any sv xs k W (h.later u))
  have L2 := Lib.hid (di_le xs k)
  have Q2 := Lib.hid (fun (hE : diE xs k = 0) W v (hv : Ints W v (diS xs k)) => (show Calls Try.prog 36 #[v, .int .i64 k] W (EInts W xs 0) by
      have := Add_any v (diS xs k) k W hv
      rw [(di_undone hE).1, (di_undone hE).2] at this
      exact this))
  have P3 := Lib.hid (fun W (u : Upd NoB w W) => Add_any sv xs k W (h.later u))
  have L3 := Lib.hid (ad_le xs k)
  have Q3 := Lib.hid (fun (hE : adE xs k = 0) W v (hv : Ints W v (adS xs k)) => (show Calls Try.prog 34 #[v, .int .i64 k] W (EInts W xs 0) by
      have := Differ_any v (adS xs k) k W hv
      rw [(ad_undone hE).1, (ad_undone hE).2] at this
      exact this))
  have hxl := h.1
  have hfl := hf.1
  obtain ⟨a, cap, rfl⟩ := h.form
  obtain ⟨fa, fcap, rfl⟩ := hf.form
  obtain ⟨A0, hA0⟩ : ∃ A, reS xs f = A := ⟨_, rfl⟩
  obtain ⟨E0, hE0⟩ : ∃ E, reE 2097152 xs f = E := ⟨_, rfl⟩
  rw [hA0, hE0] at P0 Q0
  rw [hA0] at L0
  obtain ⟨A1, hA1⟩ : ∃ A, rsS xs f = A := ⟨_, rfl⟩
  obtain ⟨E1, hE1⟩ : ∃ E, rsE xs f = E := ⟨_, rfl⟩
  rw [hA1, hE1] at P1 Q1
  rw [hA1] at L1
  obtain ⟨A2, hA2⟩ : ∃ A, diS xs k = A := ⟨_, rfl⟩
  obtain ⟨E2, hE2⟩ : ∃ E, diE xs k = E := ⟨_, rfl⟩
  rw [hA2, hE2] at P2 Q2
  rw [hA2] at L2
  obtain ⟨A3, hA3⟩ : ∃ A, adS xs k = A := ⟨_, rfl⟩
  obtain ⟨E3, hE3⟩ : ∃ E, adE xs k = E := ⟨_, rfl⟩
  rw [hA3, hE3] at P3 Q3
  rw [hA3] at L3
  obtain ⟨L, hL⟩ : ∃ L, xs.length = L := ⟨_, rfl⟩
  obtain ⟨M, hM⟩ : ∃ M, f.length = M := ⟨_, rfl⟩
  have HL := Lib.hid hL
  rw [hL] at HX P0 P1 P2 P3 hxl ⊢
  rw [hM] at HF P0 P1 Q0 Q1 hfl ⊢
  clear h hf hL hM hA0 hE0 hA1 hE1 hA2 hE2 hA3 hE3
  by_cases h1 : 9000 < L
  · have t1 : decide ((9000 : Int) < (L : Int)) = true := decide_eq_true (by omega)
    have t1n : decide (9000 < L) = true := decide_eq_true h1
    clear h1 P0 P1 P2 P3 Q0 Q1 Q2 Q3
    go_enter Try.func13, Try.ntmps13
    go_wp2_with fail
    refine (awake_lin _).mono ?_
    rintro e w2 ⟨rfl, u2⟩
    have U2 := Lib.hid u2
    clear u2
    go_wp2_with fail
    go_ret
    exact ⟨rfl, U2.out⟩
  have t1 : decide ((9000 : Int) < (L : Int)) = false := decide_eq_false (by omega)
  have t1n : decide (9000 < L) = false := decide_eq_false h1
  by_cases h2 : 100 < M
  · have t2 : decide ((100 : Int) < (M : Int)) = true := decide_eq_true (by omega)
    have t2n : decide (100 < M) = true := decide_eq_true h2
    clear h1 h2 P0 P1 P2 P3 Q0 Q1 Q2 Q3
    go_enter Try.func13, Try.ntmps13
    go_wp2_with fail
    refine (awake_lin _).mono ?_
    rintro e w2 ⟨rfl, u2⟩
    have U2 := Lib.hid u2
    clear u2
    go_wp2_with fail
    go_ret
    exact ⟨rfl, U2.out⟩
  have t2 : decide ((100 : Int) < (M : Int)) = false := decide_eq_false (by omega)
  have t2n : decide (100 < M) = false := decide_eq_false h2
  have HL9 := Lib.hid (show L ≤ 1000000 by omega)
  clear h1 h2
  go_enter Try.func13, Try.ntmps13
  go_wp2_with fail
  refine (P0.out w (Upd.refl NoB w)).mono ?_
  intro e v0 hr
  obtain ⟨a0, c0, rfl, i0, u0⟩ := EInts.open hr L0.out
  have I0 := Lib.hid i0; have U0 := Lib.hid (show Upd NoB w v0 from Upd.then (Upd.refl NoB w) u0)
  clear hr i0 u0 P0
  generalize A0.length = N0 at *
  go_upto_if 39 with fail
  go_cut [] from 7 to 120 (fun wx => Upd NoB w wx)
  case first =>
    by_cases he : E0 = 0
    · subst he
      have HQ := Lib.hid (Q0.out rfl v0 _ I0.out U0.out)
      go_wp2_with fail
      refine HQ.out.mono ?_
      intro e z1 hr
      obtain ⟨b1, d1, rfl, j1, x1⟩ := EInts.open hr (by rw [HL.out]; exact HL9.out)
      rw [HL.out] at j1 ⊢
      have J1 := Lib.hid j1; have X1 := Lib.hid (U0.out.then x1)
      clear hr j1 x1
      go_wp2_with fail
      refine (qints_any _ _ xs xs z1 (HX.out.later X1.out) J1.out).mono ?_
      rw [intsB_self]
      rintro e z2 ⟨rfl, m2, hz2⟩
      have X2 := Lib.hid (show Upd NoB w z2 by rw [hz2]; exact upd_drewN X1.out _)
      clear hz2
      go_wp2_with fail
      go_meet
      case rel => exact X2.out
    · have t9 : (E0 == 0) = false := beq_eq_false_iff_ne.2 he
      clear he
      go_wp2_with fail
      go_meet
      case rel => exact U0.out
  case rest =>
    have C0 := Lib.hid hcut
    clear hcut I0 U0 Q0
    obtain ⟨y0, rfl⟩ : ∃ y : World, y = wc := ⟨_, rfl⟩
    go_wp2_with fail
    refine (P1.out y0 C0.out).mono ?_
    intro e v1 hr
    obtain ⟨a1, c1, rfl, i1, u1⟩ := EInts.open hr L1.out
    have I1 := Lib.hid i1; have U1 := Lib.hid (show Upd NoB w v1 from Upd.then C0.out u1)
    clear hr i1 u1 P1
    generalize A1.length = N1 at *
    go_upto_if 61 with fail
    go_cut [] from 7 to 120 (fun wx => Upd NoB w wx)
    case first =>
      by_cases he : E1 = 0
      · subst he
        have HQ := Lib.hid (Q1.out rfl v1 _ I1.out U1.out)
        go_wp2_with fail
        refine HQ.out.mono ?_
        intro e z1 hr
        obtain ⟨b1, d1, rfl, j1, x1⟩ := EInts.open hr (by rw [HL.out]; exact HL9.out)
        rw [HL.out] at j1 ⊢
        have J1 := Lib.hid j1; have X1 := Lib.hid (U1.out.then x1)
        clear hr j1 x1
        go_wp2_with fail
        refine (qints_any _ _ xs xs z1 (HX.out.later X1.out) J1.out).mono ?_
        rw [intsB_self]
        rintro e z2 ⟨rfl, m2, hz2⟩
        have X2 := Lib.hid (show Upd NoB w z2 by rw [hz2]; exact upd_drewN X1.out _)
        clear hz2
        go_wp2_with fail
        go_meet
        case rel => exact X2.out
      · have t9 : (E1 == 0) = false := beq_eq_false_iff_ne.2 he
        clear he
        go_wp2_with fail
        go_meet
        case rel => exact U1.out
    case rest =>
      have C1 := Lib.hid hcut
      clear hcut I1 U1 Q1
      obtain ⟨y1, rfl⟩ : ∃ y : World, y = wc := ⟨_, rfl⟩
      go_wp2_with fail
      refine (P2.out y1 C1.out).mono ?_
      intro e v2 hr
      obtain ⟨a2, c2, rfl, i2, u2⟩ := EInts.open hr L2.out
      have I2 := Lib.hid i2; have U2 := Lib.hid (show Upd NoB w v2 from Upd.then C1.out u2)
      clear hr i2 u2 P2
      generalize A2.length = N2 at *
      go_upto_if 83 with fail
      go_cut [] from 7 to 120 (fun wx => Upd NoB w wx)
      case first =>
        by_cases he : E2 = 0
        · subst he
          have HQ := Lib.hid (Q2.out rfl v2 _ I2.out)
          go_wp2_with fail
          refine HQ.out.mono ?_
          intro e z1 hr
          obtain ⟨b1, d1, rfl, j1, x1⟩ := EInts.open hr (by rw [HL.out]; exact HL9.out)
          rw [HL.out] at j1 ⊢
          have J1 := Lib.hid j1; have X1 := Lib.hid (U2.out.then x1)
          clear hr j1 x1
          go_wp2_with fail
          refine (qints_any _ _ xs xs z1 (HX.out.later X1.out) J1.out).mono ?_
          rw [intsB_self]
          rintro e z2 ⟨rfl, m2, hz2⟩
          have X2 := Lib.hid (show Upd NoB w z2 by rw [hz2]; exact upd_drewN X1.out _)
          clear hz2
          go_wp2_with fail
          go_meet
          case rel => exact X2.out
        · have t9 : (E2 == 0) = false := beq_eq_false_iff_ne.2 he
          clear he
          go_wp2_with fail
          go_meet
          case rel => exact U2.out
      case rest =>
        have C2 := Lib.hid hcut
        clear hcut I2 U2 Q2
        obtain ⟨y2, rfl⟩ : ∃ y : World, y = wc := ⟨_, rfl⟩
        go_wp2_with fail
        refine (P3.out y2 C2.out).mono ?_
        intro e v3 hr
        obtain ⟨a3, c3, rfl, i3, u3⟩ := EInts.open hr L3.out
        have I3 := Lib.hid i3; have U3 := Lib.hid (show Upd NoB w v3 from Upd.then C2.out u3)
        clear hr i3 u3 P3
        generalize A3.length = N3 at *
        go_upto_if 105 with fail
        go_cut [] from 7 to 120 (fun wx => Upd NoB w wx)
        case first =>
          by_cases he : E3 = 0
          · subst he
            have HQ := Lib.hid (Q3.out rfl v3 _ I3.out)
            go_wp2_with fail
            refine HQ.out.mono ?_
            intro e z1 hr
            obtain ⟨b1, d1, rfl, j1, x1⟩ := EInts.open hr (by rw [HL.out]; exact HL9.out)
            rw [HL.out] at j1 ⊢
            have J1 := Lib.hid j1; have X1 := Lib.hid (U3.out.then x1)
            clear hr j1 x1
            go_wp2_with fail
            refine (qints_any _ _ xs xs z1 (HX.out.later X1.out) J1.out).mono ?_
            rw [intsB_self]
            rintro e z2 ⟨rfl, m2, hz2⟩
            have X2 := Lib.hid (show Upd NoB w z2 by rw [hz2]; exact upd_drewN X1.out _)
            clear hz2
            go_wp2_with fail
            go_meet
            case rel => exact X2.out
          · have t9 : (E3 == 0) = false := beq_eq_false_iff_ne.2 he
            clear he
            go_wp2_with fail
            go_meet
            case rel => exact U3.out
        case rest =>
          have C3 := Lib.hid hcut
          clear hcut I3 U3 Q3
          obtain ⟨y3, rfl⟩ : ∃ y : World, y = wc := ⟨_, rfl⟩
          go_wp2_with fail
          refine (awake_lin _).mono ?_
          rintro e w2 ⟨rfl, u2⟩
          have U9 := Lib.hid (C3.out.then u2)
          clear u2
          go_wp2_with fail
          go_ret
          exact ⟨rfl, U9.out⟩
end Go.Proofs.Ytopjjdfnnjgnlaa
