/- Sin, Cos and Half of the program are the reference's, for any angle, with the same error. No condition; the variable parts holds what the program's text lays (tied). -/
import Derived.Test.YtpmhioaoniijbaaDoorFrow
import Derived.Test.YtpmhioaoniijbaaDoorFce
namespace Go.Proofs.YtpmhioaoniijbaaDoor
open Go.ChangeShapes Go.WideShapes Go.ChangeAt Go.WideMaps Go.WideElems Go.RowKit

set_option maxRecDepth 100000 in
set_option maxHeartbeats 2000000 in
theorem rHalf_any (n d : Int) (w : World) : Calls Tryd.prog 16 #[.int .i64 n, .int .i64 d] w fun e w' => e = .returned (.tuple #[.int .i64 (onOk (hlfE n d) (hlfV n d)), .int .i64 (hlfE n d)]) ∧ Upd NoB w w' := by
  rcases hlf_cases n d with ⟨h, e⟩ | ⟨h, h8, e⟩ | ⟨h, h8, h9, e⟩ | ⟨h, h8, h9, e⟩
  · have V := Lib.hid (show onOk (hlfE n d) (hlfV n d) = 0 by unfold onOk; rw [if_neg (by rw [e]; exact h)])
    have E := Lib.hid e
    have t : (angE n d != 0) = true := by simpa using h
    clear h e
    go_enter Tryd.func16, Tryd.ntmps16
    go_wp2_with fail
    refine (angle_any n d _).mono ?_
    rintro e w' ⟨rfl, rfl⟩
    go_wp2
    go_ret2
    exact ⟨ret2_int V.out.symm E.out.symm, Upd.refl _ _⟩
  · have V := Lib.hid (show onOk (hlfE n d) (hlfV n d) = 0 by unfold onOk; rw [if_neg (by rw [e]; omega)])
    have E := Lib.hid e
    have g := angE_ok h
    have H := Lib.hid h
    clear h e
    go_enter Tryd.func16, Tryd.ntmps16
    go_wp2_with fail
    refine (angle_any n d _).mono ?_
    rintro e w' ⟨rfl, rfl⟩
    rw [H.out]
    go_wp2
    go_ret2
    exact ⟨ret2_int V.out.symm E.out.symm, Upd.refl _ _⟩
  · have V := Lib.hid (show onOk (hlfE n d) (hlfV n d) = 0 by unfold onOk; rw [if_neg (by rw [e]; omega)])
    have E := Lib.hid e
    have g := angE_ok h
    have H := Lib.hid h
    clear h e
    go_enter Tryd.func16, Tryd.ntmps16
    go_wp2_with fail
    refine (angle_any n d _).mono ?_
    rintro e w' ⟨rfl, rfl⟩
    rw [H.out]
    go_wp2
    go_ret2
    exact ⟨ret2_int V.out.symm E.out.symm, Upd.refl _ _⟩
  · have V := Lib.hid (show onOk (hlfE n d) (hlfV n d) = hlfV n d by unfold onOk; rw [if_pos e])
    have E := Lib.hid e
    have g := angE_ok h
    have H := Lib.hid h
    obtain ⟨D, t, o, r, s, c, hD, hD1, hD2, ht, ho, hr, hs, hc, hcase, hs2, hc2, hS, lS, lC⟩ := half_ref h h8 h9
    have rc := fun w => rcircle_any n D t o r s c w hD1 hD2 g.2.2.1 g.2.2.2 ht ho hr (by rw [hs]) (by rw [hc])
    have cl := cosS_lo hS
    have tn := tan_ref hS
    rw [← hs2, ← hc2] at tn
    rw [← hc2] at cl
    rw [← hD] at rc
    have wd : IntKind.i64.wrap (-d) = -d := IntWalk.i64_in _ (by omega)
    have w8 : IntKind.i64.wrap (8 * n) = 8 * n := IntWalk.i64_in _ (by omega)
    have w2d : IntKind.i64.wrap (2 * d) = 2 * d := IntWalk.i64_in _ (by omega)
    have t1 : decide (8 * n < -d) = false := decide_eq_false h8
    have t2 : decide (d < 8 * n) = false := decide_eq_false h9
    clear h8 h9 h e hD g
    rcases hcase with ⟨hn, rfl⟩ | ⟨hn, rfl⟩
    · skip
      have rn := tanM s c _ cl tn.2
      have hV : hlfV n d = -((tanR (hlfS n d) : Nat) : Int) := if_pos hn
      obtain ⟨T, eT⟩ : ∃ T, tanR (hlfS n d) = T := ⟨_, rfl⟩
      rw [eT] at rn hV
      have x1 : -(s : Int) / 65536 ≤ 17592186044416 := by omega
      have x2 : -17592186044416 ≤ -(s : Int) / 65536 := by omega
      obtain ⟨A, eA⟩ : ∃ A, -(s : Int) / 65536 = A := ⟨_, rfl⟩
      obtain ⟨B, eB⟩ : ∃ B, (c : Int) / 65536 = B := ⟨_, rfl⟩
      rw [eA] at x1 x2
      rw [eA, eB] at rn
      have y1 : 1 ≤ B := by omega
      have y2 : B ≤ 17592186044416 := by omega
      have w5 : IntKind.i64.wrap (A * 16384) = A * 16384 := IntWalk.i64_in _ (by omega)
      have rc' := fun w => rc w
      simp only [octF] at rc'
      have RC := Lib.hid rc'; have RN := Lib.hid rn; have HV := Lib.hid hV
      clear rc rc' rn hV eT tn cl hs2 hc2 hs hc ho hr ht hD1 hD2 hS lS lC
      go_enter Tryd.func16, Tryd.ntmps16
      go_wp2_with fail
      refine (angle_any n d _).mono ?_
      rintro e w' ⟨rfl, rfl⟩
      rw [H.out]
      go_wp2_with fail
      refine (RC.out _).mono ?_
      rintro e w2 ⟨rfl, k, rfl⟩
      go_wp2_with fail
      refine (near_any (A * 16384) B _ (by omega) (by omega) (by omega) (by omega)).mono ?_
      rintro e w3 ⟨rfl, rfl⟩
      go_wp2
      go_ret2
      exact ⟨ret2_int (by rw [V.out, HV.out, RN.out]) E.out.symm, (Upd.refl _ _).draw k⟩
    · skip
      have rn := tanP s c _ tn.1
      have hV : hlfV n d = ((tanR (hlfS n d) : Nat) : Int) := if_neg hn
      obtain ⟨T, eT⟩ : ∃ T, tanR (hlfS n d) = T := ⟨_, rfl⟩
      rw [eT] at rn hV
      have x1 : (s : Int) / 65536 ≤ 17592186044416 := by omega
      have x2 : -17592186044416 ≤ (s : Int) / 65536 := by omega
      obtain ⟨A, eA⟩ : ∃ A, (s : Int) / 65536 = A := ⟨_, rfl⟩
      obtain ⟨B, eB⟩ : ∃ B, (c : Int) / 65536 = B := ⟨_, rfl⟩
      rw [eA] at x1 x2
      rw [eA, eB] at rn
      have y1 : 1 ≤ B := by omega
      have y2 : B ≤ 17592186044416 := by omega
      have w5 : IntKind.i64.wrap (A * 16384) = A * 16384 := IntWalk.i64_in _ (by omega)
      have rc' := fun w => rc w
      simp only [octF] at rc'
      have RC := Lib.hid rc'; have RN := Lib.hid rn; have HV := Lib.hid hV
      clear rc rc' rn hV eT tn cl hs2 hc2 hs hc ho hr ht hD1 hD2 hS lS lC
      go_enter Tryd.func16, Tryd.ntmps16
      go_wp2_with fail
      refine (angle_any n d _).mono ?_
      rintro e w' ⟨rfl, rfl⟩
      rw [H.out]
      go_wp2_with fail
      refine (RC.out _).mono ?_
      rintro e w2 ⟨rfl, k, rfl⟩
      go_wp2_with fail
      refine (near_any (A * 16384) B _ (by omega) (by omega) (by omega) (by omega)).mono ?_
      rintro e w3 ⟨rfl, rfl⟩
      go_wp2
      go_ret2
      exact ⟨ret2_int (by rw [V.out, HV.out, RN.out]) E.out.symm, (Upd.refl _ _).draw k⟩
set_option maxRecDepth 100000 in
set_option maxHeartbeats 2000000 in
theorem circ_any (n d : Int) (w : World) (hp : Parts w) : Calls Tryd.prog 3 #[.int .i64 n, .int .i64 d] w fun e w' => e = .returned (.bool true) ∧ Upd NoB w w' := by
  have P0 := Lib.hid hp; clear hp
  have U0 := Lib.hid (Upd.refl NoB w)
  go_enter Tryd.func3, Tryd.ntmps3
  go_wp2_with fail
  refine (Sin_any n d _ P0.out).mono ?_
  rintro e w1 ⟨rfl, u⟩
  have P1 := Lib.hid (P0.out.upd u (noB 0))
  have U1 := Lib.hid (U0.out.then u)
  clear u U0 P0
  go_wp2_with fail
  refine (rSin_any n d _).mono ?_
  rintro e w2 ⟨rfl, u⟩
  have P2 := Lib.hid (P1.out.upd u (noB 0))
  have U2 := Lib.hid (U1.out.then u)
  clear u U1 P1
  go_wp2_with fail
  refine (Cos_any n d _ P2.out).mono ?_
  rintro e w3 ⟨rfl, u⟩
  have P3 := Lib.hid (P2.out.upd u (noB 0))
  have U3 := Lib.hid (U2.out.then u)
  clear u U2 P2
  go_wp2_with fail
  refine (rCos_any n d _).mono ?_
  rintro e w4 ⟨rfl, u⟩
  have P4 := Lib.hid (P3.out.upd u (noB 0))
  have U4 := Lib.hid (U3.out.then u)
  clear u U3 P3
  go_wp2_with fail
  refine (Half_any n d _ P4.out).mono ?_
  rintro e w5 ⟨rfl, u⟩
  have P5 := Lib.hid (P4.out.upd u (noB 0))
  have U5 := Lib.hid (U4.out.then u)
  clear u U4 P4
  go_wp2_with fail
  refine (rHalf_any n d _).mono ?_
  rintro e w6 ⟨rfl, u⟩
  have P6 := Lib.hid (P5.out.upd u (noB 0))
  have U6 := Lib.hid (U5.out.then u)
  clear u U5 P5
  go_wp2_with fail
  refine (awake_any _ P6.out).mono ?_
  rintro e w7 ⟨rfl, u⟩
  have P7 := Lib.hid (P6.out.upd u (noB 0))
  have U7 := Lib.hid (U6.out.then u)
  clear u U6 P6
  go_wp2
  go_ret
  exact ⟨rfl, U7.out⟩

set_option maxRecDepth 100000 in
theorem circ_lifted (os : Os) (started : os.Started) (H : Type) (enc : TypeId × Value → H) :
    ReturnsInHanded {} Tryd.checked os 3 .any (fun w args => (Rows.fixedCircleSpec.pre enc Tryd.prog Tryd.f3 [] false w args ∧ laidMetH Tryd.prog laidL w) ∧ sizedMet enc Tryd.prog Tryd.f3 (OpenSpec.ofChange Rows.fixedCircleSpec) false w args)
      (Rows.fixedCircleSpec.post enc Tryd.prog Tryd.f3 false true false false) := by
  refine returnsInHanded_of_change_and (C := Tryd.checked) (X := fun w _ => laidMetH Tryd.prog laidL w) (fun _ _ _ hh h => h.of_heap hh) own started (by kernel_rfl) Tryd.func3
    (ChangeSpec.witness_shaped (enc := enc) (C := Tryd.checked) (os := os) (X := fun w _ => laidMetH Tryd.prog laidL w) false (World.doorLaid Tryd.prog 400 os) #[.int .i64 0, .int .i64 0] 8 rfl (World.shaped_of_RefB (by kernel_rfl) (by kernel_rfl)) (by kernel_rfl) (by kernel_rfl) (by kernel_rfl) (door_met os _)) ?_
  intro W base args ds gs before hval0 hW _ _ hL _
  have hval : ∀ (j : Nat) t v, Tryd.f3.params[j]? = some t → args[j]? = some v → Value.okWide Tryd.prog W .any base t v := hval0
  have hW' := hW
  obtain ⟨p, q, hA0, hV, rfl, hfz, hnd⟩ := hW
  have hA : DataW.TrodAll enc Tryd.prog W 0 (fun _ => true) true Tryd.f3.params.toList args.toList ds p := hA0
  rw [Tryd.params3] at hA hval
  obtain ⟨v0, vs0, d0, ds0, p0, q0, hargs, rfl, rfl, h0, r0⟩ := trodAll_cons hA
  obtain ⟨v1, vs1, d1, ds1, p1, q1, rfl, rfl, rfl, h1, r1⟩ := trodAll_cons r0
  obtain ⟨rfl, rfl, rfl⟩ := trodAll_nil r1
  obtain rfl : args = #[v0, v1] := by cases args; simp_all
  obtain ⟨rfl, rfl⟩ := trodVars_none hV
  obtain ⟨n0, rfl, rfl, rfl, w0⟩ := open_int Tryd.underlying3 (hval 0 3 v0 rfl rfl) h0
  have hn0 : -9223372036854775808 ≤ n0 ∧ n0 ≤ 9223372036854775807 := by
    have h1 : IntKind.i64.min = -9223372036854775808 := rfl
    have h2 : IntKind.i64.max = 9223372036854775807 := rfl
    have w := w0
    simp only [Lit.wf, Bool.and_eq_true, decide_eq_true_eq] at w
    omega
  obtain ⟨n1, rfl, rfl, rfl, w1⟩ := open_int Tryd.underlying3 (hval 1 3 v1 rfl rfl) h1
  have hn1 : -9223372036854775808 ≤ n1 ∧ n1 ≤ 9223372036854775807 := by
    have h1 : IntKind.i64.min = -9223372036854775808 := rfl
    have h2 : IntKind.i64.max = 9223372036854775807 := rfl
    have w := w1
    simp only [Lit.wf, Bool.and_eq_true, decide_eq_true_eq] at w
    omega
  have hP := of_laid hL
  clear hA0 hval0 hL
  refine (circ_any n0 n1 W hP).mono fun e W' ⟨he, u⟩ => ?_
  subst he
  have bel := u.below
  exact ⟨_, rfl, _, _, _, [], _, [], hW', trodAll_mk1 (shut_bool Tryd.underlying4 _), (trodAll_cons_mk (shut_int Tryd.underlying3 w0) (trodAll_cons_mk (shut_int Tryd.underlying3 w1) trodAll_mk0)), rfl, bel.frame _, fun h => by cases h⟩

theorem circ_row : Rows.FixedCircleSaid :=
  OpenClaim.holds_of_wide 3 Tryd.f3 rfl rfl rfl rfl rfl rfl rfl ⟨rfl, rfl, rfl, rfl, rfl⟩ rfl rfl rfl rfl rfl (by kernel_rfl) Tryd.func3 (by kernel_rfl)
    (of_decide_eq_true (by kernel_rfl)) (by unfold Func.isWrapper; first | (rw [if_pos (by decide +kernel)]; kernel_rfl) | (rw [if_neg (by decide +kernel)]; exact ⟨rfl, rfl⟩))
    (fun os started H enc _ => circ_lifted os started H enc)

theorem circ_holds : Rows.FixedCircleCardSaid :=
  Claim7.holds_tied_plain_at .later [] [.data] true Rows.fixedCircleCard.stood.harness false
    circ_row (fun _ h => by cases h) (by kernel_rfl) (fun _ h => by cases h) fixedCircle_row_tie rfl ⟨rfl, rfl⟩ (by kernel_rfl) rfl
    (fun f fn hf hfn => by
      obtain rfl : f = 3 := Option.some.inj ((show Tryd.prog.funcNamed "shawm/shawmlaw03.FixedCircle" = some 3 by kernel_rfl).symm.trans hf) |>.symm
      obtain rfl : fn = Tryd.f3 := (Option.some.inj (Tryd.func3.symm.trans hfn)).symm
      exact ⟨by kernel_rfl, fun j t ht => by
        rw [Tryd.params3] at ht
        have hm : t ∈ [3] := by have := Array.mem_of_getElem? ht; simpa using this
        have hall : ([3].all fun u => !Tryd.prog.wantsStandIn u) = true := by kernel_rfl
        exact (show Tryd.prog.wantsStandIn t = false by simpa using List.all_eq_true.1 hall t hm)⟩)
    (by kernel_rfl)
end Go.Proofs.YtpmhioaoniijbaaDoor
