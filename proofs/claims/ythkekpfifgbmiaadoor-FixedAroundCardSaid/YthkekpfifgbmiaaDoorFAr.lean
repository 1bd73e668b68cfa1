/- The squares of sine and cosine have a sum that differs from 2^28 by at most 2^15; a quarter of a turn more makes the cosine of the sine, and the sine is odd, the cosine even; for angles below 2^39 in absolute value. No condition; the variable parts holds what the program's text lays (tied). -/
import Derived.Test.YthkekpfifgbmiaaDoorFrow
namespace Go.Proofs.YthkekpfifgbmiaaDoor
open Go.ChangeShapes Go.WideShapes Go.ChangeAt Go.WideMaps Go.WideElems Go.RowKit

theorem cir_eq {S : Int} {Q r : Nat} (h : S % 16384 = ((4096 * Q + r : Nat) : Int)) (hr : r < 4096) : cir S = rot ((cosR r : Nat), (sinR r : Nat)) Q := by
  unfold cir
  rw [h, Int.toNat_natCast, show (4096 * Q + r) % 4096 = r by omega, show (4096 * Q + r) / 4096 = Q by omega]
theorem cir_parts (S : Int) : ∃ Q r : Nat, S % 16384 = ((4096 * Q + r : Nat) : Int) ∧ r < 4096 ∧ Q ≤ 3 := by
  refine ⟨(S % 16384).toNat / 4096, (S % 16384).toNat % 4096, by omega, by omega, by omega⟩
theorem cir_quarter (S : Int) : cir (S + 4096) = (-(cir S).2, (cir S).1) := by
  obtain ⟨Q, r, h, hr, hQ⟩ := cir_parts S
  rw [cir_eq h hr]
  rcases (show Q = 0 ∨ Q = 1 ∨ Q = 2 ∨ Q = 3 by omega) with rfl | rfl | rfl | rfl
  · rw [cir_eq (Q := 1) (r := r) (by omega) hr]; rfl
  · rw [cir_eq (Q := 2) (r := r) (by omega) hr]; rfl
  · rw [cir_eq (Q := 3) (r := r) (by omega) hr]; rfl
  · rw [cir_eq (Q := 0) (r := r) (by omega) hr]; simp [rot]
theorem cir_neg (S : Int) : cir (-S) = ((cir S).1, -(cir S).2) := by
  obtain ⟨Q, r, h, hr, hQ⟩ := cir_parts S
  rw [cir_eq h hr]
  by_cases h0 : r = 0
  · subst h0
    have z := sin_zero
    rcases (show Q = 0 ∨ Q = 1 ∨ Q = 2 ∨ Q = 3 by omega) with rfl | rfl | rfl | rfl
    · rw [cir_eq (Q := 0) (r := 0) (by omega) hr, z.1, z.2]; simp [rot]
    · rw [cir_eq (Q := 3) (r := 0) (by omega) hr, z.1, z.2]; simp [rot]
    · rw [cir_eq (Q := 2) (r := 0) (by omega) hr, z.1, z.2]; simp [rot]
    · rw [cir_eq (Q := 1) (r := 0) (by omega) hr, z.1, z.2]; simp [rot]
  · have a := sin_sym (r := r) (by omega) (by omega)
    have b := cos_sym (r := r) (by omega) (by omega)
    rcases (show Q = 0 ∨ Q = 1 ∨ Q = 2 ∨ Q = 3 by omega) with rfl | rfl | rfl | rfl
    · rw [cir_eq (Q := 3) (r := 4096 - r) (by omega) (by omega), a, b]; simp [rot]
    · rw [cir_eq (Q := 2) (r := 4096 - r) (by omega) (by omega), a, b]; simp [rot]
    · rw [cir_eq (Q := 1) (r := 4096 - r) (by omega) (by omega), a, b]; simp [rot]
    · rw [cir_eq (Q := 0) (r := 4096 - r) (by omega) (by omega), a, b]; simp [rot]
theorem cir_around (S : Int) : (cir S).2 * (cir S).2 + (cir S).1 * (cir S).1 ≤ 268435456 + 32768 ∧ 268435456 - 32768 ≤ (cir S).2 * (cir S).2 + (cir S).1 * (cir S).1 := by
  obtain ⟨Q, r, h, hr, hQ⟩ := cir_parts S
  rw [cir_eq h hr]
  have a := around hr
  generalize cosR r = c at *
  generalize sinR r = s at *
  have e1 : (s : Int) * s = ((s * s : Nat) : Int) := by simp
  have e2 : (c : Int) * c = ((c * c : Nat) : Int) := by simp
  rcases (show Q = 0 ∨ Q = 1 ∨ Q = 2 ∨ Q = 3 by omega) with rfl | rfl | rfl | rfl
  all_goals
    simp only [rot, Int.neg_mul, Int.mul_neg, Int.neg_neg]
    rw [e1, e2]
    omega
theorem sq_nonneg (x : Int) : 0 ≤ x * x := by
  rcases Int.lt_or_le x 0 with h | h
  · have := Int.mul_nonneg (show 0 ≤ -x by omega) (show 0 ≤ -x by omega)
    rw [Int.neg_mul_neg] at this; exact this
  · exact Int.mul_nonneg h h
theorem abs_le_of_sq {x : Int} (h : x * x ≤ 4611686018427387904) : -2147483648 ≤ x ∧ x ≤ 2147483648 := by
  refine ⟨?_, ?_⟩
  · rcases Int.lt_or_le x (-2147483648) with g | g
    · have := Int.mul_le_mul (show 2147483649 ≤ -x by omega) (show 2147483649 ≤ -x by omega) (by omega) (by omega)
      rw [Int.neg_mul_neg] at this; omega
    · exact g
  · rcases Int.lt_or_le 2147483648 x with g | g
    · have := Int.mul_le_mul (show 2147483649 ≤ x by omega) (show 2147483649 ≤ x by omega) (by omega) (by omega)
      omega
    · exact g
theorem quarter_of {d : Int} (h : pow2 d = true) (h4 : 4 ≤ d) : d / 4 * (16384 / d) = 4096 := by
  obtain ⟨k, hk, rfl⟩ := pow2_cases h
  have : ∀ k, k < 15 → 4 ≤ 2 ^ k → 2 ^ k / 4 * (16384 / 2 ^ k) = 4096 := by decide +kernel
  have := this k hk (by omega)
  have e : (((2 ^ k : Nat) : Int) / 4 * (16384 / ((2 ^ k : Nat) : Int))) = ((2 ^ k / 4 * (16384 / 2 ^ k) : Nat) : Int) := by rw [Int.natCast_mul]; rfl
  rw [e, this]; rfl
theorem angE_zero {n d : Int} (h : pow2 d = true) (h1 : -1099511627776 ≤ n) (h2 : n ≤ 1099511627776) : angE n d = 0 := by
  rcases angE_cases n d with ⟨h', _⟩ | h' | h' | h'
  · rw [h] at h'; cases h'
  · omega
  · omega
  · exact h'.2.2.2
set_option maxRecDepth 100000 in
set_option maxHeartbeats 4000000 in
theorem aro_any (n d : Int) (w : World) (hp : Parts w) : Calls Tryd.prog 8 #[.int .i64 n, .int .i64 d] w fun e w' => e = .returned (.bool true) ∧ Upd NoB w w' := by
  have P0 := Lib.hid hp; clear hp
  by_cases h0 : n < -549755813888
  · go_enter Tryd.func8, Tryd.ntmps8
    go_wp2_with fail
    refine (awake_any _ P0.out).mono ?_
    rintro e w1 ⟨rfl, u⟩
    go_wp2
    go_ret
    exact ⟨rfl, u⟩
  by_cases h1 : 549755813888 < n
  · go_enter Tryd.func8, Tryd.ntmps8
    go_wp2_with fail
    refine (awake_any _ P0.out).mono ?_
    rintro e w1 ⟨rfl, u⟩
    go_wp2
    go_ret
    exact ⟨rfl, u⟩
  cases hd : pow2 d with
  | false =>
    have Hd := Lib.hid hd; clear hd
    go_enter Tryd.func8, Tryd.ntmps8
    go_wp2_with fail
    refine (Power_any d _).mono ?_
    rintro e w' ⟨rfl, rfl⟩
    rw [Hd.out]
    go_wp2_with fail
    refine (awake_any _ P0.out).mono ?_
    rintro e w1 ⟨rfl, u⟩
    go_wp2
    go_ret
    exact ⟨rfl, u⟩
  | true =>
    have di := pow2_in hd
    obtain ⟨q, hq⟩ : ∃ q, 16384 / d = q := ⟨_, rfl⟩
    have s1 := fun w hp => Sin_any n d w hp
    have c1 := fun w hp => Cos_any n d w hp
    have s2 := fun w hp => Sin_any (-n) d w hp
    have c2 := fun w hp => Cos_any (-n) d w hp
    rw [angE_zero hd (by omega) (by omega), hq] at s1 c1 s2 c2
    obtain ⟨S, hS⟩ : ∃ S, n * q = S := ⟨_, rfl⟩
    rw [show -n * q = -S by rw [Int.neg_mul, hS], cir_neg] at s2 c2
    rw [hS] at s1 c1
    have ar := cir_around S
    have qu := cir_quarter S
    have n1 := sq_nonneg (cir S).1
    have n2 := sq_nonneg (cir S).2
    obtain ⟨c, hc⟩ : ∃ c, (cir S).1 = c := ⟨_, rfl⟩
    obtain ⟨s, hs⟩ : ∃ s, (cir S).2 = s := ⟨_, rfl⟩
    simp only [hc, hs] at s1 c1 s2 c2 ar qu n1 n2
    have S1 := Lib.hid s1; have C1 := Lib.hid c1; have S2 := Lib.hid s2; have C2 := Lib.hid c2
    have x1 := abs_le_of_sq (x := s) (by omega)
    have a1 : IntKind.i64.wrap (s * s) = s * s := IntWalk.i64_in _ (by omega)
    have a2 : IntKind.i64.wrap (c * c) = c * c := IntWalk.i64_in _ (by omega)
    have a3 : IntKind.i64.wrap (s * s + c * c) = s * s + c * c := IntWalk.i64_in _ (by omega)
    obtain ⟨x, hx⟩ : ∃ x, s * s + c * c - 268435456 = x := ⟨_, rfl⟩
    have a4 : IntKind.i64.wrap (s * s + c * c - 268435456) = x := by rw [hx]; exact IntWalk.i64_in _ (by omega)
    have a5 : wrap64 (s * s + c * c - 268435456) = x := by rw [hx]; exact IntWalk.wrap64_in _ (by omega)
    have a6 : IntKind.i64.wrap (-n) = -n := IntWalk.i64_in _ (by omega)
    have a7 : IntKind.i64.wrap (-s) = -s := IntWalk.i64_in _ (by omega)
    have t1 : decide (32768 < x) = false := decide_eq_false (by omega)
    have t2 : decide (x < -32768) = false := decide_eq_false (by omega)
    have g1 : decide (n < -549755813888) = false := decide_eq_false h0
    have g2 : decide (549755813888 < n) = false := decide_eq_false h1
    clear s1 c1 s2 c2 ar n1 n2 hx x1
    by_cases h4 : 4 ≤ d
    · have k4 := quarter_of hd h4
      rw [hq] at k4
      have s3 := fun w hp => Sin_any (n + d / 4) d w hp
      have c3 := fun w hp => Cos_any (n + d / 4) d w hp
      rw [angE_zero hd (by omega) (by omega), hq, show (n + d / 4) * q = S + 4096 by rw [Int.add_mul, hS, k4], qu] at s3 c3
      have S3 := Lib.hid s3; have C3 := Lib.hid c3
      have Hd := Lib.hid hd
      have a8 : IntKind.i64.wrap (n + d / 4) = n + d / 4 := IntWalk.i64_in _ (by omega)
      have g4 : decide (4 ≤ d) = true := decide_eq_true h4
      have d0 : 0 ≤ d := by omega
      have d1 : d ≤ 16384 := di.2
      clear s3 c3 k4 qu hd hq hS hc hs di h0 h1 h4
      go_enter Tryd.func8, Tryd.ntmps8
      go_wp2_with fail
      refine (Power_any d _).mono ?_
      rintro e w' ⟨rfl, rfl⟩
      rw [Hd.out]
      go_wp2_with fail
      refine (S1.out _ P0.out).mono ?_
      rintro e w1 ⟨rfl, u⟩
      have P1 := Lib.hid (P0.out.upd u (noB 0)); have U1 := Lib.hid u; clear u
      go_wp2_with fail
      refine (C1.out _ P1.out).mono ?_
      rintro e w2 ⟨rfl, u⟩
      have P2 := Lib.hid (P1.out.upd u (noB 0)); have U2 := Lib.hid (U1.out.then u); clear u
      go_wp2_with fail
      refine (S2.out _ P2.out).mono ?_
      rintro e w3 ⟨rfl, u⟩
      have P3 := Lib.hid (P2.out.upd u (noB 0)); have U3 := Lib.hid (U2.out.then u); clear u
      go_wp2_with fail
      refine (C2.out _ P3.out).mono ?_
      rintro e w4 ⟨rfl, u⟩
      have P4 := Lib.hid (P3.out.upd u (noB 0)); have U4 := Lib.hid (U3.out.then u); clear u
      rw [show onOk 0 s = s from rfl, show onOk 0 c = c from rfl, show onOk 0 (-s) = -s from rfl]
      go_wp2_with fail
      refine (S3.out _ P4.out).mono ?_
      rintro e w5 ⟨rfl, u⟩
      have P5 := Lib.hid (P4.out.upd u (noB 0)); have U5 := Lib.hid (U4.out.then u); clear u
      go_wp2_with fail
      refine (C3.out _ P5.out).mono ?_
      rintro e w6 ⟨rfl, u⟩
      have P6 := Lib.hid (P5.out.upd u (noB 0)); have U6 := Lib.hid (U5.out.then u); clear u
      go_wp2_with fail
      refine (awake_any _ P6.out).mono ?_
      rintro e w7 ⟨rfl, u⟩
      have U7 := Lib.hid (U6.out.then u); clear u
      go_wp2
      go_ret
      exact ⟨rfl, U7.out⟩
    · have Hd := Lib.hid hd
      have g4 : decide (4 ≤ d) = false := decide_eq_false h4
      clear qu hd hq hS hc hs di h0 h1 h4
      go_enter Tryd.func8, Tryd.ntmps8
      go_wp2_with fail
      refine (Power_any d _).mono ?_
      rintro e w' ⟨rfl, rfl⟩
      rw [Hd.out]
      go_wp2_with fail
      refine (S1.out _ P0.out).mono ?_
      rintro e w1 ⟨rfl, u⟩
      have P1 := Lib.hid (P0.out.upd u (noB 0)); have U1 := Lib.hid u; clear u
      go_wp2_with fail
      refine (C1.out _ P1.out).mono ?_
      rintro e w2 ⟨rfl, u⟩
      have P2 := Lib.hid (P1.out.upd u (noB 0)); have U2 := Lib.hid (U1.out.then u); clear u
      go_wp2_with fail
      refine (S2.out _ P2.out).mono ?_
      rintro e w3 ⟨rfl, u⟩
      have P3 := Lib.hid (P2.out.upd u (noB 0)); have U3 := Lib.hid (U2.out.then u); clear u
      go_wp2_with fail
      refine (C2.out _ P3.out).mono ?_
      rintro e w4 ⟨rfl, u⟩
      have P4 := Lib.hid (P3.out.upd u (noB 0)); have U4 := Lib.hid (U3.out.then u); clear u
      rw [show onOk 0 s = s from rfl, show onOk 0 c = c from rfl, show onOk 0 (-s) = -s from rfl]
      go_wp2_with fail
      refine (awake_any _ P4.out).mono ?_
      rintro e w7 ⟨rfl, u⟩
      have U7 := Lib.hid (U4.out.then u); clear u
      go_wp2
      go_ret
      exact ⟨rfl, U7.out⟩

set_option maxRecDepth 100000 in
theorem aro_lifted (os : Os) (started : os.Started) (H : Type) (enc : TypeId × Value → H) :
    ReturnsInHanded {} Tryd.checked os 8 .any (fun w args => (Rows.fixedAroundSpec.pre enc Tryd.prog Tryd.f8 [] false w args ∧ laidMetH Tryd.prog laidL w) ∧ sizedMet enc Tryd.prog Tryd.f8 (OpenSpec.ofChange Rows.fixedAroundSpec) false w args)
      (Rows.fixedAroundSpec.post enc Tryd.prog Tryd.f8 false true false false) := by
  refine returnsInHanded_of_change_and (C := Tryd.checked) (X := fun w _ => laidMetH Tryd.prog laidL w) (fun _ _ _ hh h => h.of_heap hh) own started (by kernel_rfl) Tryd.func8
    (ChangeSpec.witness_shaped (enc := enc) (C := Tryd.checked) (os := os) (X := fun w _ => laidMetH Tryd.prog laidL w) false (World.doorLaid Tryd.prog 400 os) #[.int .i64 0, .int .i64 0] 8 rfl (World.shaped_of_RefB (by kernel_rfl) (by kernel_rfl)) (by kernel_rfl) (by kernel_rfl) (by kernel_rfl) (door_met os _)) ?_
  intro W base args ds gs before hval0 hW _ _ hL _
  have hval : ∀ (j : Nat) t v, Tryd.f8.params[j]? = some t → args[j]? = some v → Value.okWide Tryd.prog W .any base t v := hval0
  have hW' := hW
  obtain ⟨p, q, hA0, hV, rfl, hfz, hnd⟩ := hW
  have hA : DataW.TrodAll enc Tryd.prog W 0 (fun _ => true) true Tryd.f8.params.toList args.toList ds p := hA0
  rw [Tryd.params8] at hA hval
  obtain ⟨v0, vs0, d0, ds0, p0, q0, hargs, rfl, rfl, h0, r0⟩ := trodAll_cons hA
  obtain ⟨v1, vs1, d1, ds1, p1, q1, rfl, rfl, rfl, h1, r1⟩ := trodAll_cons r0
  obtain ⟨rfl, rfl, rfl⟩ := trodAll_nil r1
  obtain rfl : args = #[v0, v1] := by cases args; simp_all
  obtain ⟨rfl, rfl⟩ := trodVars_none hV
  obtain ⟨n0, rfl, rfl, rfl, w0⟩ := open_int Tryd.underlying3 (hval 0 3 v0 rfl rfl) h0
  have hn0 : -9223372036854775808 ≤ n0 ∧ n0 ≤ 9223372036854775807 := by
    have h1 : IntKind.i64.min = -9223372036854775808 := rfl
    have h2 : IntKind.i64.max = 9223372036854775807 := rfl
    have w := w0
    simp only [Lit.wf, Bool.and_eq_true, decide_eq_true_eq] at w
    omega
  obtain ⟨n1, rfl, rfl, rfl, w1⟩ := open_int Tryd.underlying3 (hval 1 3 v1 rfl rfl) h1
  have hn1 : -9223372036854775808 ≤ n1 ∧ n1 ≤ 9223372036854775807 := by
    have h1 : IntKind.i64.min = -9223372036854775808 := rfl
    have h2 : IntKind.i64.max = 9223372036854775807 := rfl
    have w := w1
    simp only [Lit.wf, Bool.and_eq_true, decide_eq_true_eq] at w
    omega
  have hP := of_laid hL
  clear hA0 hval0 hL
  refine (aro_any n0 n1 W hP).mono fun e W' ⟨he, u⟩ => ?_
  subst he
  have bel := u.below
  exact ⟨_, rfl, _, _, _, [], _, [], hW', trodAll_mk1 (shut_bool Tryd.underlying4 _), (trodAll_cons_mk (shut_int Tryd.underlying3 w0) (trodAll_cons_mk (shut_int Tryd.underlying3 w1) trodAll_mk0)), rfl, bel.frame _, fun h => by cases h⟩

theorem aro_row : Rows.FixedAroundSaid :=
  OpenClaim.holds_of_wide 8 Tryd.f8 rfl rfl rfl rfl rfl rfl rfl ⟨rfl, rfl, rfl, rfl, rfl⟩ rfl rfl rfl rfl rfl (by kernel_rfl) Tryd.func8 (by kernel_rfl)
    (of_decide_eq_true (by kernel_rfl)) (by unfold Func.isWrapper; first | (rw [if_pos (by decide +kernel)]; kernel_rfl) | (rw [if_neg (by decide +kernel)]; exact ⟨rfl, rfl⟩))
    (fun os started H enc _ => aro_lifted os started H enc)

theorem aro_holds : Rows.FixedAroundCardSaid :=
  Claim7.holds_tied_plain_at .later [] [.data] true Rows.fixedAroundCard.stood.harness false
    aro_row (fun _ h => by cases h) (by kernel_rfl) (fun _ h => by cases h) fixedAround_row_tie rfl ⟨rfl, rfl⟩ (by kernel_rfl) rfl
    (fun f fn hf hfn => by
      obtain rfl : f = 8 := Option.some.inj ((show Tryd.prog.funcNamed "shawm/shawmlaw03.FixedAround" = some 8 by kernel_rfl).symm.trans hf) |>.symm
      obtain rfl : fn = Tryd.f8 := (Option.some.inj (Tryd.func8.symm.trans hfn)).symm
      exact ⟨by kernel_rfl, fun j t ht => by
        rw [Tryd.params8] at ht
        have hm : t ∈ [3] := by have := Array.mem_of_getElem? ht; simpa using this
        have hall : ([3].all fun u => !Tryd.prog.wantsStandIn u) = true := by kernel_rfl
        exact (show Tryd.prog.wantsStandIn t = false by simpa using List.all_eq_true.1 hall t hm)⟩)
    (by kernel_rfl)
end Go.Proofs.YthkekpfifgbmiaaDoor
