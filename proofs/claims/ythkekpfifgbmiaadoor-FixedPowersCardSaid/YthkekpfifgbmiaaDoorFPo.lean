/- The square of Root is at most the number and that of the next integer is above it; likewise Cube; for any number. No condition; the variable parts holds what the program's text lays (tied). -/
import Derived.Test.YthkekpfifgbmiaaDoorFrow
namespace Go.Proofs.YthkekpfifgbmiaaDoor
open Go.ChangeShapes Go.WideShapes Go.ChangeAt Go.WideMaps Go.WideElems Go.RowKit

set_option maxRecDepth 100000 in
set_option maxHeartbeats 4000000 in
theorem powers_any (n : Int) (w : World) (hp : Parts w) : Calls Tryd.prog 7 #[.int .i64 n] w fun e w' => e = .returned (.bool true) ∧ Upd NoB w w' := by
  have P0 := Lib.hid hp; clear hp
  by_cases h0 : n < 0
  · go_enter Tryd.func7, Tryd.ntmps7
    go_wp2_with fail
    refine (awake_any _ P0.out).mono ?_
    rintro e w1 ⟨rfl, u⟩
    go_wp2
    go_ret
    exact ⟨rfl, u⟩
  by_cases h1 : 4611686018427387904 < n
  · go_enter Tryd.func7, Tryd.ntmps7
    go_wp2_with fail
    refine (awake_any _ P0.out).mono ?_
    rintro e w1 ⟨rfl, u⟩
    go_wp2
    go_ret
    exact ⟨rfl, u⟩
  have ro := Root_any n
  have cu := Cube_any n
  rw [rtE_ok (by omega) (by omega)] at ro cu
  obtain ⟨N, rfl⟩ : ∃ N : Nat, n = N := ⟨n.toNat, by omega⟩
  rw [Int.toNat_natCast] at ro cu
  have s1 := rt_spec (n := N) (by omega)
  have s2 := rt_le (n := N) (by omega)
  have s3 := cb_spec (n := N) (by omega)
  have s4 := cb_lt (n := N) (by omega)
  unfold cube at s3
  generalize rt N = A at *
  generalize cb N = B at *
  have Ro := Lib.hid ro; have Cu := Lib.hid cu; clear ro cu
  obtain ⟨a, ea⟩ : ∃ a : Int, (A : Int) = a := ⟨_, rfl⟩
  obtain ⟨b, eb⟩ : ∃ b : Int, (B : Int) = b := ⟨_, rfl⟩
  have a1 : 0 ≤ a := by omega
  have a2 : a ≤ 2147483648 := by omega
  have b1 : 0 ≤ b := by omega
  have b2 : b ≤ 2097151 := by omega
  have q1 : a * a ≤ (N : Int) := by rw [← ea]; exact_mod_cast s1.1
  have q2 : (N : Int) < (a + 1) * (a + 1) := by rw [← ea]; exact_mod_cast s1.2
  have q3 : b * b * b ≤ (N : Int) := by rw [← eb]; exact_mod_cast s3.1
  have q4 : (N : Int) < (b + 1) * (b + 1) * (b + 1) := by rw [← eb]; exact_mod_cast s3.2
  rw [show onOk 0 (A : Int) = a from ea] at Ro
  rw [show onOk 0 (B : Int) = b from eb] at Cu
  clear s1 s2 s3 s4 ea eb
  have m1 := sq_le a1 a2
  have m2 := cu_le b1 (by omega)
  have w1 : IntKind.i64.wrap (a * a) = a * a := IntWalk.i64_in _ (by omega)
  have w2 : IntKind.i64.wrap (b * b) = b * b := IntWalk.i64_in _ (by omega)
  have w3 : IntKind.i64.wrap (b * b * b) = b * b * b := IntWalk.i64_in _ (by omega)
  have t1 : decide (a * a ≤ (N : Int)) = true := decide_eq_true q1
  have t3 : decide (b * b * b ≤ (N : Int)) = true := decide_eq_true q3
  have t5 : decide (a < 0) = false := decide_eq_false (by omega)
  have t6 : decide (2147483648 < a) = false := decide_eq_false (by omega)
  have t7 : decide (b < 0) = false := decide_eq_false (by omega)
  have t8 : decide (2097151 < b) = false := decide_eq_false (by omega)
  have v1 : IntKind.i64.wrap (a + 1) = a + 1 := IntWalk.i64_in _ (by omega)
  have v2 : IntKind.i64.wrap (b + 1) = b + 1 := IntWalk.i64_in _ (by omega)
  clear q1 q3 m1 m2
  by_cases ca : a = 2147483648
  all_goals by_cases cb : b = 2097151
  all_goals
    first
      | (have k1 : (a == 2147483648) = true := by simpa using ca)
      | (have k1 : (a == 2147483648) = false := by simpa using ca
         have m1 := sq_le (x := a + 1) (by omega) (by omega)
         have w4 : IntKind.i64.wrap ((a + 1) * (a + 1)) = (a + 1) * (a + 1) := IntWalk.i64_in _ (by omega)
         have t2 : decide ((N : Int) < (a + 1) * (a + 1)) = true := decide_eq_true q2
         clear m1)
    first
      | (have k2 : (b == 2097151) = true := by simpa using cb)
      | (have k2 : (b == 2097151) = false := by simpa using cb
         have m1 := cu_le (x := b + 1) (by omega) (by omega)
         have m2 := Int.mul_le_mul (Int.mul_le_mul (show b + 1 ≤ 2097151 by omega) (show b + 1 ≤ 2097151 by omega) (by omega) (by omega)) (show b + 1 ≤ 2097151 by omega) (by omega) (by omega)
         have w5 : IntKind.i64.wrap ((b + 1) * (b + 1)) = (b + 1) * (b + 1) := IntWalk.i64_in _ (by omega)
         have w6 : IntKind.i64.wrap ((b + 1) * (b + 1) * (b + 1)) = (b + 1) * (b + 1) * (b + 1) := IntWalk.i64_in _ (by omega)
         have t4 : decide ((N : Int) < (b + 1) * (b + 1) * (b + 1)) = true := decide_eq_true q4
         clear m1 m2)
    clear ca cb q2 q4 a1 a2 b1 b2
    go_enter Tryd.func7, Tryd.ntmps7
    go_wp2_with fail
    refine (Ro.out _).mono ?_
    rintro e w1 ⟨rfl, u1⟩
    have P1 := Lib.hid (P0.out.upd u1 (noB 0))
    have U1 := Lib.hid u1
    clear u1
    go_wp2_with fail
    refine (Cu.out _).mono ?_
    rintro e w2 ⟨rfl, u2⟩
    have P2 := Lib.hid (P1.out.upd u2 (noB 0))
    have U2 := Lib.hid (U1.out.then u2)
    clear u2
    go_wp2_with fail
    refine (awake_any _ P2.out).mono ?_
    rintro e w3 ⟨rfl, u3⟩
    have U3 := Lib.hid (U2.out.then u3)
    clear u3
    go_wp2
    go_ret
    exact ⟨rfl, U3.out⟩

set_option maxRecDepth 100000 in
theorem powers_lifted (os : Os) (started : os.Started) (H : Type) (enc : TypeId × Value → H) :
    ReturnsInHanded {} Tryd.checked os 7 .any (fun w args => (Rows.fixedPowersSpec.pre enc Tryd.prog Tryd.f7 [] false w args ∧ laidMetH Tryd.prog laidL w) ∧ sizedMet enc Tryd.prog Tryd.f7 (OpenSpec.ofChange Rows.fixedPowersSpec) false w args)
      (Rows.fixedPowersSpec.post enc Tryd.prog Tryd.f7 false true false false) := by
  refine returnsInHanded_of_change_and (C := Tryd.checked) (X := fun w _ => laidMetH Tryd.prog laidL w) (fun _ _ _ hh h => h.of_heap hh) own started (by kernel_rfl) Tryd.func7
    (ChangeSpec.witness_shaped (enc := enc) (C := Tryd.checked) (os := os) (X := fun w _ => laidMetH Tryd.prog laidL w) false (World.doorLaid Tryd.prog 400 os) #[.int .i64 0] 8 rfl (World.shaped_of_RefB (by kernel_rfl) (by kernel_rfl)) (by kernel_rfl) (by kernel_rfl) (by kernel_rfl) (door_met os _)) ?_
  intro W base args ds gs before hval0 hW _ _ hL _
  have hval : ∀ (j : Nat) t v, Tryd.f7.params[j]? = some t → args[j]? = some v → Value.okWide Tryd.prog W .any base t v := hval0
  have hW' := hW
  obtain ⟨p, q, hA0, hV, rfl, hfz, hnd⟩ := hW
  have hA : DataW.TrodAll enc Tryd.prog W 0 (fun _ => true) true Tryd.f7.params.toList args.toList ds p := hA0
  rw [Tryd.params7] at hA hval
  obtain ⟨v0, vs0, d0, ds0, p0, q0, hargs, rfl, rfl, h0, r0⟩ := trodAll_cons hA
  obtain ⟨rfl, rfl, rfl⟩ := trodAll_nil r0
  obtain rfl : args = #[v0] := by cases args; simp_all
  obtain ⟨rfl, rfl⟩ := trodVars_none hV
  obtain ⟨n0, rfl, rfl, rfl, w0⟩ := open_int Tryd.underlying3 (hval 0 3 v0 rfl rfl) h0
  have hn0 : -9223372036854775808 ≤ n0 ∧ n0 ≤ 9223372036854775807 := by
    have h1 : IntKind.i64.min = -9223372036854775808 := rfl
    have h2 : IntKind.i64.max = 9223372036854775807 := rfl
    have w := w0
    simp only [Lit.wf, Bool.and_eq_true, decide_eq_true_eq] at w
    omega
  have hP := of_laid hL
  clear hA0 hval0 hL
  refine (powers_any n0 W hP).mono fun e W' ⟨he, u⟩ => ?_
  subst he
  have bel := u.below
  exact ⟨_, rfl, _, _, _, [], _, [], hW', trodAll_mk1 (shut_bool Tryd.underlying4 _), (trodAll_cons_mk (shut_int Tryd.underlying3 w0) trodAll_mk0), rfl, bel.frame _, fun h => by cases h⟩

theorem powers_row : Rows.FixedPowersSaid :=
  OpenClaim.holds_of_wide 7 Tryd.f7 rfl rfl rfl rfl rfl rfl rfl ⟨rfl, rfl, rfl, rfl, rfl⟩ rfl rfl rfl rfl rfl (by kernel_rfl) Tryd.func7 (by kernel_rfl)
    (of_decide_eq_true (by kernel_rfl)) (by unfold Func.isWrapper; first | (rw [if_pos (by decide +kernel)]; kernel_rfl) | (rw [if_neg (by decide +kernel)]; exact ⟨rfl, rfl⟩))
    (fun os started H enc _ => powers_lifted os started H enc)

theorem powers_holds : Rows.FixedPowersCardSaid :=
  Claim7.holds_tied_plain_at .later [] [.data] true Rows.fixedPowersCard.stood.harness false
    powers_row (fun _ h => by cases h) (by kernel_rfl) (fun _ h => by cases h) fixedPowers_row_tie rfl ⟨rfl, rfl⟩ (by kernel_rfl) rfl
    (fun f fn hf hfn => by
      obtain rfl : f = 7 := Option.some.inj ((show Tryd.prog.funcNamed "shawm/shawmlaw03.FixedPowers" = some 7 by kernel_rfl).symm.trans hf) |>.symm
      obtain rfl : fn = Tryd.f7 := (Option.some.inj (Tryd.func7.symm.trans hfn)).symm
      exact ⟨by kernel_rfl, fun j t ht => by
        rw [Tryd.params7] at ht
        have hm : t ∈ [3] := by have := Array.mem_of_getElem? ht; simpa using this
        have hall : ([3].all fun u => !Tryd.prog.wantsStandIn u) = true := by kernel_rfl
        exact (show Tryd.prog.wantsStandIn t = false by simpa using List.all_eq_true.1 hall t hm)⟩)
    (by kernel_rfl)
end Go.Proofs.YthkekpfifgbmiaaDoor
