/- b times Floor is at most a, and more than a - b; Round differs from a / b by at most a half; for any numbers. No condition; the variable parts holds what the program's text lays (tied). -/
import Derived.Test.YthkekpfifgbmiaaDoorFrow
namespace Go.Proofs.YthkekpfifgbmiaaDoor
open Go.ChangeShapes Go.WideShapes Go.ChangeAt Go.WideMaps Go.WideElems Go.RowKit

theorem rnd_one {a b : Int} (hb : 1 ≤ b) : (rnd a b = a / b ∧ a - b * (a / b) < b - (a - b * (a / b))) ∨ (rnd a b = a / b + 1 ∧ ¬ a - b * (a / b) < b - (a - b * (a / b))) := by
  have up := rnd_up (a := a) hb
  have dn := rnd_down (a := a) hb
  rw [Int.mul_comm (a / b) b] at up dn
  by_cases h : b - (a - b * (a / b)) ≤ a - b * (a / b)
  · exact .inr ⟨(up h).symm, by omega⟩
  · exact .inl ⟨(dn h).symm, by omega⟩
theorem ediv_60 {a b : Int} (hb : 1 ≤ b) (h1 : -1152921504606846976 ≤ a) (h2 : a ≤ 1152921504606846976) : -1152921504606846976 ≤ a / b ∧ a / b ≤ 1152921504606846976 := by
  have g := mul_ediv_in (a := a) hb
  rcases Int.lt_or_le a 0 with h | h
  · have n1 : a / b < 0 := Int.ediv_neg_of_neg_of_pos h (by omega)
    refine ⟨?_, by omega⟩
    by_cases h' : a.tmod b < 0
    · have e := down_lo h hb h'
      obtain ⟨q, r, e1, e2, x1, x2, x3, x4, x5⟩ := neg_parts h hb
      have : q ≤ b * q := by
        have := Int.mul_le_mul_of_nonneg_right hb x3
        omega
      omega
    · have e := down_eq h hb h'
      obtain ⟨q, r, e1, e2, x1, x2, x3, x4, x5⟩ := neg_parts h hb
      omega
  · exact ⟨by have := Int.ediv_nonneg h (show 0 ≤ b by omega); omega, by have := Int.ediv_le_self b h; omega⟩
set_option maxRecDepth 100000 in
set_option maxHeartbeats 4000000 in
theorem flr_any (a b : Int) (w : World) (hp : Parts w) : Calls Tryd.prog 10 #[.int .i64 a, .int .i64 b] w fun e w' => e = .returned (.bool true) ∧ Upd NoB w w' := by
  have P0 := Lib.hid hp; clear hp
  have fl := Floor_any a b
  have ro := Round_any a b
  rcases ratE_cases a b with ⟨h, e⟩ | ⟨h1, h, e⟩ | ⟨h1, h2, h, e⟩ | ⟨h1, h2, h3, h, e⟩ | ⟨h1, h2, h3, h4, e⟩
  iterate 4
    · rw [e] at fl ro
      have Fl := Lib.hid fl; have Ro := Lib.hid ro; clear fl ro e
      go_enter Tryd.func10, Tryd.ntmps10
      go_wp2_with fail
      refine (Fl.out _).mono ?_
      rintro e w' ⟨rfl, rfl⟩
      go_wp2_with fail
      refine (Ro.out _).mono ?_
      rintro e w' ⟨rfl, rfl⟩
      go_wp2_with fail
      refine (awake_any _ P0.out).mono ?_
      rintro e w1 ⟨rfl, u⟩
      have U := Lib.hid u; clear u
      go_wp2
      go_ret
      exact ⟨rfl, U.out⟩
  · rw [e] at fl ro
    have Fl := Lib.hid fl; have Ro := Lib.hid ro; clear fl ro e
    have hb : 1 ≤ b := by omega
    have g := mul_ediv_in (a := a) hb
    have x6 := ediv_60 (a := a) hb (by omega) (by omega)
    have rr := rnd_one (a := a) hb
    obtain ⟨x, hx⟩ : ∃ x, a / b = x := ⟨_, rfl⟩
    obtain ⟨y, hy⟩ : ∃ y, rnd a b = y := ⟨_, rfl⟩
    rw [hx] at g x6 rr
    rw [hy] at rr
    rw [show onOk 0 (a / b) = x from hx] at Fl
    rw [show onOk 0 (rnd a b) = y from hy] at Ro
    clear hx hy
    obtain ⟨z, hz⟩ : ∃ z, b * x = z := ⟨_, rfl⟩
    rw [hz] at g rr
    have w1 : IntKind.i64.wrap (b * x) = z := by rw [hz]; exact IntWalk.i64_in _ (by omega)
    have w1' : wrap64 (b * x) = z := by rw [hz]; exact IntWalk.wrap64_in _ (by omega)
    clear hz
    obtain ⟨r, hr⟩ : ∃ r, a - z = r := ⟨_, rfl⟩
    have w2 : IntKind.i64.wrap (a - z) = r := by rw [hr]; exact IntWalk.i64_in _ (by omega)
    have w2' : wrap64 (a - z) = r := by rw [hr]; exact IntWalk.wrap64_in _ (by omega)
    rw [hr] at rr
    have w3 : IntKind.i64.wrap (b - r) = b - r := IntWalk.i64_in _ (by omega)
    have w4 : IntKind.i64.wrap (x + 1) = x + 1 := IntWalk.i64_in _ (by omega)
    have t1 : decide (x < -1152921504606846976) = false := decide_eq_false (by omega)
    have t2 : decide (1152921504606846976 < x) = false := decide_eq_false (by omega)
    have t3 : decide (y < x) = false := decide_eq_false (by omega)
    have t4 : decide (x + 1 < y) = false := decide_eq_false (by omega)
    have t5 : decide (0 ≤ r) = true := decide_eq_true (by omega)
    have t6 : decide (r < b) = true := decide_eq_true (by omega)
    have s1 : decide (b < 1) = false := decide_eq_false h1
    have s2 : decide (1099511627776 < b) = false := decide_eq_false h2
    have s3 : decide (a < -1152921504606846976) = false := decide_eq_false h3
    have s4 : decide (1152921504606846976 < a) = false := decide_eq_false h4
    have key : ∃ k : Bool, (y == x) = k ∧ decide (r < b - r) = k := by
      rcases rr with ⟨r1, r2⟩ | ⟨r1, r2⟩
      · exact ⟨true, by simpa using r1, decide_eq_true r2⟩
      · exact ⟨false, by simp; omega, decide_eq_false r2⟩
    obtain ⟨k, k1, k2⟩ := key
    clear rr g x6 hr h1 h2 h3 h4 hb
    cases k
    all_goals
      go_enter Tryd.func10, Tryd.ntmps10
      go_wp2_with fail
      refine (Fl.out _).mono ?_
      rintro e w' ⟨rfl, rfl⟩
      go_wp2_with fail
      refine (Ro.out _).mono ?_
      rintro e w' ⟨rfl, rfl⟩
      go_wp2_with fail
      refine (awake_any _ P0.out).mono ?_
      rintro e w1 ⟨rfl, u⟩
      have U := Lib.hid u; clear u
      go_wp2
      go_ret
      exact ⟨rfl, U.out⟩

set_option maxRecDepth 100000 in
theorem flr_lifted (os : Os) (started : os.Started) (H : Type) (enc : TypeId × Value → H) :
    ReturnsInHanded {} Tryd.checked os 10 .any (fun w args => (Rows.fixedFloorSpec.pre enc Tryd.prog Tryd.f10 [] false w args ∧ laidMetH Tryd.prog laidL w) ∧ sizedMet enc Tryd.prog Tryd.f10 (OpenSpec.ofChange Rows.fixedFloorSpec) false w args)
      (Rows.fixedFloorSpec.post enc Tryd.prog Tryd.f10 false true false false) := by
  refine returnsInHanded_of_change_and (C := Tryd.checked) (X := fun w _ => laidMetH Tryd.prog laidL w) (fun _ _ _ hh h => h.of_heap hh) own started (by kernel_rfl) Tryd.func10
    (ChangeSpec.witness_shaped (enc := enc) (C := Tryd.checked) (os := os) (X := fun w _ => laidMetH Tryd.prog laidL w) false (World.doorLaid Tryd.prog 400 os) #[.int .i64 0, .int .i64 0] 8 rfl (World.shaped_of_RefB (by kernel_rfl) (by kernel_rfl)) (by kernel_rfl) (by kernel_rfl) (by kernel_rfl) (door_met os _)) ?_
  intro W base args ds gs before hval0 hW _ _ hL _
  have hval : ∀ (j : Nat) t v, Tryd.f10.params[j]? = some t → args[j]? = some v → Value.okWide Tryd.prog W .any base t v := hval0
  have hW' := hW
  obtain ⟨p, q, hA0, hV, rfl, hfz, hnd⟩ := hW
  have hA : DataW.TrodAll enc Tryd.prog W 0 (fun _ => true) true Tryd.f10.params.toList args.toList ds p := hA0
  rw [Tryd.params10] at hA hval
  obtain ⟨v0, vs0, d0, ds0, p0, q0, hargs, rfl, rfl, h0, r0⟩ := trodAll_cons hA
  obtain ⟨v1, vs1, d1, ds1, p1, q1, rfl, rfl, rfl, h1, r1⟩ := trodAll_cons r0
  obtain ⟨rfl, rfl, rfl⟩ := trodAll_nil r1
  obtain rfl : args = #[v0, v1] := by cases args; simp_all
  obtain ⟨rfl, rfl⟩ := trodVars_none hV
  obtain ⟨n0, rfl, rfl, rfl, w0⟩ := open_int Tryd.underlying3 (hval 0 3 v0 rfl rfl) h0
  have hn0 : -9223372036854775808 ≤ n0 ∧ n0 ≤ 9223372036854775807 := by
    have h1 : IntKind.i64.min = -9223372036854775808 := rfl
    have h2 : IntKind.i64.max = 9223372036854775807 := rfl
    have w := w0
    simp only [Lit.wf, Bool.and_eq_true, decide_eq_true_eq] at w
    omega
  obtain ⟨n1, rfl, rfl, rfl, w1⟩ := open_int Tryd.underlying3 (hval 1 3 v1 rfl rfl) h1
  have hn1 : -9223372036854775808 ≤ n1 ∧ n1 ≤ 9223372036854775807 := by
    have h1 : IntKind.i64.min = -9223372036854775808 := rfl
    have h2 : IntKind.i64.max = 9223372036854775807 := rfl
    have w := w1
    simp only [Lit.wf, Bool.and_eq_true, decide_eq_true_eq] at w
    omega
  have hP := of_laid hL
  clear hA0 hval0 hL
  refine (flr_any n0 n1 W hP).mono fun e W' ⟨he, u⟩ => ?_
  subst he
  have bel := u.below
  exact ⟨_, rfl, _, _, _, [], _, [], hW', trodAll_mk1 (shut_bool Tryd.underlying4 _), (trodAll_cons_mk (shut_int Tryd.underlying3 w0) (trodAll_cons_mk (shut_int Tryd.underlying3 w1) trodAll_mk0)), rfl, bel.frame _, fun h => by cases h⟩

theorem flr_row : Rows.FixedFloorSaid :=
  OpenClaim.holds_of_wide 10 Tryd.f10 rfl rfl rfl rfl rfl rfl rfl ⟨rfl, rfl, rfl, rfl, rfl⟩ rfl rfl rfl rfl rfl (by kernel_rfl) Tryd.func10 (by kernel_rfl)
    (of_decide_eq_true (by kernel_rfl)) (by unfold Func.isWrapper; first | (rw [if_pos (by decide +kernel)]; kernel_rfl) | (rw [if_neg (by decide +kernel)]; exact ⟨rfl, rfl⟩))
    (fun os started H enc _ => flr_lifted os started H enc)

theorem flr_holds : Rows.FixedFloorCardSaid :=
  Claim7.holds_tied_plain_at .later [] [.data] true Rows.fixedFloorCard.stood.harness false
    flr_row (fun _ h => by cases h) (by kernel_rfl) (fun _ h => by cases h) fixedFloor_row_tie rfl ⟨rfl, rfl⟩ (by kernel_rfl) rfl
    (fun f fn hf hfn => by
      obtain rfl : f = 10 := Option.some.inj ((show Tryd.prog.funcNamed "shawm/shawmlaw03.FixedFloor" = some 10 by kernel_rfl).symm.trans hf) |>.symm
      obtain rfl : fn = Tryd.f10 := (Option.some.inj (Tryd.func10.symm.trans hfn)).symm
      exact ⟨by kernel_rfl, fun j t ht => by
        rw [Tryd.params10] at ht
        have hm : t ∈ [3] := by have := Array.mem_of_getElem? ht; simpa using this
        have hall : ([3].all fun u => !Tryd.prog.wantsStandIn u) = true := by kernel_rfl
        exact (show Tryd.prog.wantsStandIn t = false by simpa using List.all_eq_true.1 hall t hm)⟩)
    (by kernel_rfl)
end Go.Proofs.YthkekpfifgbmiaaDoor
