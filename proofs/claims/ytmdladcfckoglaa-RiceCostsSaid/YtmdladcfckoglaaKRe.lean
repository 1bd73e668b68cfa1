/- rice: the law of Cost, Best and Order -/
import Derived.Test.YtmdladcfckoglaaKQ
import Derived.Test.YtmdladcfckoglaaKS
namespace Go.Proofs.Ytmdladcfckoglaa
open Go.RowKit Go.Shelf

set_option maxRecDepth 100000 in
set_option maxHeartbeats 4000000 in
theorem costs_law (lv : Value) (xs : List Int) (k : Int) (w : World) (h : Ints w lv xs) :
    Calls Try.prog 4 #[lv, .int .i64 k] w fun e w' => e = .returned (.bool true) ∧ Upd NoB w w' := by
  obtain ⟨la, lc', rfl⟩ := h.form
  have hxl := h.1
  have H := Lib.hid h
  obtain ⟨L, hL⟩ : ∃ L, xs.length = L := ⟨_, rfl⟩
  have HL := Lib.hid hL
  rw [hL] at H hxl ⊢
  clear h hL
  by_cases h1 : 9000 < L ∨ (600 < L ∧ L ≤ 8192)
  · have H1 := Lib.hid h1
    by_cases g1 : 600 < L
    · have t1 : decide ((600 : Int) < (L : Int)) = true := decide_eq_true (by omega)
      by_cases g2 : L ≤ 8192
      · have t2 : decide ((L : Int) ≤ 8192) = true := decide_eq_true (by omega)
        clear h1 g1 g2
        go_enter Try.func4, Try.ntmps4
        go_wp2_with (go_at_call 16; refine (kawake_any _).mono ?_; rintro e w' ⟨rfl, u9⟩; have U9 := Lib.hid u9; clear u9)
        go_ret
        exact ⟨rfl, U9.out⟩
      · have t2 : decide ((L : Int) ≤ 8192) = false := decide_eq_false (by omega)
        have t3 : decide ((9000 : Int) < (L : Int)) = true := decide_eq_true (by omega)
        clear h1 g1 g2
        go_enter Try.func4, Try.ntmps4
        go_wp2_with (go_at_call 16; refine (kawake_any _).mono ?_; rintro e w' ⟨rfl, u9⟩; have U9 := Lib.hid u9; clear u9)
        go_ret
        exact ⟨rfl, U9.out⟩
    · omega
  have t3 : decide ((9000 : Int) < (L : Int)) = false := decide_eq_false (by omega)
  have T : decide ((600 : Int) < (L : Int)) = false ∨ (decide ((600 : Int) < (L : Int)) = true ∧ decide ((L : Int) ≤ 8192) = false) := by
    by_cases g1 : 600 < L
    · exact .inr ⟨decide_eq_true (by omega), decide_eq_false (by omega)⟩
    · exact .inl (decide_eq_false (by omega))
  clear h1
  have HC1 := Lib.hid (fun w' (u : Upd NoB w w') => Cost_any _ xs k w' (H.out.later u))
  have HC2 := Lib.hid (fun w' (u : Upd NoB w w') => rCost_any _ xs k w' (H.out.later u))
  have HB1 := Lib.hid (fun w' (u : Upd NoB w w') => Best_any _ xs w' (H.out.later u))
  have HB2 := Lib.hid (fun w' (u : Upd NoB w w') => rBest_any _ xs w' (H.out.later u))
  have HO1 := Lib.hid (fun w' (u : Upd NoB w w') => Order_any _ xs w' (H.out.later u))
  have HO2 := Lib.hid (fun w' (u : Upd NoB w w') => rOrder_any _ xs w' (H.out.later u))
  generalize costS xs k = a1 at *
  generalize costE xs k = a2 at *
  generalize bestK xs = a3 at *
  generalize bestC xs = a4 at *
  generalize ordK xs = a5 at *
  generalize ordC xs = a6 at *
  generalize listE xs = a7 at *
  rcases T with t1 | ⟨t1, t2⟩
  all_goals
    go_enter Try.func4, Try.ntmps4
    go_wp2_with fail
    (with_reducible refine (HC1.out w (Upd.refl _ _)).mono ?_)
    rintro e w1 ⟨rfl, u1⟩
    have U1 := Lib.hid u1; clear u1
    go_wp2_with fail
    (with_reducible refine (HC2.out w1 U1.out).mono ?_)
    rintro e w' ⟨rfl, rfl⟩
    go_wp2_with fail
    (with_reducible refine (HB1.out w1 U1.out).mono ?_)
    rintro e w2 ⟨rfl, u2⟩
    have U2 := Lib.hid (U1.out.then u2); clear u2
    go_wp2_with fail
    (with_reducible refine (HB2.out w2 U2.out).mono ?_)
    rintro e w' ⟨rfl, rfl⟩
    go_wp2_with fail
    (with_reducible refine (HO1.out w2 U2.out).mono ?_)
    rintro e w3 ⟨rfl, u3⟩
    have U3 := Lib.hid (U2.out.then u3); clear u3
    go_wp2_with fail
    (with_reducible refine (HO2.out w3 U3.out).mono ?_)
    rintro e w4 ⟨rfl, u4⟩
    have U4 := Lib.hid (U3.out.then u4); clear u4
    go_wp2_with (go_at_call 16; refine (kawake_any _).mono ?_; rintro e w' ⟨rfl, u9⟩; have U9 := Lib.hid u9; clear u9)
    go_ret
    exact ⟨rfl, U4.out.then U9.out⟩
end Go.Proofs.Ytmdladcfckoglaa
