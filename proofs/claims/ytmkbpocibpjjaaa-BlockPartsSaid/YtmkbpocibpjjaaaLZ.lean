/- block: the law of Parts, Attacks and Flags -/
import Derived.Test.YtmkbpocibpjjaaaLY
namespace Go.Proofs.Ytmkbpocibpjjaaa
open Go.RowKit Go.Shelf

theorem paS_len (xs : List Int) : (paS xs).length ≤ 512 := by
  by_cases h0 : ckE xs = 0
  · obtain ⟨_, g2, _⟩ := ckE_ok h0
    rw [show paS xs = ens xs from if_pos h0, ens_length]; omega
  · rw [show paS xs = [] from if_neg h0]; exact Nat.zero_le _
theorem atS_len (xs : List Int) : (atS xs).length ≤ 512 := by
  by_cases h0 : ckE xs = 0
  · have := attL_le (ens xs) (ens xs).length
    have := (ens_ok h0).1
    rw [show atS xs = attL (ens xs) (ens xs).length from if_pos h0]; omega
  · rw [show atS xs = [] from if_neg h0]; exact Nat.zero_le _
theorem flS_len (xs : List Int) : (flS xs).length ≤ 512 := by
  by_cases h0 : ckE xs = 0
  · obtain ⟨_, g2, _⟩ := ckE_ok h0
    rw [show flS xs = stF (ens xs) (xs.length / 128) (xs.length / 128) from if_pos h0, stF_length]; omega
  · rw [show flS xs = [] from if_neg h0]; exact Nat.zero_le _
set_option maxRecDepth 100000 in
set_option maxHeartbeats 4000000 in
theorem parts_law (v : Value) (xs : List Int) (w : World) (h : Ints w v xs) :
    Calls Try.prog 3 #[v] w fun e w' => e = .returned (.bool true) ∧ Upd NoB w w' := by
  obtain ⟨a, cap, rfl⟩ := h.form
  have H := Lib.hid h
  obtain ⟨L, hL⟩ : ∃ L, xs.length = L := ⟨_, rfl⟩
  rw [hL] at H ⊢
  clear h hL
  by_cases h1 : 9000 < L
  · have t1 : decide ((9000 : Int) < (L : Int)) = true := decide_eq_true (by omega)
    clear h1
    go_enter Try.func3, Try.ntmps3
    go_wp2_with (go_at_call 11; refine (awake_any _).mono ?_; rintro e w' ⟨rfl, u9⟩; have U9 := Lib.hid u9; clear u9)
    go_ret
    exact ⟨rfl, U9.out⟩
  have t1 : decide ((9000 : Int) < (L : Int)) = false := decide_eq_false (by omega)
  have HP1 := Lib.hid (Parts_any (.slice a L cap) xs w H.out)
  have HP2 := Lib.hid (fun w' (u : Upd NoB w w') => rParts_any (.slice a L cap) xs w' (H.out.later u))
  have HA1 := Lib.hid (fun w' (u : Upd NoB w w') => Attacks_any (.slice a L cap) xs w' (H.out.later u))
  have HA2 := Lib.hid (fun w' (u : Upd NoB w w') => rAttacks_any (.slice a L cap) xs w' (H.out.later u))
  have HF1 := Lib.hid (fun w' (u : Upd NoB w w') => Flags_any (.slice a L cap) xs w' (H.out.later u))
  have HF2 := Lib.hid (fun w' (u : Upd NoB w w') => rFlags_any (.slice a L cap) xs w' (H.out.later u))
  have L1 := Lib.hid (paS_len xs); have L2 := Lib.hid (atS_len xs); have L3 := Lib.hid (flS_len xs)
  generalize paS xs = ps at *
  generalize atS xs = al at *
  generalize flS xs = fs at *
  generalize ckE xs = E at *
  clear h1
  go_enter Try.func3, Try.ntmps3
  go_wp2_with fail
  (with_reducible refine HP1.out.mono ?_)
  rintro e w1 ⟨a1, n1, k1, rfl, r1, u1⟩
  obtain rfl := row_len r1
  have P1 := Lib.hid (Ints.ofRow r1 (by have := L1.out; omega)); have U1 := Lib.hid u1
  clear r1 u1
  go_wp2_with fail
  (with_reducible refine (HP2.out w1 U1.out).mono ?_)
  rintro e w2 ⟨a2, n2, k2, rfl, r2, u2⟩
  obtain rfl := row_len r2
  have Q2 := Lib.hid (Ints.ofRow r2 (by have := L1.out; omega)); have P2 := Lib.hid (P1.out.later u2); have U2 := Lib.hid (U1.out.then u2)
  clear r2 u2 P1 U1
  go_wp2_with fail
  (with_reducible refine (HA1.out w2 U2.out).mono ?_)
  rintro e w3 ⟨a3, n3, k3, rfl, r3, u3⟩
  obtain rfl := row_len r3
  have A3 := Lib.hid (Ints.ofRow r3 (by have := L2.out; omega)); have P3 := Lib.hid (P2.out.later u3); have Q3 := Lib.hid (Q2.out.later u3); have U3 := Lib.hid (U2.out.then u3)
  clear r3 u3 P2 Q2 U2
  go_wp2_with fail
  (with_reducible refine (HA2.out w3 U3.out).mono ?_)
  rintro e w4 ⟨a4, n4, k4, rfl, r4, u4⟩
  obtain rfl := row_len r4
  have B4 := Lib.hid (Ints.ofRow r4 (by have := L2.out; omega)); have A4 := Lib.hid (A3.out.later u4); have P4 := Lib.hid (P3.out.later u4); have Q4 := Lib.hid (Q3.out.later u4); have U4 := Lib.hid (U3.out.then u4)
  clear r4 u4 A3 P3 Q3 U3
  go_wp2_with fail
  (with_reducible refine (HF1.out w4 U4.out).mono ?_)
  rintro e w5 ⟨a5, n5, k5, rfl, r5, u5⟩
  obtain rfl := row_len r5
  have F5 := Lib.hid (Bls.ofRow r5 (by have := L3.out; omega)); have B5 := Lib.hid (B4.out.later u5); have A5 := Lib.hid (A4.out.later u5); have P5 := Lib.hid (P4.out.later u5); have Q5 := Lib.hid (Q4.out.later u5); have U5 := Lib.hid (U4.out.then u5)
  clear r5 u5 B4 A4 P4 Q4 U4
  go_wp2_with fail
  (with_reducible refine (HF2.out w5 U5.out).mono ?_)
  rintro e w6 ⟨a6, n6, k6, rfl, r6, u6⟩
  obtain rfl := row_len r6
  have G6 := Lib.hid (Bls.ofRow r6 (by have := L3.out; omega)); have F6 := Lib.hid (F5.out.later u6); have B6 := Lib.hid (B5.out.later u6); have A6 := Lib.hid (A5.out.later u6); have P6 := Lib.hid (P5.out.later u6); have Q6 := Lib.hid (Q5.out.later u6); have U6 := Lib.hid (U5.out.then u6)
  clear r6 u6 F5 B5 A5 P5 Q5 U5
  go_wp2_with fail
  refine (qints_any _ _ ps ps w6 P6.out Q6.out).mono ?_
  rw [intsB_self]
  rintro e w7 ⟨rfl, n7, rfl⟩
  have G7 := Lib.hid (G6.out.later (upd_drewN (Upd.refl NoB w6) n7)); have F7 := Lib.hid (F6.out.later (upd_drewN (Upd.refl NoB w6) n7)); have B7 := Lib.hid (B6.out.later (upd_drewN (Upd.refl NoB w6) n7)); have A7 := Lib.hid (A6.out.later (upd_drewN (Upd.refl NoB w6) n7)); have U7 := Lib.hid (upd_drewN U6.out n7)
  clear G6 F6 B6 A6 P6 Q6 U6
  generalize w6.drewN n7 = w7 at *
  go_wp2_with fail
  refine (qints_any _ _ al al w7 A7.out B7.out).mono ?_
  rw [intsB_self]
  rintro e w8 ⟨rfl, n8, rfl⟩
  have G8 := Lib.hid (G7.out.later (upd_drewN (Upd.refl NoB w7) n8)); have F8 := Lib.hid (F7.out.later (upd_drewN (Upd.refl NoB w7) n8)); have U8 := Lib.hid (upd_drewN U7.out n8)
  clear G7 F7 B7 A7 U7
  generalize w7.drewN n8 = w8 at *
  go_wp2_with fail
  refine (rBools_any _ _ fs fs w8 F8.out G8.out).mono ?_
  rw [blsB_self]
  rintro e w9 ⟨rfl, n9, rfl⟩
  have U9' := Lib.hid (upd_drewN U8.out n9)
  clear G8 F8 U8
  generalize w8.drewN n9 = w9 at *
  go_wp2_with (go_at_call 11; refine (awake_any _).mono ?_; rintro e w' ⟨rfl, u9⟩; have U9 := Lib.hid u9; clear u9)
  go_ret
  exact ⟨rfl, U9'.out.then U9.out⟩
end Go.Proofs.Ytmkbpocibpjjaaa
