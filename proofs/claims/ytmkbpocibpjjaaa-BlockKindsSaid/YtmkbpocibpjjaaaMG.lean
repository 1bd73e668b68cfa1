/- block: the law of Either, Kinds, Layout and Laps -/
import Derived.Test.YtmkbpocibpjjaaaMC
import Derived.Test.YtmkbpocibpjjaaaMD
import Derived.Test.YtmkbpocibpjjaaaMF
namespace Go.Proofs.Ytmkbpocibpjjaaa
open Go.RowKit Go.Shelf

set_option maxRecDepth 100000 in
set_option maxHeartbeats 1000000 in
theorem rKinds_any (v : Value) (fs : List Bool) (w : World) (h : Bls w v fs) : Calls Try.prog 23 #[v] w (EInts w (knS fs) (knE fs)) := by
  obtain ⟨a, cap, rfl⟩ := h.form
  by_cases h1 : 64 < fs.length
  · have HS := Lib.hid (show knS fs = [] from if_pos h1)
    have HE := Lib.hid (show knE fs = 2 from if_pos h1)
    rw [HS.out, HE.out]
    obtain ⟨L, hL⟩ : ∃ L, fs.length = L := ⟨_, rfl⟩
    rw [hL] at h1 ⊢
    have t1 : decide ((64 : Int) < (L : Int)) = true := decide_eq_true (by omega)
    clear h h1 hL
    go_enter Try.func23, Try.ntmps23
    go_wp2_with fail
    go_ret2
    exact ⟨none, 0, 0, rfl, World.ownsRow_nil _ _ _ _, Upd.refl _ _⟩
  · have HS := Lib.hid (show knS fs = kds fs from if_neg h1)
    have HE := Lib.hid (show knE fs = 0 from if_neg h1)
    have HK := Lib.hid (rkinds_any _ fs w h (by omega))
    rw [HS.out, HE.out]
    obtain ⟨L, hL⟩ : ∃ L, fs.length = L := ⟨_, rfl⟩
    rw [hL] at h1 HK ⊢
    have t1 : decide ((64 : Int) < (L : Int)) = false := decide_eq_false (by omega)
    clear h h1 hL
    go_enter Try.func23, Try.ntmps23
    go_wp2_with fail
    refine HK.out.mono ?_
    rintro e w2 ⟨v, rfl, hr, hu⟩
    obtain ⟨a2, c2, rfl⟩ := row_form hr
    have HR := Lib.hid hr; have HU := Lib.hid hu
    clear hr hu
    go_wp2_with fail
    go_ret2
    exact ⟨_, _, _, rfl, HR.out, HU.out⟩
theorem knS_len (fs : List Bool) : (knS fs).length ≤ 512 := by
  unfold knS
  split
  · exact Nat.zero_le _
  · rw [kds_length]; omega
theorem eiS_len (fs gs : List Bool) : (eiS fs gs).length ≤ 512 := by
  by_cases h : eiE fs gs = 0
  · unfold eiS; rw [if_pos h, eiL_length]
    unfold eiE at h
    split at h
    · cases h
    · omega
  · rw [eiS_bad rfl h]; exact Nat.zero_le _
theorem loS_len (fs : List Bool) : (loS fs).length ≤ 512 := by
  unfold loS
  split
  · exact Nat.zero_le _
  · have := loL_len fs fs.length; omega
theorem laS_len (fs : List Bool) : (laS fs).length ≤ 512 := by
  unfold laS
  split
  · exact Nat.zero_le _
  · rw [laL_length]; omega
set_option maxRecDepth 100000 in
set_option maxHeartbeats 8000000 in
theorem kinds_law (va vb : Value) (fs gs : List Bool) (w : World) (ha : Bls w va fs) (hb : Bls w vb gs) :
    Calls Try.prog 4 #[va, vb] w fun e w' => e = .returned (.bool true) ∧ Upd NoB w w' := by
  obtain ⟨a, ca, rfl⟩ := ha.form
  obtain ⟨b, cb, rfl⟩ := hb.form
  have HA := Lib.hid ha; have HB := Lib.hid hb
  obtain ⟨L, hL⟩ : ∃ L, fs.length = L := ⟨_, rfl⟩
  obtain ⟨K, hK⟩ : ∃ K, gs.length = K := ⟨_, rfl⟩
  rw [hL] at HA ⊢
  rw [hK] at HB ⊢
  clear ha hb hL hK
  by_cases h1 : 100 < L
  · have t1 : decide ((100 : Int) < (L : Int)) = true := decide_eq_true (by omega)
    clear h1
    go_enter Try.func4, Try.ntmps4
    go_wp2_with (go_at_call 11; refine (awake_any _).mono ?_; rintro e w' ⟨rfl, u9⟩; have U9 := Lib.hid u9; clear u9)
    go_ret
    exact ⟨rfl, U9.out⟩
  have t1 : decide ((100 : Int) < (L : Int)) = false := decide_eq_false (by omega)
  by_cases h2 : 100 < K
  · have t2 : decide ((100 : Int) < (K : Int)) = true := decide_eq_true (by omega)
    clear h1 h2
    go_enter Try.func4, Try.ntmps4
    go_wp2_with (go_at_call 11; refine (awake_any _).mono ?_; rintro e w' ⟨rfl, u9⟩; have U9 := Lib.hid u9; clear u9)
    go_ret
    exact ⟨rfl, U9.out⟩
  have t2 : decide ((100 : Int) < (K : Int)) = false := decide_eq_false (by omega)
  have HE1 := Lib.hid (Either_any (.slice a L ca) (.slice b K cb) fs gs w HA.out HB.out)
  have HE2 := Lib.hid (fun w' (u : Upd NoB w w') => rEither_any (.slice a L ca) (.slice b K cb) fs gs w' (HA.out.later u) (HB.out.later u))
  have HK1 := Lib.hid (fun w' (u : Upd NoB w w') => Kinds_any (.slice a L ca) fs w' (HA.out.later u))
  have HK2 := Lib.hid (fun w' (u : Upd NoB w w') => rKinds_any (.slice a L ca) fs w' (HA.out.later u))
  have HO1 := Lib.hid (fun w' (u : Upd NoB w w') => Layout_any (.slice a L ca) fs w' (HA.out.later u))
  have HO2 := Lib.hid (fun w' (u : Upd NoB w w') => rLayout_any (.slice a L ca) fs w' (HA.out.later u))
  have HP1 := Lib.hid (fun w' (u : Upd NoB w w') => Laps_any (.slice a L ca) fs w' (HA.out.later u))
  have HP2 := Lib.hid (fun w' (u : Upd NoB w w') => rLaps_any (.slice a L ca) fs w' (HA.out.later u))
  have L1 := Lib.hid (eiS_len fs gs); have L2 := Lib.hid (knS_len fs); have L3 := Lib.hid (loS_len fs); have L4 := Lib.hid (laS_len fs)
  generalize eiS fs gs = es at *
  generalize eiE fs gs = e1 at *
  generalize knS fs = ks at *
  generalize knE fs = e2 at *
  generalize loS fs = os at *
  generalize loE fs = e3 at *
  generalize laS fs = ps at *
  generalize laE fs = e4 at *
  clear h1 h2
  go_enter Try.func4, Try.ntmps4
  go_wp2_with fail
  (with_reducible refine HE1.out.mono ?_)
  rintro e w1 ⟨a1, n1, k1, rfl, r1, u1⟩
  obtain rfl := row_len r1
  have R1x1 := Lib.hid (Bls.ofRow r1 (by have := L1.out; omega))
  have U1 := Lib.hid u1
  clear r1 u1 HE1
  go_wp2_with fail
  (with_reducible refine (HE2.out w1 U1.out).mono ?_)
  rintro e w2 ⟨a2, n2, k2, rfl, r2, u2⟩
  obtain rfl := row_len r2
  have R2x2 := Lib.hid (Bls.ofRow r2 (by have := L1.out; omega))
  have R1x2 := Lib.hid (R1x1.out.later u2)
  have U2 := Lib.hid (U1.out.then u2)
  clear r2 u2 R1x1 U1 HE2
  go_wp2_with fail
  (with_reducible refine (HK1.out w2 U2.out).mono ?_)
  rintro e w3 ⟨a3, n3, k3, rfl, r3, u3⟩
  obtain rfl := row_len r3
  have R3x3 := Lib.hid (Ints.ofRow r3 (by have := L2.out; omega))
  have R1x3 := Lib.hid (R1x2.out.later u3)
  have R2x3 := Lib.hid (R2x2.out.later u3)
  have U3 := Lib.hid (U2.out.then u3)
  clear r3 u3 R1x2 R2x2 U2 HK1
  go_wp2_with fail
  (with_reducible refine (HK2.out w3 U3.out).mono ?_)
  rintro e w4 ⟨a4, n4, k4, rfl, r4, u4⟩
  obtain rfl := row_len r4
  have R4x4 := Lib.hid (Ints.ofRow r4 (by have := L2.out; omega))
  have R1x4 := Lib.hid (R1x3.out.later u4)
  have R2x4 := Lib.hid (R2x3.out.later u4)
  have R3x4 := Lib.hid (R3x3.out.later u4)
  have U4 := Lib.hid (U3.out.then u4)
  clear r4 u4 R1x3 R2x3 R3x3 U3 HK2
  go_wp2_with fail
  (with_reducible refine (HO1.out w4 U4.out).mono ?_)
  rintro e w5 ⟨a5, n5, k5, rfl, r5, u5⟩
  obtain rfl := row_len r5
  have R5x5 := Lib.hid (Ints.ofRow r5 (by have := L3.out; omega))
  have R1x5 := Lib.hid (R1x4.out.later u5)
  have R2x5 := Lib.hid (R2x4.out.later u5)
  have R3x5 := Lib.hid (R3x4.out.later u5)
  have R4x5 := Lib.hid (R4x4.out.later u5)
  have U5 := Lib.hid (U4.out.then u5)
  clear r5 u5 R1x4 R2x4 R3x4 R4x4 U4 HO1
  go_wp2_with fail
  (with_reducible refine (HO2.out w5 U5.out).mono ?_)
  rintro e w6 ⟨a6, n6, k6, rfl, r6, u6⟩
  obtain rfl := row_len r6
  have R6x6 := Lib.hid (Ints.ofRow r6 (by have := L3.out; omega))
  have R1x6 := Lib.hid (R1x5.out.later u6)
  have R2x6 := Lib.hid (R2x5.out.later u6)
  have R3x6 := Lib.hid (R3x5.out.later u6)
  have R4x6 := Lib.hid (R4x5.out.later u6)
  have R5x6 := Lib.hid (R5x5.out.later u6)
  have U6 := Lib.hid (U5.out.then u6)
  clear r6 u6 R1x5 R2x5 R3x5 R4x5 R5x5 U5 HO2
  go_wp2_with fail
  (with_reducible refine (HP1.out w6 U6.out).mono ?_)
  rintro e w7 ⟨a7, n7, k7, rfl, r7, u7⟩
  obtain rfl := row_len r7
  have R7x7 := Lib.hid (Ints.ofRow r7 (by have := L4.out; omega))
  have R1x7 := Lib.hid (R1x6.out.later u7)
  have R2x7 := Lib.hid (R2x6.out.later u7)
  have R3x7 := Lib.hid (R3x6.out.later u7)
  have R4x7 := Lib.hid (R4x6.out.later u7)
  have R5x7 := Lib.hid (R5x6.out.later u7)
  have R6x7 := Lib.hid (R6x6.out.later u7)
  have U7 := Lib.hid (U6.out.then u7)
  clear r7 u7 R1x6 R2x6 R3x6 R4x6 R5x6 R6x6 U6 HP1
  go_wp2_with fail
  (with_reducible refine (HP2.out w7 U7.out).mono ?_)
  rintro e w8 ⟨a8, n8, k8, rfl, r8, u8⟩
  obtain rfl := row_len r8
  have R8x8 := Lib.hid (Ints.ofRow r8 (by have := L4.out; omega))
  have R1x8 := Lib.hid (R1x7.out.later u8)
  have R2x8 := Lib.hid (R2x7.out.later u8)
  have R3x8 := Lib.hid (R3x7.out.later u8)
  have R4x8 := Lib.hid (R4x7.out.later u8)
  have R5x8 := Lib.hid (R5x7.out.later u8)
  have R6x8 := Lib.hid (R6x7.out.later u8)
  have R7x8 := Lib.hid (R7x7.out.later u8)
  have U8 := Lib.hid (U7.out.then u8)
  clear r8 u8 R1x7 R2x7 R3x7 R4x7 R5x7 R6x7 R7x7 U7 HP2
  go_wp2_with fail
  refine (rBools_any _ _ es es w8 R1x8.out R2x8.out).mono ?_
  rw [blsB_self]
  rintro e w9 ⟨rfl, m9, rfl⟩
  have R3x9 := Lib.hid (R3x8.out.later (upd_drewN (Upd.refl NoB w8) m9))
  have R4x9 := Lib.hid (R4x8.out.later (upd_drewN (Upd.refl NoB w8) m9))
  have R5x9 := Lib.hid (R5x8.out.later (upd_drewN (Upd.refl NoB w8) m9))
  have R6x9 := Lib.hid (R6x8.out.later (upd_drewN (Upd.refl NoB w8) m9))
  have R7x9 := Lib.hid (R7x8.out.later (upd_drewN (Upd.refl NoB w8) m9))
  have R8x9 := Lib.hid (R8x8.out.later (upd_drewN (Upd.refl NoB w8) m9))
  have U9 := Lib.hid (upd_drewN U8.out m9)
  clear U8 R1x8 R2x8 R3x8 R4x8 R5x8 R6x8 R7x8 R8x8
  generalize w8.drewN m9 = w9 at *
  go_wp2_with fail
  refine (qints_any _ _ ks ks w9 R3x9.out R4x9.out).mono ?_
  rw [intsB_self]
  rintro e w10 ⟨rfl, m10, rfl⟩
  have R5x10 := Lib.hid (R5x9.out.later (upd_drewN (Upd.refl NoB w9) m10))
  have R6x10 := Lib.hid (R6x9.out.later (upd_drewN (Upd.refl NoB w9) m10))
  have R7x10 := Lib.hid (R7x9.out.later (upd_drewN (Upd.refl NoB w9) m10))
  have R8x10 := Lib.hid (R8x9.out.later (upd_drewN (Upd.refl NoB w9) m10))
  have U10 := Lib.hid (upd_drewN U9.out m10)
  clear U9 R3x9 R4x9 R5x9 R6x9 R7x9 R8x9
  generalize w9.drewN m10 = w10 at *
  go_wp2_with fail
  refine (qints_any _ _ os os w10 R5x10.out R6x10.out).mono ?_
  rw [intsB_self]
  rintro e w11 ⟨rfl, m11, rfl⟩
  have R7x11 := Lib.hid (R7x10.out.later (upd_drewN (Upd.refl NoB w10) m11))
  have R8x11 := Lib.hid (R8x10.out.later (upd_drewN (Upd.refl NoB w10) m11))
  have U11 := Lib.hid (upd_drewN U10.out m11)
  clear U10 R5x10 R6x10 R7x10 R8x10
  generalize w10.drewN m11 = w11 at *
  go_wp2_with fail
  refine (qints_any _ _ ps ps w11 R7x11.out R8x11.out).mono ?_
  rw [intsB_self]
  rintro e w12 ⟨rfl, m12, rfl⟩
  have U12 := Lib.hid (upd_drewN U11.out m12)
  clear U11 R7x11 R8x11
  generalize w11.drewN m12 = w12 at *
  go_wp2_with (go_at_call 11; refine (awake_any _).mono ?_; rintro e w' ⟨rfl, u9⟩; have U' := Lib.hid u9; clear u9)
  go_ret
  exact ⟨rfl, U12.out.then U'.out⟩
end Go.Proofs.Ytmkbpocibpjjaaa
