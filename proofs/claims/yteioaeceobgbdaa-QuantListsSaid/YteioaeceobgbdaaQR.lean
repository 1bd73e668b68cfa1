/- quant: the law Odd -/
import Derived.Test.YteioaeceobgbdaaQQ
namespace Go.Proofs.Yteioaeceobgbdaa
open Go.RowKit Go.Shelf

def Va (q s : Int) : Int := if eV q s = 0 then sgV s.toNat q else 0
def Qa (c s : Int) : Int := if eQ c s = 0 then sgQ s.toNat c else 0
theorem eV_ok {q s : Int} (h : eV q s = 0) : (0 ≤ s ∧ s ≤ 95) ∧ (-1023 ≤ q ∧ q ≤ 1023) := by
  unfold eV at h
  split at h
  · rename_i h1
    split at h
    · rename_i h2; exact ⟨h1, h2⟩
    · cases h
  · cases h
theorem eQ_ok {c s : Int} (h : eQ c s = 0) : (0 ≤ s ∧ s ≤ 95) ∧ (-2097152 ≤ c ∧ c ≤ 2097152) := by
  unfold eQ at h
  split at h
  · rename_i h1
    split at h
    · rename_i h2; exact ⟨h1, h2⟩
    · cases h
  · cases h
theorem eV_neg (q s : Int) : eV (-q) s = eV q s := by
  unfold eV
  by_cases h : 0 ≤ s ∧ s ≤ 95
  · rw [if_pos h, if_pos h]
    by_cases h2 : -1023 ≤ q ∧ q ≤ 1023
    · rw [if_pos h2, if_pos (by omega)]
    · rw [if_neg h2, if_neg (by omega)]
  · rw [if_neg h, if_neg h]
theorem eQ_neg (q s : Int) : eQ (-q) s = eQ q s := by
  unfold eQ
  by_cases h : 0 ≤ s ∧ s ≤ 95
  · rw [if_pos h, if_pos h]
    by_cases h2 : -2097152 ≤ q ∧ q ≤ 2097152
    · rw [if_pos h2, if_pos (by omega)]
    · rw [if_neg h2, if_neg (by omega)]
  · rw [if_neg h, if_neg h]
theorem sgV_neg (s : Nat) (q : Int) : sgV s (-q) = -(sgV s q) := by
  unfold sgV
  rw [Int.natAbs_neg]
  rcases Int.lt_trichotomy q 0 with h | rfl | h
  · rw [if_neg (by omega), if_pos h]; omega
  · rw [show (0 : Int).natAbs = 0 from rfl, vlN_zero]; rfl
  · rw [if_pos (by omega), if_neg (by omega)]
theorem qtN_zero (s : Nat) : qtN s 0 = 0 := by
  have h : fsN s 0 = 0 := fsN_is (by omega) (fun j hj => by omega) (fun _ => by rw [vlN_zero]; decide)
  unfold qtN
  rw [h, if_neg (by omega)]
theorem sgQ_neg (s : Nat) (c : Int) : sgQ s (-c) = -(sgQ s c) := by
  unfold sgQ
  rw [Int.natAbs_neg]
  rcases Int.lt_trichotomy c 0 with h | rfl | h
  · rw [if_neg (by omega), if_pos h]; omega
  · rw [show (((0 : Int).natAbs : Nat) : Int) = 0 from rfl, qtN_zero]; rfl
  · rw [if_pos (by omega), if_neg (by omega)]
theorem Va_neg (q s : Int) : Va (-q) s = -(Va q s) := by
  unfold Va
  rw [eV_neg, sgV_neg]
  split <;> simp
theorem Qa_neg (q s : Int) : Qa (-q) s = -(Qa q s) := by
  unfold Qa
  rw [eQ_neg, sgQ_neg]
  split <;> simp
theorem sgV_bd {s : Nat} {q : Int} (hs : s ≤ 95) (hq : -1023 ≤ q ∧ q ≤ 1023) : -2097152 ≤ sgV s q ∧ sgV s q ≤ 2097152 := by
  have := vlN_in hs (show q.natAbs ≤ 1023 by omega)
  unfold sgV
  split <;> omega
theorem Va_bd (q s : Int) : -2097152 ≤ Va q s ∧ Va q s ≤ 2097152 := by
  unfold Va
  split
  · rename_i h
    obtain ⟨h1, h2⟩ := eV_ok h
    exact sgV_bd (by omega) h2
  · decide
theorem sgQ_bd (s : Nat) (c : Int) : -1023 ≤ sgQ s c ∧ sgQ s c ≤ 1023 := by
  have := qtN_le s (c.natAbs : Nat)
  unfold sgQ
  split <;> omega
theorem Qa_bd (q s : Int) : -1023 ≤ Qa q s ∧ Qa q s ≤ 1023 := by
  unfold Qa
  split
  · exact sgQ_bd _ _
  · decide
theorem od_v : lV [-2, -1, 0, 1, 2] 0 = [-3, -1, 0, 1, 3] ∧ ckS 1023 [-2, -1, 0, 1, 2] 0 = 0 := by decide +kernel
theorem od_n : nV [-1, 0, 1] 0 = 0 ∧ ckS 2097152 [-1, 0, 1] 0 = 0 := by decide +kernel
set_option maxRecDepth 100000 in
set_option maxHeartbeats 8000000 in
theorem odd_qu (q c s : Int) (w : World) : Calls Try.prog 8 #[.int .i64 q, .int .i64 c, .int .i64 s] w fun e w' => e = .returned (.bool true) ∧ Upd NoB w w' := by
  by_cases h0 : q < -1023
  · have t0 : decide (q < -1023) = true := decide_eq_true h0
    clear h0
    go_enter Try.func8, Try.ntmps8
    go_wp2_with fail
    refine (awake_qu _).mono ?_
    rintro e w1 ⟨rfl, u1⟩
    have UU1 := Lib.hid ((Upd.refl NoB w).then u1)
    clear u1
    go_wp2_with fail
    go_ret
    exact ⟨rfl, UU1.out⟩
  have t0 : decide (q < -1023) = false := decide_eq_false h0
  by_cases h1 : 1023 < q
  · have t1 : decide (1023 < q) = true := decide_eq_true h1
    clear h0 h1
    go_enter Try.func8, Try.ntmps8
    go_wp2_with fail
    refine (awake_qu _).mono ?_
    rintro e w1 ⟨rfl, u1⟩
    have UU1 := Lib.hid ((Upd.refl NoB w).then u1)
    clear u1
    go_wp2_with fail
    go_ret
    exact ⟨rfl, UU1.out⟩
  have t1 : decide (1023 < q) = false := decide_eq_false h1
  by_cases h2 : c < -2097152
  · have t2 : decide (c < -2097152) = true := decide_eq_true h2
    clear h0 h1 h2
    go_enter Try.func8, Try.ntmps8
    go_wp2_with fail
    refine (awake_qu _).mono ?_
    rintro e w1 ⟨rfl, u1⟩
    have UU1 := Lib.hid ((Upd.refl NoB w).then u1)
    clear u1
    go_wp2_with fail
    go_ret
    exact ⟨rfl, UU1.out⟩
  have t2 : decide (c < -2097152) = false := decide_eq_false h2
  by_cases h3 : 2097152 < c
  · have t3 : decide (2097152 < c) = true := decide_eq_true h3
    clear h0 h1 h2 h3
    go_enter Try.func8, Try.ntmps8
    go_wp2_with fail
    refine (awake_qu _).mono ?_
    rintro e w1 ⟨rfl, u1⟩
    have UU1 := Lib.hid ((Upd.refl NoB w).then u1)
    clear u1
    go_wp2_with fail
    go_ret
    exact ⟨rfl, UU1.out⟩
  have t3 : decide (2097152 < c) = false := decide_eq_false h3
  have HV1 := Lib.hid (fun W => (show Calls Try.prog 15 #[.int .i64 q, .int .i64 s] W fun e w' => e = .returned (.tuple #[.int .i64 (Va q s), .int .i64 (eV q s)]) ∧ Upd NoB W w' from pV_any q s W))
  have HV2 := Lib.hid (fun W => (show Calls Try.prog 15 #[.int .i64 (-q), .int .i64 s] W fun e w' => e = .returned (.tuple #[.int .i64 (Va (-q) s), .int .i64 (eV (-q) s)]) ∧ Upd NoB W w' from pV_any (-q) s W))
  have HQ1 := Lib.hid (fun W => (show Calls Try.prog 17 #[.int .i64 c, .int .i64 s] W fun e w' => e = .returned (.tuple #[.int .i64 (Qa c s), .int .i64 (eQ c s)]) ∧ Upd NoB W w' from pQ_any c s W))
  have HQ2 := Lib.hid (fun W => (show Calls Try.prog 17 #[.int .i64 (-c), .int .i64 s] W fun e w' => e = .returned (.tuple #[.int .i64 (Qa (-c) s), .int .i64 (eQ (-c) s)]) ∧ Upd NoB W w' from pQ_any (-c) s W))
  rw [Va_neg, eV_neg] at HV2
  rw [Qa_neg, eQ_neg] at HQ2
  have b1 := Va_bd q s
  have b2 := Qa_bd c s
  generalize Va q s = A at *
  generalize Qa c s = B at *
  generalize eV q s = E at *
  generalize eQ c s = F at *
  have z1 : wrap64 (-q) = -q := IntWalk.wrap64_in _ (by omega)
  have z2 : IntKind.i64.wrap (-q) = -q := IntWalk.i64_in _ (by clear z1; omega)
  have z3 : wrap64 (-c) = -c := IntWalk.wrap64_in _ (by clear z1 z2; omega)
  have z4 : IntKind.i64.wrap (-c) = -c := IntWalk.i64_in _ (by clear z1 z2 z3; omega)
  have z5 : wrap64 (-(-A)) = A := by rw [Int.neg_neg]; exact IntWalk.wrap64_in _ (by clear z1 z2 z3 z4; omega)
  have z6 : IntKind.i64.wrap (-(-A)) = A := by rw [Int.neg_neg]; exact IntWalk.i64_in _ (by clear z1 z2 z3 z4 z5; omega)
  have z7 : wrap64 (-(-B)) = B := by rw [Int.neg_neg]; exact IntWalk.wrap64_in _ (by clear z1 z2 z3 z4 z5 z6; omega)
  have z8 : IntKind.i64.wrap (-(-B)) = B := by rw [Int.neg_neg]; exact IntWalk.i64_in _ (by clear z1 z2 z3 z4 z5 z6 z7; omega)
  obtain ⟨NA, hNA⟩ : ∃ N, -A = N := ⟨_, rfl⟩
  obtain ⟨NB, hNB⟩ : ∃ N, -B = N := ⟨_, rfl⟩
  rw [hNA] at z5 z6 HV2
  rw [hNB] at z7 z8 HQ2
  clear h0 h1 h2 h3 b1 b2 hNA hNB
  go_enter Try.func8, Try.ntmps8
  go_wp2_with fail
  refine (HV1.out _).mono ?_
  rintro e w1 ⟨rfl, u1⟩
  have UU1 := Lib.hid ((Upd.refl NoB w).then u1)
  clear u1
  go_wp2_with fail
  refine (HV2.out _).mono ?_
  rintro e w2 ⟨rfl, u2⟩
  have UU2 := Lib.hid (UU1.out.then u2)
  clear UU1
  clear u2
  go_wp2_with fail
  refine (HQ1.out _).mono ?_
  rintro e w3 ⟨rfl, u3⟩
  have UU3 := Lib.hid (UU2.out.then u3)
  clear UU2
  clear u3
  go_wp2_with fail
  refine (HQ2.out _).mono ?_
  rintro e w4 ⟨rfl, u4⟩
  have UU4 := Lib.hid (UU3.out.then u4)
  clear UU3
  clear u4
  go_wp2_with fail
  have y5 : Upd NoB w4 (w4.alloc (.cells (i64s [-2, -1, 0, 1, 2]).toArray 3)) := (Upd.refl _ _).alloc _
  have Lt5 := Lib.hid (show Ints (w4.alloc (.cells (i64s [-2, -1, 0, 1, 2]).toArray 3)) (.slice (some ⟨w4.heap.size, 0, none⟩) 5 5) [-2, -1, 0, 1, 2] from Ints.ofBlock (xs := [-2, -1, 0, 1, 2]) (by decide) (heap_alloc_new w4 _))
  have UU5 := Lib.hid (UU4.out.then y5)
  clear UU4
  clear y5
  refine (pVs_any _ [-2, -1, 0, 1, 2] 0 _ Lt5.out).mono ?_
  rw [od_v.1, od_v.2]
  intro e w6 hr
  obtain ⟨a6, c6, rfl, i6, u6⟩ := EInts.open hr (by decide)
  clear Lt5
  have UU6 := Lib.hid (UU5.out.then u6)
  clear UU5
  have VS6 := Lib.hid (i6)
  clear hr i6 u6
  go_wp2_with fail
  have y7 : Upd NoB w6 (w6.alloc (.cells (i64s [-1, 0, 1]).toArray 3)) := (Upd.refl _ _).alloc _
  have Lt7 := Lib.hid (show Ints (w6.alloc (.cells (i64s [-1, 0, 1]).toArray 3)) (.slice (some ⟨w6.heap.size, 0, none⟩) 3 3) [-1, 0, 1] from Ints.ofBlock (xs := [-1, 0, 1]) (by decide) (heap_alloc_new w6 _))
  have VS7 := Lib.hid (VS6.out.later y7)
  clear VS6
  have UU7 := Lib.hid (UU6.out.then y7)
  clear UU6
  clear y7
  refine (Noise_any _ [-1, 0, 1] 0 _ Lt7.out).mono ?_
  rw [od_n.1, od_n.2]
  rintro e w8 ⟨rfl, u8⟩
  have VS8 := Lib.hid (VS7.out.later u8)
  clear VS7
  clear Lt7
  have UU8 := Lib.hid (UU7.out.then u8)
  clear UU7
  clear u8
  go_wp2_with fail
  have y9 : Upd NoB w8 (w8.alloc (.cells (i64s [-3, -1, 0, 1, 3]).toArray 3)) := (Upd.refl _ _).alloc _
  have Lt9 := Lib.hid (show Ints (w8.alloc (.cells (i64s [-3, -1, 0, 1, 3]).toArray 3)) (.slice (some ⟨w8.heap.size, 0, none⟩) 5 5) [-3, -1, 0, 1, 3] from Ints.ofBlock (xs := [-3, -1, 0, 1, 3]) (by decide) (heap_alloc_new w8 _))
  have VS9 := Lib.hid (VS8.out.later y9)
  clear VS8
  have UU9 := Lib.hid (UU8.out.then y9)
  clear UU8
  clear y9
  refine (qints_any _ _ [-3, -1, 0, 1, 3] [-3, -1, 0, 1, 3] _ VS9.out Lt9.out).mono ?_
  rw [intsB_self]
  rintro e w10 ⟨rfl, m10, hw10⟩
  have u10 : Upd NoB (w8.alloc (.cells (i64s [-3, -1, 0, 1, 3]).toArray 3)) w10 := by rw [hw10]; exact upd_drewN (Upd.refl _ _) _
  clear VS9
  clear Lt9
  have UU10 := Lib.hid (UU9.out.then u10)
  clear UU9
  clear u10 hw10
  go_wp2_with fail
  refine (awake_qu _).mono ?_
  rintro e w11 ⟨rfl, u11⟩
  have UU11 := Lib.hid (UU10.out.then u11)
  clear UU10
  clear u11
  go_wp2_with fail
  go_ret
  exact ⟨rfl, UU11.out⟩
end Go.Proofs.Yteioaeceobgbdaa
