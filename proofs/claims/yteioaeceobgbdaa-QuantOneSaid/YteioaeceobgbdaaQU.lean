/- quant: the nearest value; the law Near -/
import Derived.Test.YteioaeceobgbdaaQT
namespace Go.Proofs.Yteioaeceobgbdaa
open Go.RowKit Go.Shelf

theorem near_top {s : Nat} {C : Int} (hs : s ≤ 95) (h : vlN s 1023 < C) : qtN s C = 1023 := by
  have hf : fsN s C = 1023 := fsN_is (by omega) (fun j hj => by have := vlN_mono hs (show j ≤ 1023 by omega) (by omega); omega) (fun h => by omega)
  have : vlN s (1023 - 1) ≤ vlN s 1023 := vlN_mono hs (by omega) (by omega)
  unfold qtN
  rw [hf, if_neg (by omega)]
theorem near_low {s : Nat} {C : Int} (_hs : s ≤ 95) (ht : C ≤ vlN s 1023) (hv : vlN s (qtN s C) < C) : qtN s C + 1 ≤ 1023 ∧ C < vlN s (qtN s C + 1) ∧ C - vlN s (qtN s C) ≤ vlN s (qtN s C + 1) - C := by
  have h1 := fsN_le s C
  have hy : C ≤ vlN s (fsN s C) := by
    rcases Nat.lt_or_ge (fsN s C) 1023 with h | h
    · exact fsN_yes h
    · have e : fsN s C = 1023 := by omega
      rw [e]; exact ht
  by_cases hq : 0 < fsN s C ∧ C - vlN s (fsN s C - 1) ≤ vlN s (fsN s C) - C
  · have e : qtN s C = fsN s C - 1 := by unfold qtN; rw [if_pos hq]
    have e2 : fsN s C - 1 + 1 = fsN s C := by omega
    rw [e] at hv
    rw [e, e2]
    exact ⟨h1, by omega, hq.2⟩
  · have e : qtN s C = fsN s C := by unfold qtN; rw [if_neg hq]
    rw [e] at hv
    omega
theorem near_high {s : Nat} {C : Int} (hs : s ≤ 95) (h0 : 0 ≤ C) (hv : C < vlN s (qtN s C)) : 1 ≤ qtN s C ∧ vlN s (qtN s C - 1) < C ∧ vlN s (qtN s C) - C ≤ C - vlN s (qtN s C - 1) := by
  have hq : ¬ (0 < fsN s C ∧ C - vlN s (fsN s C - 1) ≤ vlN s (fsN s C) - C) := by
    intro hq
    have e : qtN s C = fsN s C - 1 := by unfold qtN; rw [if_pos hq]
    rw [e] at hv
    have := fsN_no (s := s) (c := C) (j := fsN s C - 1) (by omega)
    omega
  have e : qtN s C = fsN s C := by unfold qtN; rw [if_neg hq]
  rw [e] at hv ⊢
  have hf : 1 ≤ fsN s C := by
    rcases Nat.eq_zero_or_pos (fsN s C) with h | h
    · rw [h, vlN_zero] at hv; omega
    · exact h
  have := fsN_no (s := s) (c := C) (j := fsN s C - 1) (by omega)
  have _ := hs
  exact ⟨hf, this, by omega⟩
theorem mul_neg_neg {a b : Int} (ha : 0 < a) (hb : b < 0) : a * b < 0 := Int.mul_neg_of_pos_of_neg ha hb
theorem mul_lo {a b : Int} (ha : -4194304 ≤ a ∧ a ≤ 4194304) (hb : -4194304 ≤ b ∧ b ≤ 4194304) : -17592186044416 ≤ a * b ∧ a * b ≤ 17592186044416 := by
  have := mulB ha hb
  omega
theorem Va_pos {s k : Nat} (hs : s ≤ 95) (hk : k ≤ 1023) : Va (k : Int) (s : Int) = vlN s k ∧ eV (k : Int) (s : Int) = 0 := by
  have hE : eV (k : Int) (s : Int) = 0 := by unfold eV; rw [if_pos (by omega), if_pos (by omega)]
  refine ⟨?_, hE⟩
  unfold Va sgV
  rw [if_pos hE, if_neg (by omega), Int.natAbs_natCast, Int.toNat_natCast]
theorem val_at {s k : Nat} {j : Int} (hs : s ≤ 95) (hk : k ≤ 1023) (hj : j = (k : Int)) (W : World) : Calls Try.prog 15 #[.int .i64 j, .int .i64 (s : Int)] W fun e w' => e = .returned (.tuple #[.int .i64 (vlN s k), .int .i64 0]) ∧ Upd NoB W w' := by
  subst hj
  have := pV_any (k : Int) (s : Int) W
  rw [show (if eV (k : Int) (s : Int) = 0 then sgV (s : Int).toNat (k : Int) else 0) = vlN s k from (Va_pos hs hk).1, (Va_pos hs hk).2] at this
  exact this
set_option maxRecDepth 100000 in
set_option maxHeartbeats 8000000 in
theorem near_qu (c s : Int) (w : World) : Calls Try.prog 9 #[.int .i64 c, .int .i64 s] w fun e w' => e = .returned (.bool true) ∧ Upd NoB w w' := by
  have HQ := Lib.hid (fun W => (show Calls Try.prog 17 #[.int .i64 c, .int .i64 s] W fun e w' => e = .returned (.tuple #[.int .i64 (Qa c s), .int .i64 (eQ c s)]) ∧ Upd NoB W w' from pQ_any c s W))
  by_cases hE : eQ c s = 0
  rotate_left
  · have e0 : Qa c s = 0 := if_neg hE
    rw [e0] at HQ
    generalize eQ c s = E at *
    have t1 : (E != 0) = true := bne_iff_ne.2 hE
    clear hE e0
    go_enter Try.func9, Try.ntmps9
    go_wp2_with fail
    refine (HQ.out _).mono ?_
    rintro e w1 ⟨rfl, u1⟩
    have UU1 := Lib.hid ((Upd.refl NoB w).then u1)
    clear u1
    go_wp2_with fail
    refine (awake_qu _).mono ?_
    rintro e w2 ⟨rfl, u2⟩
    have UU2 := Lib.hid (UU1.out.then u2)
    clear UU1
    clear u2
    go_wp2_with fail
    go_ret
    exact ⟨rfl, UU2.out⟩
  obtain ⟨hs, hc⟩ := eQ_ok hE
  obtain ⟨n, rfl⟩ : ∃ n : Nat, s = (n : Int) := ⟨s.toNat, by omega⟩
  have hn : n ≤ 95 := by omega
  have e0 : Qa c (n : Int) = sgQ n c := by unfold Qa; rw [if_pos hE, Int.toNat_natCast]
  rw [e0, hE] at HQ
  obtain ⟨C, hC⟩ : ∃ C : Int, max c (-c) = C := ⟨_, rfl⟩
  have hCn : ((c.natAbs : Nat) : Int) = C := by omega
  have hsg : sgQ n c = if c < 0 then -((qtN n C : Nat) : Int) else (qtN n C : Nat) := by unfold sgQ; rw [hCn]
  have hqb := qtN_le n C
  have hC0 : 0 ≤ C ∧ C ≤ 2097152 := by omega
  have HTop := Lib.hid (fun W => val_at hn (show 1023 ≤ 1023 by omega) (show (1023 : Int) = ((1023 : Nat) : Int) from rfl) W)
  have HV := Lib.hid (fun W (j : Int) (hj : j = ((qtN n C : Nat) : Int)) => val_at hn hqb hj W)
  have HV1 := Lib.hid (fun W (j : Int) (h : qtN n C + 1 ≤ 1023) (hj : j = ((qtN n C + 1 : Nat) : Int)) => val_at hn h hj W)
  have HV2 := Lib.hid (fun W (j : Int) (h : 1 ≤ qtN n C) (hj : j = ((qtN n C - 1 : Nat) : Int)) => val_at hn (show qtN n C - 1 ≤ 1023 by omega) hj W)
  have HT := Lib.hid (fun h => near_top hn (C := C) h); have HLo := Lib.hid (fun h1 h2 => near_low hn (C := C) h1 h2); have HHi := Lib.hid (fun h => near_high hn hC0.1 h)
  have HB := Lib.hid (fun (k : Nat) (hk : k ≤ 1023) => vlN_in hn hk)
  obtain ⟨q, hq⟩ : ∃ q, sgQ n c = q := ⟨_, rfl⟩
  rw [hq] at HQ hsg
  have HQT := Lib.hid (show vlN n 1023 < C → vlN n (qtN n C) = vlN n 1023 from fun h => by rw [HT.out h])
  generalize qtN n C = kn at *
  obtain ⟨K, hK⟩ : ∃ K : Int, ((kn : Nat) : Int) = K := ⟨_, rfl⟩
  rw [hK] at hsg
  have hKb : 0 ≤ K ∧ K ≤ 1023 := by omega
  have hqK : max q (-q) = K := by split at hsg <;> omega
  have HV0 := Lib.hid (fun W => HV.out W K hK.symm)
  obtain ⟨v, hv⟩ : ∃ v, vlN n kn = v := ⟨_, rfl⟩
  obtain ⟨top, htop⟩ : ∃ t, vlN n 1023 = t := ⟨_, rfl⟩
  have bv := HB.out kn hqb
  have bt := HB.out 1023 (by omega)
  rw [hv] at HV0 bv
  rw [htop] at HTop bt
  rw [hv, htop] at HQT
  rw [hv] at HLo HHi
  rw [htop] at HLo
  have z1 : wrap64 (-c) = -c := IntWalk.wrap64_in _ (by omega)
  have z2 : IntKind.i64.wrap (-c) = -c := IntWalk.i64_in _ (by clear z1; omega)
  have z3 : wrap64 (-q) = -q := IntWalk.wrap64_in _ (by clear z1 z2; omega)
  have z4 : IntKind.i64.wrap (-q) = -q := IntWalk.i64_in _ (by clear z1 z2 z3; omega)
  have z5 : wrap64 (C - v) = C - v := IntWalk.wrap64_in _ (by clear z1 z2 z3 z4; omega)
  have z6 : IntKind.i64.wrap (C - v) = C - v := IntWalk.i64_in _ (by clear z1 z2 z3 z4 z5; omega)
  have z7 : wrap64 (v - C) = v - C := IntWalk.wrap64_in _ (by clear z1 z2 z3 z4 z5 z6; omega)
  have z8 : IntKind.i64.wrap (v - C) = v - C := IntWalk.i64_in _ (by clear z1 z2 z3 z4 z5 z6 z7; omega)
  have t1 : decide (1023 < K) = false := decide_eq_false (by clear z1 z2 z3 z4 z5 z6 z7 z8; omega)
  have hsig : (decide (0 < c) = false ∨ decide (q < 0) = false) ∧ (decide (c < 0) = false ∨ decide (0 < q) = false) := by
    clear z1 z2 z3 z4 z5 z6 z7 z8
    refine ⟨?_, ?_⟩
    · by_cases h : 0 < c
      · exact .inr (decide_eq_false (by split at hsg <;> omega))
      · exact .inl (decide_eq_false h)
    · by_cases h : c < 0
      · exact .inr (decide_eq_false (by split at hsg <;> omega))
      · exact .inl (decide_eq_false h)
  have HSig := Lib.hid hsig
  have HKB := Lib.hid hKb; have HC0 := Lib.hid hC0; have HKn := Lib.hid hK; have HBv := Lib.hid bv
  clear hs hc hE e0 hCn hsg hqb hC0 hq hK hKb hv htop bv bt hsig HT HB
  go_enter Try.func9, Try.ntmps9
  go_wp2_with fail
  refine (HQ.out _).mono ?_
  rintro e w1 ⟨rfl, u1⟩
  have UU1 := Lib.hid ((Upd.refl NoB w).then u1)
  clear u1
  go_wp2_with fail
  refine (HV0.out _).mono ?_
  rintro e w2 ⟨rfl, u2⟩
  have UU2 := Lib.hid (UU1.out.then u2)
  clear UU1
  clear u2
  go_wp2_with fail
  refine (HTop.out _).mono ?_
  rintro e w3 ⟨rfl, u3⟩
  have UU3 := Lib.hid (UU2.out.then u3)
  clear UU2
  clear u3
  go_upto_region 7 with fail
  go_cut [74] from 49 to 74 (fun r wx => r = .bool false ∧ wx = w3)
  case first =>
    rcases HSig.out with ⟨h1 | h1, h2 | h2⟩
    · clear HSig
      by_cases p1 : 0 < c
      · have t5 : decide (0 < c) = true := decide_eq_true p1
        have t6 : decide (c < 0) = false := decide_eq_false (by clear z1 z2 z3 z4 z5 z6 z7 z8; omega)
        rw [t5] at h1; cases h1
      · have t5 : decide (0 < c) = false := decide_eq_false p1
        clear p1
        go_wp2_with fail
        go_meet
        case rel => exact ⟨rfl, rfl⟩
    · clear HSig
      by_cases p1 : 0 < c
      · have t5 : decide (0 < c) = true := decide_eq_true p1
        have t6 : decide (c < 0) = false := decide_eq_false (by clear z1 z2 z3 z4 z5 z6 z7 z8; omega)
        rw [t5] at h1; cases h1
      · have t5 : decide (0 < c) = false := decide_eq_false p1
        clear p1
        by_cases p2 : c < 0
        · have t6 : decide (c < 0) = true := decide_eq_true p2
          clear p2
          go_wp2_with fail
          go_meet
          case rel => exact ⟨rfl, rfl⟩
        · have t6 : decide (c < 0) = false := decide_eq_false p2
          clear p2
          go_wp2_with fail
          go_meet
          case rel => exact ⟨rfl, rfl⟩
    · clear HSig
      by_cases p1 : 0 < c
      · have t5 : decide (0 < c) = true := decide_eq_true p1
        have t6 : decide (c < 0) = false := decide_eq_false (by clear z1 z2 z3 z4 z5 z6 z7 z8; omega)
        clear p1
        go_wp2_with fail
        go_meet
        case rel => exact ⟨rfl, rfl⟩
      · have t5 : decide (0 < c) = false := decide_eq_false p1
        clear p1
        go_wp2_with fail
        go_meet
        case rel => exact ⟨rfl, rfl⟩
    · clear HSig
      by_cases p1 : 0 < c
      · have t5 : decide (0 < c) = true := decide_eq_true p1
        have t6 : decide (c < 0) = false := decide_eq_false (by clear z1 z2 z3 z4 z5 z6 z7 z8; omega)
        clear p1
        go_wp2_with fail
        go_meet
        case rel => exact ⟨rfl, rfl⟩
      · have t5 : decide (0 < c) = false := decide_eq_false p1
        clear p1
        by_cases p2 : c < 0
        · have t6 : decide (c < 0) = true := decide_eq_true p2
          clear p2
          go_wp2_with fail
          go_meet
          case rel => exact ⟨rfl, rfl⟩
        · have t6 : decide (c < 0) = false := decide_eq_false p2
          clear p2
          go_wp2_with fail
          go_meet
          case rel => exact ⟨rfl, rfl⟩
  case rest =>
    obtain ⟨rfl, hcut⟩ := hcut
    rw [hcut]
    clear hcut HSig
    by_cases h1 : top < C
    · have t2 : decide (top < C) = true := decide_eq_true h1
      obtain rfl := HQT.out h1
      clear h1
      go_wp2_with fail
      refine (awake_qu _).mono ?_
      rintro e w4 ⟨rfl, u4⟩
      have UU4 := Lib.hid (UU3.out.then u4)
      clear UU3
      clear u4
      go_wp2_with fail
      go_ret
      exact ⟨rfl, UU4.out⟩
    · have t2 : decide (top < C) = false := decide_eq_false h1
      rcases Int.lt_trichotomy v C with h2 | h2 | h2
      · have t3 : decide (v < C) = true := decide_eq_true (by clear z1 z2 z3 z4 z5 z6 z7 z8; omega)
        obtain ⟨k1, k2, k3⟩ := HLo.out (by clear z1 z2 z3 z4 z5 z6 z7 z8; omega) h2
        have HJ := Lib.hid (fun W => HV1.out W (K + 1) k1 (by have := HKn.out; clear z1 z2 z3 z4 z5 z6 z7 z8; omega))
        have hb9 := HKB.out
        have hc9 := HC0.out
        have hv9 := HBv.out
        have hn9 := HKn.out
        have y1 : wrap64 (K + 1) = K + 1 := IntWalk.wrap64_in _ (by clear z1 z2 z3 z4 z5 z6 z7 z8; omega)
        have y2 : IntKind.i64.wrap (K + 1) = K + 1 := IntWalk.i64_in _ (by clear z1 z2 z3 z4 z5 z6 z7 z8 y1; omega)
        obtain ⟨u, hu⟩ : ∃ u, vlN n (kn + 1) = u := ⟨_, rfl⟩
        rw [hu] at HJ k2 k3
        have hub : 0 ≤ u ∧ u ≤ 2097152 := by rw [← hu]; exact vlN_in hn (by clear z1 z2 z3 z4 z5 z6 z7 z8 y1 y2; omega)
        have y3 : wrap64 (u - C) = u - C := IntWalk.wrap64_in _ (by clear z1 z2 z3 z4 z5 z6 z7 z8 y1 y2; omega)
        have y3' : IntKind.i64.wrap (u - C) = u - C := IntWalk.i64_in _ (by clear z1 z2 z3 z4 z5 z6 z7 z8 y1 y2 y3; omega)
        have y4 : wrap64 (u - v) = u - v := IntWalk.wrap64_in _ (by clear z1 z2 z3 z4 z5 z6 z7 z8 y1 y2 y3 y3'; omega)
        have y4' : IntKind.i64.wrap (u - v) = u - v := IntWalk.i64_in _ (by clear z1 z2 z3 z4 z5 z6 z7 z8 y1 y2 y3 y3' y4; omega)
        have y5 : wrap64 (v - u) = v - u := IntWalk.wrap64_in _ (by clear z1 z2 z3 z4 z5 z6 z7 z8 y1 y2 y3 y3' y4 y4'; omega)
        have y5' : IntKind.i64.wrap (v - u) = v - u := IntWalk.i64_in _ (by clear z1 z2 z3 z4 z5 z6 z7 z8 y1 y2 y3 y3' y4 y4' y5; omega)
        obtain ⟨M, hM⟩ : ∃ M, (u - C) * (v - C) = M := ⟨_, rfl⟩
        have hM0 : M < 0 := by rw [← hM]; exact Int.mul_neg_of_pos_of_neg (by clear z1 z2 z3 z4 z5 z6 z7 z8 y1 y2 y3 y3' y4 y4' y5 y5'; omega) (by clear z1 z2 z3 z4 z5 z6 z7 z8 y1 y2 y3 y3' y4 y4' y5 y5'; omega)
        have hM1 : -17592186044416 ≤ M ∧ M ≤ 17592186044416 := by rw [← hM]; exact mul_lo (by clear z1 z2 z3 z4 z5 z6 z7 z8 y1 y2 y3 y3' y4 y4' y5 y5'; omega) (by clear z1 z2 z3 z4 z5 z6 z7 z8 y1 y2 y3 y3' y4 y4' y5 y5'; omega)
        have y6 : wrap64 ((u - C) * (v - C)) = M := by rw [hM]; exact IntWalk.wrap64_in _ (by clear z1 z2 z3 z4 z5 z6 z7 z8 y1 y2 y3 y3' y4 y4' y5 y5' hM; omega)
        have y6' : IntKind.i64.wrap ((u - C) * (v - C)) = M := by rw [hM]; exact IntWalk.i64_in _ (by clear z1 z2 z3 z4 z5 z6 z7 z8 y1 y2 y3 y3' y4 y4' y5 y5' y6 hM; omega)
        obtain ⟨d, hd⟩ : ∃ d, max (C - v) (v - C) = d := ⟨_, rfl⟩
        have hd1 : d = C - v := by clear z1 z2 z3 z4 z5 z6 z7 z8 y1 y2 y3 y3' y4 y4' y5 y5' y6 y6' hM hM0 hM1; omega
        have y7 : wrap64 (2 * d) = 2 * d := IntWalk.wrap64_in _ (by clear z1 z2 z3 z4 z5 z6 z7 z8 y1 y2 y3 y3' y4 y4' y5 y5' y6 y6' hM hM0 hM1; omega)
        have y7' : IntKind.i64.wrap (2 * d) = 2 * d := IntWalk.i64_in _ (by clear z1 z2 z3 z4 z5 z6 z7 z8 y1 y2 y3 y3' y4 y4' y5 y5' y6 y6' y7 hM hM0 hM1; omega)
        have t4 : (d == 0) = false := beq_eq_false_iff_ne.2 (by clear z1 z2 z3 z4 z5 z6 z7 z8 y1 y2 y3 y3' y4 y4' y5 y5' y6 y6' y7 y7' hM hM0 hM1; omega)
        have t5 : decide (M < 0) = true := decide_eq_true hM0
        have t6 : decide (2 * d ≤ max (u - v) (v - u)) = true := decide_eq_true (by clear z1 z2 z3 z4 z5 z6 z7 z8 y1 y2 y3 y3' y4 y4' y5 y5' y6 y6' y7 y7' hM hM0 hM1; omega)
        have t7 : (u != v) = true := bne_iff_ne.2 (by clear z1 z2 z3 z4 z5 z6 z7 z8 y1 y2 y3 y3' y4 y4' y5 y5' y6 y6' y7 y7' hM hM0 hM1; omega)
        have t8 : decide (0 ≤ K) = true := decide_eq_true (by clear z1 z2 z3 z4 z5 z6 z7 z8 y1 y2 y3 y3' y4 y4' y5 y5' y6 y6' y7 y7' hM hM0 hM1; omega)
        have t9 : decide (K ≤ 1023) = true := decide_eq_true (by clear z1 z2 z3 z4 z5 z6 z7 z8 y1 y2 y3 y3' y4 y4' y5 y5' y6 y6' y7 y7' hM hM0 hM1; omega)
        have HD := Lib.hid hd
        clear h1 h2 k1 k2 k3 hb9 hc9 hv9 hn9 hu hub hM hM0 hM1 hd1 HV HV1 HV2 HLo HHi HQT HQ HV0 HTop
        go_wp2_with fail
        go_loopw [14] (fun i wr => i = .int .i64 K ∧ Upd NoB w wr) (fun _ _ => 0)
        case atStart => exact ⟨rfl, UU3.out⟩
        case round =>
          obtain ⟨rfl, hu⟩ := hrel
          have HU9 := Lib.hid hu
          clear hu
          go_wp2_with fail
          refine (HJ.out _).mono ?_
          rintro e w4 ⟨rfl, u4⟩
          have UU4 := Lib.hid (HU9.out.then u4)
          clear HU9
          clear u4
          go_wp2_with fail
          refine (awake_qu _).mono ?_
          rintro e w5 ⟨rfl, u5⟩
          have UU5 := Lib.hid (UU4.out.then u5)
          clear UU4
          clear u5
          go_wp2_with fail
          go_ret
          exact ⟨rfl, UU5.out⟩
      · have t3 : (max (C - v) (v - C) == 0) = true := beq_iff_eq.2 (by clear z1 z2 z3 z4 z5 z6 z7 z8; omega)
        clear h1 h2
        go_wp2_with fail
        refine (awake_qu _).mono ?_
        rintro e w4 ⟨rfl, u4⟩
        have UU4 := Lib.hid (UU3.out.then u4)
        clear UU3
        clear u4
        go_wp2_with fail
        go_ret
        exact ⟨rfl, UU4.out⟩
      · have t3 : decide (v < C) = false := decide_eq_false (by clear z1 z2 z3 z4 z5 z6 z7 z8; omega)
        obtain ⟨k1, k2, k3⟩ := HHi.out h2
        have HJ := Lib.hid (fun W => HV2.out W (K - 1) k1 (by have := HKn.out; clear z1 z2 z3 z4 z5 z6 z7 z8; omega))
        have hb9 := HKB.out
        have hc9 := HC0.out
        have hv9 := HBv.out
        have hn9 := HKn.out
        have y1 : wrap64 (K - 1) = K - 1 := IntWalk.wrap64_in _ (by clear z1 z2 z3 z4 z5 z6 z7 z8; omega)
        have y2 : IntKind.i64.wrap (K - 1) = K - 1 := IntWalk.i64_in _ (by clear z1 z2 z3 z4 z5 z6 z7 z8 y1; omega)
        obtain ⟨u, hu⟩ : ∃ u, vlN n (kn - 1) = u := ⟨_, rfl⟩
        rw [hu] at HJ k2 k3
        have hub : 0 ≤ u ∧ u ≤ 2097152 := by rw [← hu]; exact vlN_in hn (by clear z1 z2 z3 z4 z5 z6 z7 z8 y1 y2; omega)
        have y3 : wrap64 (u - C) = u - C := IntWalk.wrap64_in _ (by clear z1 z2 z3 z4 z5 z6 z7 z8 y1 y2; omega)
        have y3' : IntKind.i64.wrap (u - C) = u - C := IntWalk.i64_in _ (by clear z1 z2 z3 z4 z5 z6 z7 z8 y1 y2 y3; omega)
        have y4 : wrap64 (u - v) = u - v := IntWalk.wrap64_in _ (by clear z1 z2 z3 z4 z5 z6 z7 z8 y1 y2 y3 y3'; omega)
        have y4' : IntKind.i64.wrap (u - v) = u - v := IntWalk.i64_in _ (by clear z1 z2 z3 z4 z5 z6 z7 z8 y1 y2 y3 y3' y4; omega)
        have y5 : wrap64 (v - u) = v - u := IntWalk.wrap64_in _ (by clear z1 z2 z3 z4 z5 z6 z7 z8 y1 y2 y3 y3' y4 y4'; omega)
        have y5' : IntKind.i64.wrap (v - u) = v - u := IntWalk.i64_in _ (by clear z1 z2 z3 z4 z5 z6 z7 z8 y1 y2 y3 y3' y4 y4' y5; omega)
        obtain ⟨M, hM⟩ : ∃ M, (u - C) * (v - C) = M := ⟨_, rfl⟩
        have hM0 : M < 0 := by rw [← hM]; exact Int.mul_neg_of_neg_of_pos (by clear z1 z2 z3 z4 z5 z6 z7 z8 y1 y2 y3 y3' y4 y4' y5 y5'; omega) (by clear z1 z2 z3 z4 z5 z6 z7 z8 y1 y2 y3 y3' y4 y4' y5 y5'; omega)
        have hM1 : -17592186044416 ≤ M ∧ M ≤ 17592186044416 := by rw [← hM]; exact mul_lo (by clear z1 z2 z3 z4 z5 z6 z7 z8 y1 y2 y3 y3' y4 y4' y5 y5'; omega) (by clear z1 z2 z3 z4 z5 z6 z7 z8 y1 y2 y3 y3' y4 y4' y5 y5'; omega)
        have y6 : wrap64 ((u - C) * (v - C)) = M := by rw [hM]; exact IntWalk.wrap64_in _ (by clear z1 z2 z3 z4 z5 z6 z7 z8 y1 y2 y3 y3' y4 y4' y5 y5' hM; omega)
        have y6' : IntKind.i64.wrap ((u - C) * (v - C)) = M := by rw [hM]; exact IntWalk.i64_in _ (by clear z1 z2 z3 z4 z5 z6 z7 z8 y1 y2 y3 y3' y4 y4' y5 y5' y6 hM; omega)
        obtain ⟨d, hd⟩ : ∃ d, max (C - v) (v - C) = d := ⟨_, rfl⟩
        have hd1 : d = v - C := by clear z1 z2 z3 z4 z5 z6 z7 z8 y1 y2 y3 y3' y4 y4' y5 y5' y6 y6' hM hM0 hM1; omega
        have y7 : wrap64 (2 * d) = 2 * d := IntWalk.wrap64_in _ (by clear z1 z2 z3 z4 z5 z6 z7 z8 y1 y2 y3 y3' y4 y4' y5 y5' y6 y6' hM hM0 hM1; omega)
        have y7' : IntKind.i64.wrap (2 * d) = 2 * d := IntWalk.i64_in _ (by clear z1 z2 z3 z4 z5 z6 z7 z8 y1 y2 y3 y3' y4 y4' y5 y5' y6 y6' y7 hM hM0 hM1; omega)
        have t4 : (d == 0) = false := beq_eq_false_iff_ne.2 (by clear z1 z2 z3 z4 z5 z6 z7 z8 y1 y2 y3 y3' y4 y4' y5 y5' y6 y6' y7 y7' hM hM0 hM1; omega)
        have t5 : decide (M < 0) = true := decide_eq_true hM0
        have t6 : decide (2 * d ≤ max (u - v) (v - u)) = true := decide_eq_true (by clear z1 z2 z3 z4 z5 z6 z7 z8 y1 y2 y3 y3' y4 y4' y5 y5' y6 y6' y7 y7' hM hM0 hM1; omega)
        have t7 : (u != v) = true := bne_iff_ne.2 (by clear z1 z2 z3 z4 z5 z6 z7 z8 y1 y2 y3 y3' y4 y4' y5 y5' y6 y6' y7 y7' hM hM0 hM1; omega)
        have t8 : decide (0 ≤ K) = true := decide_eq_true (by clear z1 z2 z3 z4 z5 z6 z7 z8 y1 y2 y3 y3' y4 y4' y5 y5' y6 y6' y7 y7' hM hM0 hM1; omega)
        have t9 : decide (K ≤ 1023) = true := decide_eq_true (by clear z1 z2 z3 z4 z5 z6 z7 z8 y1 y2 y3 y3' y4 y4' y5 y5' y6 y6' y7 y7' hM hM0 hM1; omega)
        have HD := Lib.hid hd
        clear h1 h2 k1 k2 k3 hb9 hc9 hv9 hn9 hu hub hM hM0 hM1 hd1 HV HV1 HV2 HLo HHi HQT HQ HV0 HTop
        go_wp2_with fail
        go_loopw [14] (fun i wr => i = .int .i64 K ∧ Upd NoB w wr) (fun _ _ => 0)
        case atStart => exact ⟨rfl, UU3.out⟩
        case round =>
          obtain ⟨rfl, hu⟩ := hrel
          have HU9 := Lib.hid hu
          clear hu
          go_wp2_with fail
          refine (HJ.out _).mono ?_
          rintro e w4 ⟨rfl, u4⟩
          have UU4 := Lib.hid (HU9.out.then u4)
          clear HU9
          clear u4
          go_wp2_with fail
          refine (awake_qu _).mono ?_
          rintro e w5 ⟨rfl, u5⟩
          have UU5 := Lib.hid (UU4.out.then u5)
          clear UU4
          clear u5
          go_wp2_with fail
          go_ret
          exact ⟨rfl, UU5.out⟩
end Go.Proofs.Yteioaeceobgbdaa
