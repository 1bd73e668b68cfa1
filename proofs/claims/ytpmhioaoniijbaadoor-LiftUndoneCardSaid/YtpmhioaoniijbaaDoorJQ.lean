/- the reference's turns -/
import Derived.Test.YtpmhioaoniijbaaDoorJP
import Derived.Test.YtpmhioaoniijbaaDoorFCi
namespace Go.Proofs.YtpmhioaoniijbaaDoor
open Go.RowKit Go.Shelf

theorem rR_any (v : Int) (w : World) (h1 : -1152921504606846976 ≤ v) (h2 : v ≤ 1152921504606846976) : Calls Tryd.prog 91 #[.int .i64 v] w fun e w' => e = .returned (.int .i64 (sc v)) ∧ w' = w := by
  have E := Lib.hid (show rnd v 16384 = sc v by unfold rnd sc; omega)
  go_enter Tryd.func91, Tryd.ntmps91
  go_wp2_with fail
  (with_reducible refine (near_any v 16384 _ (by omega) (by omega) (by omega) (by omega)).mono ?_)
  rintro e w' ⟨rfl, rfl⟩
  go_wp2
  go_ret
  exact ⟨ret_int E.out, rfl⟩
theorem quart_step {t d : Int} {Q k : Nat} (hd : 1 ≤ d) (hq : (8 * t + d - 1) / (2 * d) = (Q : Int)) : (d < 8 * t - 2 * (k : Int) * d) ↔ k < Q := by
  have dm := Int.mul_ediv_add_emod (8 * t + d - 1) (2 * d)
  have m0 := Int.emod_nonneg (8 * t + d - 1) (show 2 * d ≠ 0 by omega)
  have m1 := Int.emod_lt_of_pos (8 * t + d - 1) (show 0 < 2 * d by omega)
  rw [hq] at dm
  generalize (8 * t + d - 1) % (2 * d) = m at *
  constructor
  · intro h
    rcases Nat.lt_or_ge k Q with hk | hk
    · exact hk
    · have := Int.mul_le_mul_of_nonneg_left (show (Q : Int) ≤ k by omega) (show 0 ≤ 2 * d by omega)
      have e : 2 * (k : Int) * d = 2 * d * k := by grind
      omega
  · intro h
    have := Int.mul_le_mul_of_nonneg_left (show (k : Int) + 1 ≤ Q by omega) (show 0 ≤ 2 * d by omega)
    have e : 2 * (k : Int) * d = 2 * d * k := by grind
    have e2 : 2 * d * ((k : Int) + 1) = 2 * d * k + 2 * d := by grind
    omega
set_option maxRecDepth 100000 in
set_option maxHeartbeats 2000000 in
theorem rOf_any (n d : Int) (w : World) (h : turE n d = 0) : Calls Tryd.prog 80 #[.int .i64 n, .int .i64 d] w fun e w' => e = .returned (.agg #[.int .i64 (turQ n d : Nat), .int .i64 (turA n d), .int .i64 (turB n d)]) ∧ Upd NoB w w' := by
  obtain ⟨hP, d1, d2, n1, n2⟩ := turE_ok h
  have hc0 := heap_alloc_new w (.cells #[.int .i64 0, .int .i64 0, .int .i64 0] 88)
  have hu0 := (Upd.refl NoB w).alloc (.cells #[.int .i64 0, .int .i64 0, .int .i64 0] 88)
  obtain ⟨W, hW⟩ : ∃ W, W = w.alloc (.cells #[.int .i64 0, .int .i64 0, .int .i64 0] 88) := ⟨_, rfl⟩
  rw [← hW] at hc0 hu0
  have HW := Lib.hid hW; have C0 := Lib.hid hc0; have U0 := Lib.hid hu0
  clear hW hc0 hu0
  obtain ⟨t0, t1, q4, dq, r1, r2⟩ := tur_facts (n := n) (d := d) d1
  obtain ⟨hh, ha⟩ := tur_half (n := n) (d := d) hP
  have eR : turR n d = 8 * (n % d) - 2 * (turQ n d : Int) * d := rfl
  have Hhalf := rHalf_any (turR n d) (8 * d)
  have Hsin := rSin_any (turR n d) (8 * d)
  rw [show onOk (hlfE (turR n d) (8 * d)) (hlfV (turR n d) (8 * d)) = turA n d by rw [hh]; rfl, hh] at Hhalf
  rw [show onOk (angE (turR n d) (8 * d)) (cir (turR n d * (16384 / (8 * d)))).2 = turB n d by rw [ha]; rfl, ha] at Hsin
  have em : n - n / d * d = n % d := by have := Int.mul_ediv_add_emod n d; have e : d * (n / d) = n / d * d := Int.mul_comm _ _; omega
  have dn := fun w => down_any n d w d1 (by omega) (by omega) (by omega)
  have yb := ediv_in (a := n) (b := d) d1 (by omega) (by omega)
  obtain ⟨y, ey⟩ : ∃ y, n / d = y := ⟨_, rfl⟩
  rw [ey] at em dn
  have qs := fun k => quart_step (k := k) d1 dq
  obtain ⟨T', eT⟩ : ∃ T', n % d = T' := ⟨_, rfl⟩
  obtain ⟨Q, eQ⟩ : ∃ Q, turQ n d = Q := ⟨_, rfl⟩
  obtain ⟨R, eR'⟩ : ∃ R, turR n d = R := ⟨_, rfl⟩
  obtain ⟨A, eA⟩ : ∃ A, turA n d = A := ⟨_, rfl⟩
  obtain ⟨B, eB⟩ : ∃ B, turB n d = B := ⟨_, rfl⟩
  obtain ⟨Z, eZ⟩ : ∃ Z, y * d = Z := ⟨_, rfl⟩
  rw [eT] at t0 t1 eR em qs
  rw [eQ] at q4 eR qs
  rw [eR'] at r1 r2 eR Hhalf Hsin
  rw [eA] at Hhalf
  rw [eB] at Hsin
  rw [eZ] at em
  rw [eQ, eA, eB]
  have wz : IntKind.i64.wrap (y * d) = Z := by rw [eZ]; exact IntWalk.i64_in _ (by clear dq ey eZ qs; omega)
  have wt : IntKind.i64.wrap (n - Z) = T' := by rw [em]; exact IntWalk.i64_in _ (by clear dq ey eZ qs wz; omega)
  have kd : ∀ k : Nat, k ≤ Q → 2 * (k : Int) * d ≤ 16384 ∧ 0 ≤ 2 * (k : Int) * d := fun k hk => by
    have a := Int.mul_le_mul_of_nonneg_left d2 (show 0 ≤ 2 * (k : Int) by omega)
    have b := Int.mul_nonneg (show 0 ≤ 2 * (k : Int) by omega) (show 0 ≤ d by omega)
    constructor <;> (clear dq qs; omega)
  have HH := Lib.hid Hhalf; have HS := Lib.hid Hsin; have DN := Lib.hid dn; have QS := Lib.hid qs; have KD := Lib.hid kd; have ER := Lib.hid eR
  clear Hhalf Hsin hh ha eT eQ eR' eA eB eZ eR h hP dn qs kd dq ey em yb
  go_enter Tryd.func80, Tryd.ntmps80
  go_wp2_with fail
  rw [← HW.out]
  (with_reducible refine (DN.out _).mono ?_)
  rintro e w' ⟨rfl, rfl⟩
  go_wp2_with fail
  go_loop [6] (fun qv => ∃ k : Nat, qv = .int .i64 k ∧ k ≤ Q) (fun qv => Q - (intOf qv).toNat)
  case atStart => exact ⟨0, rfl, Nat.zero_le _⟩
  case round =>
    obtain ⟨k, rfl, hk⟩ := hrel
    obtain ⟨p1, p2⟩ := KD.out k hk
    have qk := QS.out k
    obtain ⟨P, eP⟩ : ∃ P, 2 * (k : Int) * d = P := ⟨_, rfl⟩
    rw [eP] at p1 p2 qk
    have wk : IntKind.i64.wrap (2 * (k : Int)) = 2 * (k : Int) := IntWalk.i64_in _ (by clear eP qk; omega)
    have wp : IntKind.i64.wrap (2 * (k : Int) * d) = P := by rw [eP]; exact IntWalk.i64_in _ (by clear eP qk; omega)
    have w8 : IntKind.i64.wrap (8 * T') = 8 * T' := IntWalk.i64_in _ (by clear eP qk; omega)
    have ws : IntKind.i64.wrap (8 * T' - P) = 8 * T' - P := IntWalk.i64_in _ (by clear eP qk; omega)
    by_cases hlt : k < Q
    · have tq : decide (d < 8 * T' - P) = true := decide_eq_true (qk.2 hlt)
      have EP := Lib.hid eP; clear eP qk
      go_wp2
      go_round
      case rel => exact ⟨k + 1, by go_num, by omega⟩
      case measure => simp [intOf]; omega
    · have hkQ : k = Q := by omega
      have tq : decide (d < 8 * T' - P) = false := decide_eq_false (fun h => hlt (qk.1 h))
      have er := ER.out
      rw [← hkQ, eP] at er
      have wr : IntKind.i64.wrap (8 * T' - P) = R := by rw [← er]; exact IntWalk.i64_in _ (by clear eP qk; omega)
      have w8d : IntKind.i64.wrap (8 * d) = 8 * d := IntWalk.i64_in _ (by clear eP qk; omega)
      have HkQ := Lib.hid hkQ; have EP := Lib.hid eP; have WR := Lib.hid er
      clear eP qk hkQ er hlt ws
      rw [← WR.out] at tq
      go_wp2_with fail
      (with_reducible refine (HH.out _).mono ?_)
      rintro e w2 ⟨rfl, u2⟩
      have U2 := Lib.hid (U0.out.then u2); have C2 := Lib.hid (u2.heap C0.out (noB _)); clear u2
      go_wp2_with fail
      (with_reducible refine (HS.out _).mono ?_)
      rintro e w3 ⟨rfl, u3⟩
      have U3 := Lib.hid (U2.out.then u3); have C3 := Lib.hid (u3.heap C2.out (noB _)); clear u3
      obtain ⟨k0, k1, k2⟩ := cells3 C3.out
      have f0 := free_of_block C3.out 0; have f1 := free_of_block C3.out 1; have f2 := free_of_block C3.out 2
      go_wp2
      refine bodyPost_ret (results_cell_row rfl _ _ w.heap.size 88 _ (0, 0) _ rfl (set3_heap C3.out) Tryd.underlying88 rfl (by kernel_rfl)) rfl ⟨by rw [HkQ.out], upd_set3 U3.out (Nat.le_refl _) _ _ _⟩
/-- one step of the reference's lifting -/
theorem step_facts {F y M : Int} (f1 : -16384 ≤ F) (f2 : F ≤ 16384) (h1 : -M ≤ y) (h2 : y ≤ M) (hM : M ≤ 4398046511104) : ∃ z q : Int, (F * y = z ∧ wrap64 (F * y) = z ∧ wrap64 z = z) ∧ IntKind.i64.wrap (F * y) = z ∧ sc z = q ∧ (-(M + 1) ≤ q ∧ q ≤ M + 1) ∧ (∀ w, Calls Tryd.prog 91 #[.int .i64 z] w fun e w' => e = .returned (.int .i64 q) ∧ w' = w) ∧ sc (F * y) = q := by
  have m := mul_bd f1 f2 h1 h2
  have s := sc_bd f1 f2 h1 h2
  exact ⟨_, _, ⟨rfl, IntWalk.wrap64_in _ (by omega), IntWalk.wrap64_in _ (by omega)⟩, IntWalk.i64_in _ (by omega), rfl, s, fun w => rR_any _ w (by omega) (by omega), rfl⟩
set_option maxRecDepth 100000 in
set_option maxHeartbeats 2000000 in
theorem fTurn_any (q : Nat) (A B X Y : Int) (w : World) (hq : q ≤ 4) (a1 : -16384 ≤ A) (a2 : A ≤ 16384) (b1 : -16384 ≤ B) (b2 : B ≤ 16384) (hb : Bd 137438953472 (X, Y)) :
    Calls Tryd.prog 81 #[.agg #[.int .i64 q, .int .i64 A, .int .i64 B], .int .i64 X, .int .i64 Y] w fun e w' =>
      e = .returned (.tuple #[.int .i64 (forthF q A B (X, Y)).1, .int .i64 (forthF q A B (X, Y)).2]) ∧ Upd NoB w w' := by
  obtain ⟨W, hW⟩ : ∃ W, W = w.alloc (.cells #[.int .i64 q, .int .i64 A, .int .i64 B] 88) := ⟨_, rfl⟩
  have b0 : W.heap[w.heap.size]? = some (.cells #[.int .i64 q, .int .i64 A, .int .i64 B] 88 (0, 0)) := by rw [hW]; exact heap_alloc_new w _
  have U := Lib.hid (show Upd NoB w W by rw [hW]; exact (Upd.refl _ _).alloc _)
  obtain ⟨k0, k1, k2⟩ := cells3 b0
  have HW := Lib.hid hW; clear hW b0
  have HB := Lib.hid hb; clear hb
  go_enter Tryd.func81, Tryd.ntmps81
  go_wp2_with fail
  rw [← HW.out]
  go_wp2_with fail
  go_loop [1, 2, 10] (fun xv yv kv => ∃ k : Nat, kv = .int .i64 k ∧ k ≤ q ∧ xv = .int .i64 (rot (X, Y) k).1 ∧ yv = .int .i64 (rot (X, Y) k).2) (fun _ _ kv => 5 - (intOf kv).toNat)
  case atStart => exact ⟨0, rfl, Nat.zero_le _, rfl, rfl⟩
  case round =>
    obtain ⟨k, rfl, hk, rfl, rfl⟩ := hrel
    have hsm := rot_bd HB.out k
    have hnext : rot (X, Y) (k + 1) = (-(rot (X, Y) k).2, (rot (X, Y) k).1) := rfl
    obtain ⟨x, hx⟩ : ∃ x, (rot (X, Y) k).1 = x := ⟨_, rfl⟩
    obtain ⟨y, hy⟩ : ∃ y, (rot (X, Y) k).2 = y := ⟨_, rfl⟩
    unfold Bd at hsm
    rw [hx, hy] at hsm hnext
    rw [hx, hy]
    have Hnext := Lib.hid hnext; clear hnext
    have Hx := Lib.hid hx; have Hy := Lib.hid hy; clear hx hy
    by_cases hlt : k < q
    · go_wp2
      go_round
      case rel => exact ⟨k + 1, by go_num, by omega, by rw [Hnext.out], by rw [Hnext.out]⟩
      case measure => simp [intOf]; omega
    · obtain rfl : k = q := by omega
      obtain ⟨z1, q1, ⟨_, wy1', wv1⟩, wz1, s1, s1b, hR1, e1⟩ := step_facts (M := 137438953472) a1 a2 hsm.2.2.1 hsm.2.2.2 (by omega)
      obtain ⟨x1, hx1⟩ : ∃ x1, x - q1 = x1 := ⟨_, rfl⟩
      have wx1 : IntKind.i64.wrap (x - q1) = x1 := by rw [hx1]; exact IntWalk.i64_in _ (by omega)
      obtain ⟨z2, q2, ⟨_, wy2', wv2⟩, wz2, s2, s2b, hR2, e2⟩ := step_facts (F := B) (y := x1) (M := 274877906945) b1 b2 (by omega) (by omega) (by omega)
      obtain ⟨y1, hy1⟩ : ∃ y1, y + q2 = y1 := ⟨_, rfl⟩
      have wy1 : IntKind.i64.wrap (y + q2) = y1 := by rw [hy1]; exact IntWalk.i64_in _ (by omega)
      obtain ⟨z3, q3, ⟨_, wy3', wv3⟩, wz3, s3, s3b, hR3, e3⟩ := step_facts (F := A) (y := y1) (M := 412316860418) a1 a2 (by omega) (by omega) (by omega)
      have R := Lib.hid (show forthF k A B (X, Y) = (x1 - q3, y1) by
        unfold forthF liftF st0 st1
        rw [Hx.out, Hy.out]
        simp only
        have f1 : x + -1 * sc (A * y) = x1 := by rw [e1]; omega
        rw [f1]
        have f2 : y + 1 * sc (B * x1) = y1 := by rw [e2]; omega
        rw [f2, e3]
        refine Prod.ext ?_ rfl
        simp only; omega)
      have R1 := Lib.hid hR1; have R2 := Lib.hid hR2; have R3 := Lib.hid hR3
      clear hR1 hR2 hR3 e1 e2 e3 s1 s2 s3 hlt
      go_wp2_with fail
      (with_reducible refine (R1.out _).mono ?_)
      rintro e w2 ⟨rfl, rfl⟩
      go_wp2_with fail
      (with_reducible refine (R2.out _).mono ?_)
      rintro e w2 ⟨rfl, rfl⟩
      go_wp2_with fail
      (with_reducible refine (R3.out _).mono ?_)
      rintro e w2 ⟨rfl, rfl⟩
      go_wp2
      go_ret2
      exact ⟨by rw [R.out]; rfl, U.out⟩
set_option maxRecDepth 100000 in
set_option maxHeartbeats 2000000 in
theorem fBack_any (q : Nat) (A B X Y : Int) (w : World) (hq : q ≤ 4) (a1 : -16384 ≤ A) (a2 : A ≤ 16384) (b1 : -16384 ≤ B) (b2 : B ≤ 16384) (hb : Bd 137438953472 (X, Y)) :
    Calls Tryd.prog 82 #[.agg #[.int .i64 q, .int .i64 A, .int .i64 B], .int .i64 X, .int .i64 Y] w fun e w' =>
      e = .returned (.tuple #[.int .i64 (backF q A B (X, Y)).1, .int .i64 (backF q A B (X, Y)).2]) ∧ Upd NoB w w' := by
  obtain ⟨W, hW⟩ : ∃ W, W = w.alloc (.cells #[.int .i64 q, .int .i64 A, .int .i64 B] 88) := ⟨_, rfl⟩
  have b0 : W.heap[w.heap.size]? = some (.cells #[.int .i64 q, .int .i64 A, .int .i64 B] 88 (0, 0)) := by rw [hW]; exact heap_alloc_new w _
  have U := Lib.hid (show Upd NoB w W by rw [hW]; exact (Upd.refl _ _).alloc _)
  obtain ⟨k0, k1, k2⟩ := cells3 b0
  have HW := Lib.hid hW; clear hW b0
  obtain ⟨hb1, hb2, hb3, hb4⟩ := hb
  simp only at hb1 hb2 hb3 hb4
  obtain ⟨z1, q1, ⟨_, wy1', wv1⟩, wz1, s1, s1b, hR1, e1⟩ := step_facts (M := 137438953472) a1 a2 hb3 hb4 (by omega)
  obtain ⟨x1, hx1⟩ : ∃ x1, X + q1 = x1 := ⟨_, rfl⟩
  have wx1 : IntKind.i64.wrap (X + q1) = x1 := by rw [hx1]; exact IntWalk.i64_in _ (by omega)
  obtain ⟨z2, q2, ⟨_, wy2', wv2⟩, wz2, s2, s2b, hR2, e2⟩ := step_facts (F := B) (y := x1) (M := 274877906945) b1 b2 (by omega) (by omega) (by omega)
  obtain ⟨y1, hy1⟩ : ∃ y1, Y - q2 = y1 := ⟨_, rfl⟩
  have wy1 : IntKind.i64.wrap (Y - q2) = y1 := by rw [hy1]; exact IntWalk.i64_in _ (by omega)
  obtain ⟨z3, q3, ⟨_, wy3', wv3⟩, wz3, s3, s3b, hR3, e3⟩ := step_facts (F := A) (y := y1) (M := 412316860418) a1 a2 (by omega) (by omega) (by omega)
  obtain ⟨x2, hx2⟩ : ∃ x2, x1 + q3 = x2 := ⟨_, rfl⟩
  have wx2 : IntKind.i64.wrap (x1 + q3) = x2 := by rw [hx2]; exact IntWalk.i64_in _ (by omega)
  have R := Lib.hid (show backF q A B (X, Y) = rotB (x2, y1) q by
    unfold backF liftF st0 st1
    simp only
    have f1 : X + - -1 * sc (A * Y) = x1 := by rw [e1]; omega
    rw [f1]
    have f2 : Y + -1 * sc (B * x1) = y1 := by rw [e2]; omega
    rw [f2, e3]
    have f3 : x1 + - -1 * q3 = x2 := by omega
    rw [f3])
  have HB := Lib.hid (show Bd 1099511627776 (x2, y1) from ⟨by simp only; omega, by simp only; omega, by simp only; omega, by simp only; omega⟩)
  have R1 := Lib.hid hR1; have R2 := Lib.hid hR2; have R3 := Lib.hid hR3
  clear hR1 hR2 hR3 e1 e2 e3 s1 s2 s3 hx1 hx2 hy1
  go_enter Tryd.func82, Tryd.ntmps82
  go_wp2_with fail
  rw [← HW.out]
  go_wp2_with fail
  (with_reducible refine (R1.out _).mono ?_)
  rintro e w2 ⟨rfl, rfl⟩
  go_wp2_with fail
  (with_reducible refine (R2.out _).mono ?_)
  rintro e w2 ⟨rfl, rfl⟩
  go_wp2_with fail
  (with_reducible refine (R3.out _).mono ?_)
  rintro e w2 ⟨rfl, rfl⟩
  go_wp2_with fail
  go_loop [1, 2, 31] (fun xv yv kv => ∃ k : Nat, kv = .int .i64 k ∧ k ≤ q ∧ xv = .int .i64 (rotB (x2, y1) k).1 ∧ yv = .int .i64 (rotB (x2, y1) k).2) (fun _ _ kv => 5 - (intOf kv).toNat)
  case atStart => exact ⟨0, rfl, Nat.zero_le _, rfl, rfl⟩
  case round =>
    obtain ⟨k, rfl, hk, rfl, rfl⟩ := hrel
    have hsm := rotB_bd HB.out k
    have hnext : rotB (x2, y1) (k + 1) = ((rotB (x2, y1) k).2, -(rotB (x2, y1) k).1) := rfl
    obtain ⟨x, hx⟩ : ∃ x, (rotB (x2, y1) k).1 = x := ⟨_, rfl⟩
    obtain ⟨y, hy⟩ : ∃ y, (rotB (x2, y1) k).2 = y := ⟨_, rfl⟩
    unfold Bd at hsm
    rw [hx, hy] at hsm hnext
    rw [hx, hy]
    have Hnext := Lib.hid hnext; clear hnext
    have Hx := Lib.hid hx; have Hy := Lib.hid hy; clear hx hy
    by_cases hlt : k < q
    · go_wp2
      go_round
      case rel => exact ⟨k + 1, by go_num, by omega, by rw [Hnext.out], by rw [Hnext.out]⟩
      case measure => simp [intOf]; omega
    · obtain rfl : k = q := by omega
      go_wp2
      go_ret2
      exact ⟨by rw [R.out, Hx.out, Hy.out]; rfl, U.out⟩
end Go.Proofs.YtpmhioaoniijbaaDoor
