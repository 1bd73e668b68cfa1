/- the law of quarters -/
import Derived.Test.YtpmhioaoniijbaaDoorJT
namespace Go.Proofs.YtpmhioaoniijbaaDoor
open Go.RowKit Go.Shelf

theorem turnF_quarter {n d : Int} {m : Nat} {p : Int × Int} (hd : 1 ≤ d) (h : 4 * (n % d) = m * d) : turnF n d p = rot p m := by
  have q : (8 * (n % d) + d - 1) / (2 * d) = (m : Int) := by
    refine ediv_of (r := d - 1) (by omega) ?_ (by omega) (by omega)
    have e : 2 * d * (m : Int) = 2 * (m * d) := by grind
    rw [e, ← h]; omega
  have hq : turQ n d = m := by unfold turQ; rw [q]; rfl
  have hr : turR n d = 0 := by
    unfold turR
    rw [hq]
    have e : 2 * (m : Int) * d = 2 * (m * d) := by grind
    rw [e, ← h]; omega
  have ha : turA n d = 0 := by
    unfold turA hlfV hlfS
    rw [hr]
    have : tanR 0 = 0 := by decide +kernel
    simp [this]
  have hb : turB n d = 0 := by
    unfold turB
    rw [hr]
    have : (cir (0 * (16384 / (8 * d)))).2 = 0 := by rw [Int.zero_mul]; decide +kernel
    exact this
  unfold turnF forthF
  rw [hq, ha, hb]
  unfold liftF st0 st1
  simp [sc]
theorem turP_four {u : Nat} (h : u < 10) : turP ((4 * 2 ^ u : Nat) : Int) = true := by
  have := turP_mk (k := u + 2) (by omega)
  rw [Nat.pow_add, Nat.mul_comm] at this
  exact this
theorem mod_quarter (n : Int) (u : Nat) : 4 * (n * ((2 ^ u : Nat) : Int) % ((4 * 2 ^ u : Nat) : Int)) = ((n % 4).toNat : Nat) * ((4 * 2 ^ u : Nat) : Int) := by
  have h4 := Int.emod_nonneg n (show (4 : Int) ≠ 0 by decide)
  have h3 := Int.emod_lt_of_pos n (show (0 : Int) < 4 by decide)
  have e : ((4 * 2 ^ u : Nat) : Int) = 4 * ((2 ^ u : Nat) : Int) := by push_cast; rfl
  have hp := Nat.two_pow_pos u
  have dm := Int.mul_ediv_add_emod n 4
  obtain ⟨P, hP⟩ : ∃ P : Int, ((2 ^ u : Nat) : Int) = P := ⟨_, rfl⟩
  rw [e, hP]
  have hP0 : 0 < P := by omega
  have a1 := Int.mul_nonneg h4 (show 0 ≤ P by omega)
  have a2 := Int.mul_le_mul_of_nonneg_right (show n % 4 ≤ 3 by omega) (show 0 ≤ P by omega)
  have key : n * P % (4 * P) = n % 4 * P := ((Int.ediv_emod_unique (q := n / 4) (show 0 < 4 * P by omega)).2 ⟨by grind, a1, by omega⟩).2
  rw [key, Int.toNat_of_nonneg h4]
  grind
theorem mod_half (n : Int) (h : n % 2 = 0) : 4 * (n / 2 % 2) = ((n % 4).toNat : Nat) * 2 := by omega
theorem quart_facts {x y n : Int} {u : Nat} (hu : u < 10) (hx : -1073741824 ≤ x ∧ x ≤ 1073741824) (hy : -1073741824 ≤ y ∧ y ≤ 1073741824) (hn : -1073741824 ≤ n ∧ n ≤ 1073741824) :
    ttE 1073741824 x y (n * ((2 ^ u : Nat) : Int)) ((4 * 2 ^ u : Nat) : Int) = 0 ∧ turnV x y (n * ((2 ^ u : Nat) : Int)) ((4 * 2 ^ u : Nat) : Int) = rot (x, y) (n % 4).toNat ∧
      (n % 2 = 0 → ttE 1073741824 x y (n / 2) 2 = 0 ∧ turnV x y (n / 2) 2 = rot (x, y) (n % 4).toNat) := by
  have hb : (inB 1073741824 x && inB 1073741824 y) = true := by unfold inB; simp only [Bool.and_eq_true, decide_eq_true_eq]; exact ⟨hx, hy⟩
  have p := turP_four hu
  have hp := Nat.pow_le_pow_right (show 0 < 2 by omega) (show u ≤ 9 by omega)
  have hp0 := Nat.two_pow_pos u
  have mb := abs_mul (a := n) (b := ((2 ^ u : Nat) : Int)) (M := 1073741824) (N := 512) hn.1 hn.2 (by omega) (by omega)
  have e1 : turE (n * ((2 ^ u : Nat) : Int)) ((4 * 2 ^ u : Nat) : Int) = 0 := by
    rcases turE_cases (n * ((2 ^ u : Nat) : Int)) ((4 * 2 ^ u : Nat) : Int) with h | h | h
    · rw [p] at h; exact absurd h.1 (by decide)
    · omega
    · exact h.2.2.2
  have t1 : ttE 1073741824 x y (n * ((2 ^ u : Nat) : Int)) ((4 * 2 ^ u : Nat) : Int) = 0 := by unfold ttE; rw [if_pos e1, hb]; rfl
  refine ⟨t1, ?_, fun h2 => ?_⟩
  · unfold turnV
    rw [if_pos t1]
    exact turnF_quarter (by omega) (mod_quarter n u)
  · have p2 : turP 2 = true := turP_mk (k := 1) (by omega)
    have e2 : turE (n / 2) 2 = 0 := by
      rcases turE_cases (n / 2) 2 with h | h | h
      · rw [p2] at h; exact absurd h.1 (by decide)
      · omega
      · exact h.2.2.2
    have t2 : ttE 1073741824 x y (n / 2) 2 = 0 := by unfold ttE; rw [if_pos e2, hb]; rfl
    refine ⟨t2, ?_⟩
    unfold turnV
    rw [if_pos t2]
    exact turnF_quarter (by omega) (mod_half n h2)
set_option maxRecDepth 100000 in
set_option maxHeartbeats 2000000 in
theorem quart_law (x y n m : Int) (w : World) (hx : -9223372036854775808 ≤ x ∧ x ≤ 9223372036854775807) (hy : -9223372036854775808 ≤ y ∧ y ≤ 9223372036854775807) (hn : -9223372036854775808 ≤ n ∧ n ≤ 9223372036854775807) (hm : -9223372036854775808 ≤ m ∧ m ≤ 9223372036854775807) (hp : Parts w) :
    Calls Tryd.prog 8 #[.int .i64 x, .int .i64 y, .agg #[.int .i64 n, .int .i64 m]] w fun e w' => e = .returned (.bool true) ∧ Upd NoB w w' := by
  obtain ⟨W, hW⟩ : ∃ W, W = w.alloc (.cells #[.int .i64 n, .int .i64 m] 27) := ⟨_, rfl⟩
  have b0 : W.heap[w.heap.size]? = some (.cells #[.int .i64 n, .int .i64 m] 27 (0, 0)) := by rw [hW]; exact heap_alloc_new w _
  have u : Upd NoB w W := by rw [hW]; exact (Upd.refl _ _).alloc _
  have P0 := Lib.hid (hp.upd u (noB 0))
  have U0 := Lib.hid u
  have HB := Lib.hid (fun (w' : World) (u : Upd NoB W w') => (show w'.cell? ⟨w.heap.size, 0, none⟩ = some (.int .i64 n) ∧ w'.cell? ⟨w.heap.size, 1, none⟩ = some (.int .i64 m) from ⟨cell_of_block0 (u.heap b0 (noB _)), cell_of_block1 (u.heap b0 (noB _))⟩))
  have HW := Lib.hid hW
  clear hW b0 u hp
  obtain ⟨k0, k1⟩ := HB.out W (Upd.refl _ _)
  by_cases t1c : x < -1073741824
  · have t1 : decide (x < -1073741824) = true := decide_eq_true t1c
    go_enter Tryd.func8, Tryd.ntmps8
    go_wp2_with fail
    rw [← HW.out]
    go_wp2_with fail
    (with_reducible refine (jawake_any _ P0.out).mono ?_)
    rintro e w1 ⟨rfl, u1⟩
    have U1 := Lib.hid u1; clear u1
    go_wp2
    go_ret
    exact ⟨rfl, U0.out.then U1.out⟩
  have t1 : decide (x < -1073741824) = false := decide_eq_false t1c
  by_cases t2c : 1073741824 < x
  · have t2 : decide (1073741824 < x) = true := decide_eq_true t2c
    go_enter Tryd.func8, Tryd.ntmps8
    go_wp2_with fail
    rw [← HW.out]
    go_wp2_with fail
    (with_reducible refine (jawake_any _ P0.out).mono ?_)
    rintro e w1 ⟨rfl, u1⟩
    have U1 := Lib.hid u1; clear u1
    go_wp2
    go_ret
    exact ⟨rfl, U0.out.then U1.out⟩
  have t2 : decide (1073741824 < x) = false := decide_eq_false t2c
  by_cases t3c : y < -1073741824
  · have t3 : decide (y < -1073741824) = true := decide_eq_true t3c
    go_enter Tryd.func8, Tryd.ntmps8
    go_wp2_with fail
    rw [← HW.out]
    go_wp2_with fail
    (with_reducible refine (jawake_any _ P0.out).mono ?_)
    rintro e w1 ⟨rfl, u1⟩
    have U1 := Lib.hid u1; clear u1
    go_wp2
    go_ret
    exact ⟨rfl, U0.out.then U1.out⟩
  have t3 : decide (y < -1073741824) = false := decide_eq_false t3c
  by_cases t4c : 1073741824 < y
  · have t4 : decide (1073741824 < y) = true := decide_eq_true t4c
    go_enter Tryd.func8, Tryd.ntmps8
    go_wp2_with fail
    rw [← HW.out]
    go_wp2_with fail
    (with_reducible refine (jawake_any _ P0.out).mono ?_)
    rintro e w1 ⟨rfl, u1⟩
    have U1 := Lib.hid u1; clear u1
    go_wp2
    go_ret
    exact ⟨rfl, U0.out.then U1.out⟩
  have t4 : decide (1073741824 < y) = false := decide_eq_false t4c
  by_cases t5c : n < -1073741824
  · have t5 : decide (n < -1073741824) = true := decide_eq_true t5c
    go_enter Tryd.func8, Tryd.ntmps8
    go_wp2_with fail
    rw [← HW.out]
    go_wp2_with fail
    (with_reducible refine (jawake_any _ P0.out).mono ?_)
    rintro e w1 ⟨rfl, u1⟩
    have U1 := Lib.hid u1; clear u1
    go_wp2
    go_ret
    exact ⟨rfl, U0.out.then U1.out⟩
  have t5 : decide (n < -1073741824) = false := decide_eq_false t5c
  by_cases t6c : 1073741824 < n
  · have t6 : decide (1073741824 < n) = true := decide_eq_true t6c
    go_enter Tryd.func8, Tryd.ntmps8
    go_wp2_with fail
    rw [← HW.out]
    go_wp2_with fail
    (with_reducible refine (jawake_any _ P0.out).mono ?_)
    rintro e w1 ⟨rfl, u1⟩
    have U1 := Lib.hid u1; clear u1
    go_wp2
    go_ret
    exact ⟨rfl, U0.out.then U1.out⟩
  have t6 : decide (1073741824 < n) = false := decide_eq_false t6c
  have x1 : -1073741824 ≤ x := by omega
  have x2 : x ≤ 1073741824 := by omega
  have y1 : -1073741824 ≤ y := by omega
  have y2 : y ≤ 1073741824 := by omega
  have n1 : -1073741824 ≤ n := by omega
  have n2 : n ≤ 1073741824 := by omega
  obtain ⟨u, hu, hu10⟩ : ∃ u : Nat, (IntKind.u64.wrap m).tmod 10 = (u : Int) ∧ u < 10 := by
    have e : IntKind.u64.wrap m = m % 18446744073709551616 := rfl
    rw [e, Int.tmod_eq_emod_of_nonneg (by omega)]
    exact ⟨(m % 18446744073709551616 % 10).toNat, by omega, by omega⟩
  have hq4 : (IntKind.u64.wrap n).tmod 4 = ((n % 4).toNat : Int) := by
    have e : IntKind.u64.wrap n = n % 18446744073709551616 := rfl
    rw [e, Int.tmod_eq_emod_of_nonneg (by omega)]
    omega
  obtain ⟨f1, f2, f3⟩ := quart_facts (x := x) (y := y) (n := n) hu10 ⟨x1, x2⟩ ⟨y1, y2⟩ ⟨n1, n2⟩
  have hp9 := Nat.pow_le_pow_right (show 0 < 2 by omega) (show u ≤ 9 by omega)
  have hp0 := Nat.two_pow_pos u
  have hD : ((4 * 2 ^ u : Nat) : Int) = 4 * ((2 ^ u : Nat) : Int) := by push_cast; rfl
  have wsh : wrap64 ((4 : Int) * 2 ^ u) = ((4 * 2 ^ u : Nat) : Int) := by
    have e : (4 : Int) * 2 ^ u = ((4 * 2 ^ u : Nat) : Int) := by push_cast; rfl
    rw [e]; exact IntWalk.wrap64_in _ (by omega)
  have hsh : ∀ w, (Op.shift BinOp.shl IntKind.i64 4 IntKind.u64 (u : Int)).run Tryd.prog w = .ok (.int .i64 ((4 * 2 ^ u : Nat) : Int)) w := fun w => by
    rw [run_shl w _ _ _ _ (by omega) (by have : IntKind.i64.bits = 64 := rfl; omega), Int.toNat_natCast]
    have e : (4 : Int) * 2 ^ u = ((4 * 2 ^ u : Nat) : Int) := by push_cast; rfl
    rw [e, IntWalk.i64_in _ (by omega)]
  have T1 := turn_any x y (n * ((2 ^ u : Nat) : Int)) ((4 * 2 ^ u : Nat) : Int)
  rw [f1, f2] at T1
  have mb := abs_mul (a := n) (b := ((2 ^ u : Nat) : Int)) (M := 1073741824) (N := 512) n1 n2 (by omega) (by omega)
  obtain ⟨P, eP⟩ : ∃ P : Int, ((2 ^ u : Nat) : Int) = P := ⟨_, rfl⟩
  obtain ⟨D, eD⟩ : ∃ D : Int, ((4 * 2 ^ u : Nat) : Int) = D := ⟨_, rfl⟩
  rw [eP] at T1 hD mb
  rw [eD] at T1 hsh hD wsh
  obtain ⟨N, eN⟩ : ∃ N : Int, n * P = N := ⟨_, rfl⟩
  rw [eN] at T1 mb
  have wN : IntKind.i64.wrap (n * P) = N := by rw [eN]; exact IntWalk.i64_in _ (by omega)
  have dq : D / 4 = P := by omega
  have dt : D.tdiv 4 = P := by rw [Int.tdiv_eq_ediv_of_nonneg (by omega)]; exact dq
  have D0 : 0 ≤ D := by omega
  have D9 : D ≤ 2048 := by omega
  have wP : IntKind.i64.wrap P = P := IntWalk.i64_in _ (by omega)
  have wP' : wrap64 P = P := IntWalk.wrap64_in _ (by omega)
  have wN' : wrap64 (n * P) = N := by rw [eN]; exact IntWalk.wrap64_in _ (by omega)
  have wN2 : wrap64 N = N := IntWalk.wrap64_in _ (by omega)
  obtain ⟨M, eM⟩ : ∃ M : Nat, (n % 4).toNat = M := ⟨_, rfl⟩
  have hM4 : M ≤ 3 := by omega
  rw [eM] at T1 f3 hq4
  have HB2 := Lib.hid (show Bd 1073741824 (x, y) from ⟨x1, x2, y1, y2⟩)
  have F3 := Lib.hid f3
  have HT := Lib.hid T1
  clear f1 f2 f3 T1 hD eP eD eN eM mb hp9 hp0
  go_enter Tryd.func8, Tryd.ntmps8
  go_wp2_with fail
  rw [← HW.out]
  go_wp2_with fail
  (with_reducible refine (HT.out _ P0.out).mono ?_)
  rintro e w1 ⟨rfl, u1⟩
  have U1 := Lib.hid u1; clear u1 k0 k1
  obtain ⟨k0, k1⟩ := HB.out w1 U1.out
  obtain ⟨RX, eX⟩ : ∃ RX, (rot (x, y) M).1 = RX := ⟨_, rfl⟩
  obtain ⟨RY, eY⟩ : ∃ RY, (rot (x, y) M).2 = RY := ⟨_, rfl⟩
  rw [eX, eY]
  have EX := Lib.hid eX; have EY := Lib.hid eY; clear eX eY
  go_wp2_with fail
  go_loop [12, 13, 68] (fun uv vv kv => ∃ k : Nat, kv = .int .u64 k ∧ k ≤ M ∧ uv = .int .i64 (rot (x, y) k).1 ∧ vv = .int .i64 (rot (x, y) k).2) (fun _ _ kv => 4 - (intOf kv).toNat)
  case atStart => exact ⟨0, rfl, Nat.zero_le _, rfl, rfl⟩
  case round =>
    obtain ⟨k, rfl, hk, rfl, rfl⟩ := hrel
    have hsm := rot_bd HB2.out k
    have hnext : rot (x, y) (k + 1) = (-(rot (x, y) k).2, (rot (x, y) k).1) := rfl
    obtain ⟨xx, hxx⟩ : ∃ xx, (rot (x, y) k).1 = xx := ⟨_, rfl⟩
    obtain ⟨yy, hyy⟩ : ∃ yy, (rot (x, y) k).2 = yy := ⟨_, rfl⟩
    unfold Bd at hsm
    rw [hxx, hyy] at hsm hnext
    rw [hxx, hyy]
    have Hnext := Lib.hid hnext; clear hnext
    have Hx := Lib.hid hxx; have Hy := Lib.hid hyy; clear hxx hyy
    by_cases hlt : k < M
    · go_wp2
      go_round
      case rel => exact ⟨k + 1, by go_num, by omega, by rw [Hnext.out], by rw [Hnext.out]⟩
      case measure => simp [intOf]; omega
    · obtain rfl : k = M := by omega
      have exx : xx = RX := by rw [← Hx.out]; exact EX.out
      have eyy : yy = RY := by rw [← Hy.out]; exact EY.out
      subst exx eyy
      clear hlt
      by_cases h2 : n % 2 = 0
      · have tm : n.tmod 2 = 0 := by have := @Int.tmod_eq_emod n 2; have h := Int.dvd_of_emod_eq_zero h2; exact Int.tmod_eq_zero_of_dvd h
        have td : n.tdiv 2 = n / 2 := Int.tdiv_eq_ediv_of_dvd (Int.dvd_of_emod_eq_zero h2)
        have wd : IntKind.i64.wrap (n / 2) = n / 2 := IntWalk.i64_in _ (by omega)
        have wd' : wrap64 (n / 2) = n / 2 := IntWalk.wrap64_in _ (by omega)
        obtain ⟨g1, g2⟩ := F3.out h2
        have T2 := turn_any x y (n / 2) 2
        rw [g1, g2, EX.out, EY.out] at T2
        have HT2 := Lib.hid T2
        clear g1 g2 T2
        go_wp2_with fail
        (with_reducible refine (HT2.out _ (P0.out.upd U1.out (noB 0))).mono ?_)
        rintro e w2 ⟨rfl, u2⟩
        have U2 := Lib.hid (U1.out.then u2); clear u2 k0 k1
        go_wp2_with fail
        (with_reducible refine (jawake_any _ (P0.out.upd U2.out (noB 0))).mono ?_)
        rintro e w3 ⟨rfl, u3⟩
        have U3 := Lib.hid ((U0.out.then U2.out).then u3); clear u3
        go_wp2
        go_ret
        exact ⟨rfl, U3.out⟩
      · have tm : (n.tmod 2 == 0) = false := beq_eq_false_iff_ne.2 (fun h => h2 (Int.emod_eq_zero_of_dvd (Int.dvd_of_tmod_eq_zero h)))
        go_wp2_with fail
        (with_reducible refine (jawake_any _ (P0.out.upd U1.out (noB 0))).mono ?_)
        rintro e w3 ⟨rfl, u3⟩
        have U3 := Lib.hid ((U0.out.then U1.out).then u3); clear u3
        go_wp2
        go_ret
        exact ⟨rfl, U3.out⟩
end Go.Proofs.YtpmhioaoniijbaaDoor
