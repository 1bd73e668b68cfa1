/- linear: the law Constant -/
import Derived.Test.YtgdndcbcdoogpabTTm
import Derived.BigQuiet
namespace Go.Proofs.Ytgdndcbcdoogpab
open Go.RowKit Go.Shelf

theorem OwnR.ints {w : World} {b cap : Nat} {xs : List Int} (h : OwnR w b cap xs) (hl : xs.length ≤ 1000000) (hc : cap ≤ 1000000) : Ints w (.slice (some ⟨b, 0, none⟩) xs.length cap) xs :=
  Ints.ofRow (h.row (base := b) (Nat.le_refl _) (by unfold maxLen; omega)) (by omega)
theorem const_n {n : Int} (hn : 0 ≤ n ∧ n ≤ 255) : ∃ m : Nat, m ≤ 12 ∧ wrap64 n = n ∧ IntKind.i64.wrap n = n ∧ n.tmod 13 = (m : Int) ∧ wrap64 (m : Int) = (m : Int) ∧ IntKind.i64.wrap (m : Int) = (m : Int) := by
  have e : n.tmod 13 = n % 13 := Int.tmod_eq_emod_of_nonneg hn.1
  have h2 : ((n % 13).toNat : Int) = n % 13 := Int.toNat_of_nonneg (by omega)
  have h3 : n % 13 ≤ 12 := by omega
  have h4 : 0 ≤ n % 13 := by omega
  obtain ⟨r, hr⟩ : ∃ r, n % 13 = r := ⟨_, rfl⟩
  rw [hr] at h2 h3 h4 e
  refine ⟨r.toNat, by omega, IntWalk.wrap64_in _ ?_, IntWalk.i64_in _ ?_, by rw [h2]; exact e, IntWalk.wrap64_in _ ?_, IntWalk.i64_in _ ?_⟩
  all_goals clear e hr; omega
set_option maxRecDepth 100000 in
set_option maxHeartbeats 8000000 in
theorem constant_law (sv : Value) (xs : List Int) (v n : Int) (w : World) (h : Ints w sv xs) (hn : 0 ≤ n ∧ n ≤ 255) : Calls Try.prog 9 #[sv, .int .i64 v, .int .u8 n] w fun e w' => e = .returned (.bool true) ∧ Upd NoB w w' := by
  have HX := Lib.hid h
  obtain ⟨i0, hi, hz0, hz1, hz2⟩ := info_parts Try.infoInt
  have hxl := h.1
  obtain ⟨a, cap, rfl⟩ := h.form
  obtain ⟨L, hL⟩ : ∃ L, xs.length = L := ⟨_, rfl⟩
  have HL := Lib.hid hL
  rw [hL] at HX hxl ⊢
  obtain ⟨m, hNN⟩ := const_n hn
  have HM12 := Lib.hid hNN.1
  have HN := Lib.hid hNN.2
  clear h hL hNN hn
  by_cases h1 : 8192 < L
  · have t1 : decide ((8192 : Int) < (L : Int)) = true := decide_eq_true (by omega)
    have t1n : decide (8192 < L) = true := decide_eq_true h1
    clear h1
    go_enter Try.func9, Try.ntmps9
    go_wp2_with fail
    refine (awake_lin _).mono ?_
    rintro e z9 ⟨rfl, u9⟩
    have U9 := Lib.hid ((Upd.refl NoB w).then u9)
    clear u9
    go_wp2_with fail
    go_ret
    exact ⟨rfl, U9.out⟩
  have t1 : decide ((8192 : Int) < (L : Int)) = false := decide_eq_false (by omega)
  have t1n : decide (8192 < L) = false := decide_eq_false h1
  by_cases h2 : v < -2097152
  · have t2 : decide (v < -2097152) = true := decide_eq_true h2
    clear h1 h2
    go_enter Try.func9, Try.ntmps9
    go_wp2_with fail
    refine (awake_lin _).mono ?_
    rintro e z9 ⟨rfl, u9⟩
    have U9 := Lib.hid ((Upd.refl NoB w).then u9)
    clear u9
    go_wp2_with fail
    go_ret
    exact ⟨rfl, U9.out⟩
  have t2 : decide (v < -2097152) = false := decide_eq_false h2
  by_cases h3 : 2097152 < v
  · have t3 : decide (2097152 < v) = true := decide_eq_true h3
    clear h1 h2 h3
    go_enter Try.func9, Try.ntmps9
    go_wp2_with fail
    refine (awake_lin _).mono ?_
    rintro e z9 ⟨rfl, u9⟩
    have U9 := Lib.hid ((Upd.refl NoB w).then u9)
    clear u9
    go_wp2_with fail
    go_ret
    exact ⟨rfl, U9.out⟩
  have t3 : decide (2097152 < v) = false := decide_eq_false h3
  have HL8 := Lib.hid (show L ≤ 8192 by omega)
  obtain ⟨d1, d2, d3⟩ := const_dif (L := L) (v := v) HL8.out ⟨by omega, by omega⟩
  have HD1 := Lib.hid d1; have HD2 := Lib.hid d2; have HD3 := Lib.hid d3
  obtain ⟨D, hD⟩ : ∃ D, diS (List.replicate L v) 1 = D := ⟨_, rfl⟩
  have PD := Lib.hid (fun W V (hv : Ints W V (List.replicate L v)) => (show Calls Try.prog 17 #[V, .int .i64 1] W (EInts W D 0) by
    have := Differ_any V (List.replicate L v) 1 W hv
    rw [d1, hD] at this
    exact this))
  rw [hD] at HD2 HD3
  have PZ := Lib.hid (fun W V (hv : Ints W V (List.replicate L 0)) => (show Calls Try.prog 22 #[V, .int .i64 (m : Int)] W (EInts W (List.replicate m 0) 0) by
    have := Reflect_any V (List.replicate L 0) (m : Int) W hv
    rw [(rf_zeros HL8.out HM12.out).1, (rf_zeros HL8.out HM12.out).2] at this
    exact this))
  have PR := Lib.hid (fun W (u : Upd NoB w W) => (show Calls Try.prog 22 #[.slice a L cap, .int .i64 (m : Int)] W (EInts W (rfS xs (m : Int)) (ckE 2097152 xs)) by
    have := Reflect_any _ xs (m : Int) W (HX.out.later u)
    rw [(rf_ok HM12.out).1] at this
    exact this))
  have hLL : ((L : Int) != (L : Int)) = false := by simp
  have hvv : (v != v) = false := by simp
  have hvd : decide (v = v) = true := decide_eq_true rfl
  have hL8 : L ≤ 8192 := HL8.out
  clear h1 h2 h3 d1 d2 d3 hD
  go_enter Try.func9, Try.ntmps9
  go_wp2_with (refine wpList_make_full w rfl _ _ 22 rfl w.heap.size 3 i0 (.int .i64 0) 1 Try.underlying22 hi hz0 hz1 .i64 .i64 _ _ L rfl rfl rfl rfl (by rw [hz2]; omega) (by unfold maxLen; omega) (Nat.le_refl _) ?_)
  intro w1 hown hgr
  rw [made_zero] at hown
  have u1 : Upd NoB w w1 := (Upd.refl _ _).grown hgr (fun k e => by cases e)
  obtain ⟨G, hG⟩ : ∃ G, w.heap.size = G := ⟨_, rfl⟩
  rw [hG] at hown ⊢
  have HO1 := Lib.hid (show OwnR w1 G L (List.replicate L 0) from (OwnR.of (xs := List.replicate L 0) (by rw [List.length_replicate]; exact hown)).1)
  have U1 := Lib.hid u1; have HGs := Lib.hid hG
  clear hown hgr u1 hG
  go_wp2_with fail
  go_loopw [39] (fun i wr => ∃ (k : Nat) (ys : List Int), k ≤ L ∧ i = .int .i64 k ∧ OwnR wr G L ys ∧ FstV v L k ys ∧ Upd NoB w wr) (fun i _ => L - (intOf i).toNat)
  case atStart => exact ⟨0, List.replicate L 0, Nat.zero_le _, rfl, HO1.out, ⟨by simp, fun j hj => by omega⟩, U1.out⟩
  case round =>
    obtain ⟨k, ys, hk, rfl, ho, hy, hu⟩ := hrel
    have HO := Lib.hid ho; have HY := Lib.hid hy; have HU := Lib.hid hu
    by_cases hlt : k < L
    · obtain ⟨c0, f0⟩ := ho.cell (k := k) (by rw [hy.1]; exact hlt)
      have HE1 := Lib.hid (show OwnR (wr.setCell ⟨G, k, none⟩ (.int .i64 v)) G L (ys.set k v) ∧ FstV v L (k + 1) (ys.set k v) ∧ Upd NoB w (wr.setCell ⟨G, k, none⟩ (.int .i64 v)) from ⟨ho.set k (by rw [hy.1]; exact hlt) v, hy.set hlt, hu.setCell _ (fun h => by have h : G < w.heap.size := h; have := HGs.out; omega)⟩)
      clear ho hy hu
      go_wp2_with fail
      go_roundw
      case rel => exact ⟨k + 1, _, by omega, by go_num, HE1.out.1, HE1.out.2.1, HE1.out.2.2⟩
      case measure => simp [intOf]; omega
    · obtain rfl : k = L := by omega
      obtain rfl := hy.all
      have IS := Lib.hid (show Ints wr (.slice (some ⟨G, 0, none⟩) k k) (List.replicate k v) by
        have := ho.ints (by rw [List.length_replicate]; omega) (by omega)
        rw [List.length_replicate] at this
        exact this)
      clear ho hy hlt HO HY hu
      go_wp2_with fail
      refine (PD.out wr _ IS.out).mono ?_
      intro e w2 hr
      obtain ⟨a2, c2, rfl, i2, u2⟩ := EInts.open hr (by rw [HD2.out]; omega)
      rw [HD2.out] at i2 ⊢
      have U2 := Lib.hid (HU.out.then u2); have I2 := Lib.hid i2
      clear hr i2 u2 IS HU
      go_wp2_with fail
      go_loop [63] (fun i => ∃ j : Nat, j ≤ k ∧ i = .int .i64 j) (fun i => k - (intOf i).toNat)
      case atStart => exact ⟨0, Nat.zero_le _, rfl⟩
      case round =>
        obtain ⟨j, hj, rfl⟩ := hrel
        by_cases hlt : j < k
        · have hx := HD3.out j hlt
          by_cases j0 : j = 0
          · subst j0
            rw [if_pos rfl] at hx
            obtain ⟨tb, toff, rfl, d0⟩ := I2.out.cellAt hx
            rw [Nat.add_zero] at d0
            have hki : (0 : Int) < (k : Int) := by omega
            clear hx
            go_wp2_with fail
            go_round
            case rel => exact ⟨0 + 1, by omega, by go_num⟩
            case measure => simp [intOf]; omega
          · rw [if_neg j0] at hx
            obtain ⟨tb, toff, rfl, d0⟩ := I2.out.cellAt hx
            have g1 : ((j : Int) == 0) = false := by rw [beq_eq_false_iff_ne]; omega
            have g2 : decide ((j : Int) = 0) = false := decide_eq_false (by omega)
            have g3 : decide (j = 0) = false := decide_eq_false j0
            have g4 : decide ((0 : Int) < (j : Int)) = true := decide_eq_true (by omega)
            have g5 : decide (0 < j) = true := decide_eq_true (by omega)
            clear hx
            go_wp2_with fail
            go_round
            case rel => exact ⟨j + 1, by omega, by go_num⟩
            case measure => simp [intOf]; omega
        · obtain rfl : j = k := by omega
          clear hlt
          obtain ⟨n1, n2, n3, n4, n5⟩ := HN.out
          go_wp2_with (refine wpList_make_full w2 rfl _ _ 22 rfl w2.heap.size 3 i0 (.int .i64 0) 1 Try.underlying22 hi hz0 hz1 .i64 .i64 _ _ j rfl rfl rfl rfl (by clear n1 n2 n3 n4 n5; rw [hz2]; omega) (by clear n1 n2 n3 n4 n5; unfold maxLen; omega) (Nat.le_refl _) ?_)
          intro w3 hown hgr
          rw [made_zero] at hown
          have u3 : Upd NoB w2 w3 := (Upd.refl _ _).grown hgr (fun k e => by cases e)
          have IZ := Lib.hid (show Ints w3 (.slice (some ⟨w2.heap.size, 0, none⟩) j j) (List.replicate j 0) from row_ints hown (by simp) (by clear n1 n2 n3 n4 n5; omega))
          have U3 := Lib.hid (U2.out.then u3)
          clear hown hgr u3
          go_wp2_with fail
          refine (PZ.out w3 _ IZ.out).mono ?_
          intro e w4 hr
          obtain ⟨a4, c4, rfl, i4, u4⟩ := EInts.open hr (by clear n1 n2 n3 n4 n5; rw [List.length_replicate]; have := HM12.out; omega)
          rw [List.length_replicate] at i4 ⊢
          have U4 := Lib.hid (U3.out.then u4); have I4 := Lib.hid i4
          clear hr i4 u4 IZ
          go_wp2_with fail
          obtain ⟨w5, hrun, hown, hgr⟩ := run_make_full (P := Try.prog) w4 w4.heap.size 22 3 i0 (.int .i64 0) 1 Try.underlying22 hi hz0 hz1 .i64 .i64 m (by clear n1 n2 n3 n4 n5; rw [hz2]; have := HM12.out; omega) (by clear n1 n2 n3 n4 n5; unfold maxLen; have := HM12.out; omega) (Nat.le_refl _)
          rw [hrun]
          simp only [Result.andThen, Oper.upon]
          clear hrun
          rw [show (Value.int .i64 0).cells = #[Value.int .i64 0] by simp [Value.cells], Nat.mul_one, made_zero] at hown
          have u5 : Upd NoB w4 w5 := (Upd.refl _ _).grown hgr (fun k e => by cases e)
          have IM := Lib.hid (show Ints w5 (.slice (some ⟨w4.heap.size, 0, none⟩) m m) (List.replicate m 0) from row_ints hown (by simp) (by clear n1 n2 n3 n4 n5; have := HM12.out; omega))
          have U5 := Lib.hid (U4.out.then u5); have I5 := Lib.hid (I4.out.later u5)
          clear hown hgr u5
          go_wp2_with fail
          refine (qints_any _ _ (List.replicate m 0) (List.replicate m 0) w5 I5.out IM.out).mono ?_
          rw [intsB_self]
          rintro e w6 ⟨rfl, m6, hw6⟩
          have U6 := Lib.hid (show Upd NoB w w6 by rw [hw6]; exact upd_drewN U5.out _)
          clear hw6 IM I5 I4
          go_wp2_with fail
          refine (PR.out w6 U6.out).mono ?_
          intro e w7 hr
          by_cases hc : ckE 2097152 xs = 0
          · obtain ⟨hKl, hKi⟩ := rf_facts HM12.out hc
            have HH := Lib.hid (fun h0 => rf_head HM12.out h0 hc)
            rw [hc] at hr
            obtain ⟨hl, hin⟩ := ckE_ok hc
            have HP := Lib.hid (fun k => like_part hin hl 1 k)
            have HSt := Lib.hid (fun k (hk : k + 1 < j) => (show ∃ x y, xs[k]? = some x ∧ xs[k + 1]? = some y ∧ (-4611686018427387904 ≤ x * y ∧ x * y ≤ 4611686018427387904) ∧ dotK xs (xs.drop 1) (k + 1) = dotK xs (xs.drop 1) k + x * y by
              have e1 : xs[k]? = some (xs.getD k 0) := getD_of (by rw [HL.out]; omega)
              have e2 : xs[k + 1]? = some (xs.getD (k + 1) 0) := getD_of (by rw [HL.out]; exact hk)
              have e3 : (xs.drop 1)[k]? = some (xs.getD (k + 1) 0) := by rw [List.getElem?_drop, Nat.add_comm 1 k]; exact e2
              exact ⟨_, _, e1, e2, like_mul (m := 1) hin e1 e3, dotK_succ _ _ _ _ _ e1 e3⟩))
            have HAll := Lib.hid (show dotK xs (xs.drop 1) (j - 1) = dotL xs (xs.drop 1) by
              have := dotK_all xs (xs.drop 1)
              rw [List.length_drop, HL.out, Nat.min_eq_right (Nat.sub_le j 1)] at this
              exact this)
            have HZ := Lib.hid (show dotK xs (xs.drop 1) 0 = 0 by unfold dotK; rw [List.take_zero, dotL_nil])
            have HKl := Lib.hid hKl; have HKi := Lib.hid (fun k x hx => inM_yes hKi x (List.mem_of_getElem? (i := k) hx))
            obtain ⟨K, hK⟩ : ∃ K, rfS xs (m : Int) = K := ⟨_, rfl⟩
            rw [hK] at hr HKl HKi HH
            obtain ⟨a7, c7, rfl, i7, u7⟩ := EInts.open hr (by clear n1 n2 n3 n4 n5; rw [HKl.out]; have := HM12.out; omega)
            rw [HKl.out] at i7 ⊢
            have U7 := Lib.hid (U6.out.then u7); have I7 := Lib.hid i7
            clear hr i7 u7 hl hin hKl hKi hK hc
            by_cases m0 : m = 0
            · have q1 : ((m : Int) == 0) = true := by rw [m0]; rfl
              have q2 : decide ((m : Int) = 0) = true := by rw [m0]; rfl
              have q3 : decide (m = 0) = true := by rw [m0]; rfl
              clear n1 n2 n3 n4 n5
              go_wp2_with fail
              refine (awake_lin _).mono ?_
              rintro e z9 ⟨rfl, u9⟩
              have U9 := Lib.hid (U7.out.then u9)
              clear u9
              go_wp2_with fail
              go_ret
              exact ⟨rfl, U9.out⟩
            · have q1 : ((m : Int) == 0) = false := by rw [beq_eq_false_iff_ne]; omega
              have q2 : decide ((m : Int) = 0) = false := decide_eq_false (by omega)
              have q3 : decide (m = 0) = false := decide_eq_false m0
              obtain ⟨k0, hk0, s1, s2⟩ := HH.out (by omega)
              have HK0 := Lib.hid hk0; have HS1 := Lib.hid s1; have HS2 := Lib.hid s2; have HM0 := Lib.hid m0
              clear n1 n2 n3 n4 n5 hk0 s1 s2 m0 HH
              generalize dotK xs (xs.drop 1) = DK at *
              generalize dotL xs (xs.drop 1) = DL at *
              go_wp2_with fail
              go_loopw [18, 19] (fun s i wr => ∃ k mq : Nat, k ≤ j - 1 ∧ i = .int .i64 k ∧ s = .int .i64 (DK k) ∧ wr = w7.drewN mq) (fun _ i _ => j - (intOf i).toNat)
              case atStart => exact ⟨0, 0, Nat.zero_le _, rfl, by rw [HZ.out], rfl⟩
              case round =>
                obtain ⟨k, mq, hk, rfl, rfl, rfl⟩ := hrel
                by_cases hlt : k + 1 < j
                · obtain ⟨x, y, hx, hy, hq, hst⟩ := HSt.out k hlt
                  obtain ⟨bb, off, ha, c0⟩ := (HX.out.later U7.out).cellAt hx
                  obtain ⟨bb', off', ha', c1⟩ := (HX.out.later U7.out).cellAt hy
                  subst ha
                  cases ha'
                  have p0 := HP.out k
                  have p1 := HP.out (k + 1)
                  rw [hst] at p1
                  obtain ⟨q, hqq⟩ : ∃ q, x * y = q := ⟨_, rfl⟩
                  rw [hqq] at hq hst p1
                  have HSt1 := Lib.hid hst
                  obtain ⟨k1, hk1⟩ : ∃ k1, k + 1 = k1 := ⟨_, rfl⟩
                  rw [hk1] at HSt1 c1
                  have HK1 := Lib.hid hk1
                  generalize DK k = S at *
                  have e1 : wrap64 (x * y) = q := by rw [hqq]; exact IntWalk.wrap64_in _ (by omega)
                  have e2 : IntKind.i64.wrap (x * y) = q := by rw [hqq]; exact IntWalk.i64_in _ (by omega)
                  have e3 : wrap64 (S + q) = S + q := IntWalk.wrap64_in _ (by clear e1 e2; omega)
                  have e4 : IntKind.i64.wrap (S + q) = S + q := IntWalk.i64_in _ (by clear e1 e2 e3; omega)
                  have e5 : wrap64 ((k : Int) + 1) = (k1 : Int) := by rw [IntWalk.wrap64_in _ (by clear e1 e2 e3 e4; omega)]; clear e1 e2 e3 e4; omega
                  have e6 : IntKind.i64.wrap ((k : Int) + 1) = (k1 : Int) := by rw [IntWalk.i64_in _ (by clear e1 e2 e3 e4 e5; omega)]; clear e1 e2 e3 e4 e5; omega
                  have l1 : k1 < j := by clear e1 e2 e3 e4 e5 e6; omega
                  have l0 : k < j := by clear e1 e2 e3 e4 e5 e6; omega
                  have l1i : (k1 : Int) < (j : Int) := by clear e1 e2 e3 e4 e5 e6; omega
                  have l0i : (k : Int) < (j : Int) := by clear e1 e2 e3 e4 e5 e6; omega
                  clear hx hy hq hst p0 p1 hqq hk1 hlt hk
                  go_wp2
                  go_quiet (fail)
                  go_wp2
                  go_roundw
                  case rel => exact ⟨k1, mq + nq, by have := HK1.out; clear e1 e2 e3 e4 e5 e6; omega, rfl, by rw [HSt1.out], rfl⟩
                  case measure => have := HK1.out; clear e1 e2 e3 e4 e5 e6; simp [intOf]; omega
                · have hkj : k = j - 1 := by omega
                  have e7 : wrap64 ((k : Int) + 1) = (k : Int) + 1 := IntWalk.wrap64_in _ (by omega)
                  have e8 : IntKind.i64.wrap ((k : Int) + 1) = (k : Int) + 1 := IntWalk.i64_in _ (by clear e7; omega)
                  have l2 : ((k : Int) + 1 < (j : Int)) = False := eq_false (by clear e7 e8; omega)
                  have l3 : decide ((k : Int) + 1 < (j : Int)) = false := decide_eq_false (by clear e7 e8; omega)
                  have HDk := Lib.hid (show DK k = DL by rw [hkj]; exact HAll.out)
                  rw [HDk.out]
                  have U8 := Lib.hid (upd_drewN U7.out mq)
                  have I8 := Lib.hid (I7.out.later (upd_drewN (Upd.refl NoB w7) mq))
                  clear hkj hlt hk
                  generalize w7.drewN mq = w8 at *
                  go_wp2_with fail
                  go_loop [138] (fun i => ∃ p : Nat, p ≤ m ∧ i = .int .i64 p) (fun i => m - (intOf i).toNat)
                  case atStart => exact ⟨0, Nat.zero_le _, rfl⟩
                  case round =>
                    obtain ⟨p, hp, rfl⟩ := hrel
                    have hm12 : m ≤ 12 := HM12.out
                    by_cases hlt : p < m
                    · obtain ⟨x, hx⟩ : ∃ x, K[p]? = some x := ⟨_, List.getElem?_eq_getElem (by rw [HKl.out]; exact hlt)⟩
                      obtain ⟨b1, b2⟩ := HKi.out p x hx
                      obtain ⟨tb, toff, rfl, d0⟩ := I8.out.cellAt hx
                      have s1 : decide (x < -127) = false := decide_eq_false (by clear e7 e8; omega)
                      have s2 : decide ((127 : Int) < x) = false := decide_eq_false (by clear e7 e8; omega)
                      clear hx e7 e8
                      go_wp2_with fail
                      go_round
                      case rel => exact ⟨p + 1, by omega, by go_num⟩
                      case measure => simp [intOf]; omega
                    · obtain rfl : p = m := by clear e7 e8; omega
                      have hmm : ((p : Int) == (p : Int)) = true := by simp
                      have hpp : 0 < p := by have := HM0.out; clear e7 e8; omega
                      have hppi : (0 : Int) < (p : Int) := by clear e7 e8; omega
                      obtain ⟨tb, toff, rfl, d0⟩ := I8.out.cellAt HK0.out
                      rw [Nat.add_zero] at d0
                      clear e7 e8 hlt hp hm12
                      by_cases z0 : k0 = 0
                      · subst z0
                        go_wp2_with fail
                        refine (awake_lin _).mono ?_
                        rintro e z9 ⟨rfl, u9⟩
                        have U9 := Lib.hid (U8.out.then u9)
                        clear u9
                        go_wp2_with fail
                        go_ret
                        exact ⟨rfl, U9.out⟩
                      · have z1 : (k0 == 0) = false := by rw [beq_eq_false_iff_ne]; exact z0
                        have z2 : decide (k0 = 0) = false := decide_eq_false z0
                        by_cases z3 : k0 < 0
                        · have z4 : decide (k0 < 0) = true := decide_eq_true z3
                          have z5 : decide (0 < DL) = true := decide_eq_true (HS1.out z3)
                          clear z0 z3
                          go_wp2_with fail
                          refine (awake_lin _).mono ?_
                          rintro e z9 ⟨rfl, u9⟩
                          have U9 := Lib.hid (U8.out.then u9)
                          clear u9
                          go_wp2_with fail
                          go_ret
                          exact ⟨rfl, U9.out⟩
                        · have z4 : decide (k0 < 0) = false := decide_eq_false z3
                          have z5 : decide (0 < DL) = false := decide_eq_false (by have := HS2.out (by omega); omega)
                          clear z0 z3
                          go_wp2_with fail
                          refine (awake_lin _).mono ?_
                          rintro e z9 ⟨rfl, u9⟩
                          have U9 := Lib.hid (U8.out.then u9)
                          clear u9
                          go_wp2_with fail
                          go_ret
                          exact ⟨rfl, U9.out⟩
          · have hS : rfS xs (m : Int) = [] := if_neg (by rw [(rf_ok HM12.out).1]; exact hc)
            rw [hS] at hr
            obtain ⟨C, hC⟩ : ∃ C, ckE 2097152 xs = C := ⟨_, rfl⟩
            rw [hC] at hr hc
            obtain ⟨a7, c7, rfl, i7, u7⟩ := EInts.open hr (by decide)
            have U7 := Lib.hid (U6.out.then u7)
            have hc0 : (C == 0) = false := beq_eq_false_iff_ne.2 hc
            clear hr i7 u7 hS hc hC n1 n2 n3 n4 n5
            go_wp2_with fail
            refine (awake_lin _).mono ?_
            rintro e z9 ⟨rfl, u9⟩
            have U9 := Lib.hid (U7.out.then u9)
            clear u9
            go_wp2_with fail
            go_ret
            exact ⟨rfl, U9.out⟩
end Go.Proofs.Ytgdndcbcdoogpab
