/- quant: the reference's scales; the law Scales -/
import Derived.Test.YteioaeceobgbdaaQXb
namespace Go.Proofs.Yteioaeceobgbdaa
open Go.RowKit Go.Shelf

theorem mx_top {xs : List Int} (hin : inM 2097152 xs = true) : mxL (xs.map szI) ≤ 2097152 := by
  have := (mxL_bd (szI_in hin) (xs.map szI).length (Nat.le_refl _)).2
  rw [List.take_length] at this
  exact this
set_option maxRecDepth 100000 in
set_option maxHeartbeats 4000000 in
theorem rleast_any (sv : Value) (xs : List Int) (w : World) (h : Ints w sv xs) (hl : xs.length ≤ 128) (hin : inM 2097152 xs = true) : Calls Try.prog 68 #[sv] w fun e w' => e = .returned (.int .i64 (lsN (mxL (xs.map szI)) : Nat)) ∧ Upd NoB w w' := by
  have HGr := Lib.hid (rgreat_any sv xs w h (by omega) hin)
  have HIf := Lib.hid (fun (s : Nat) (hs : s ≤ 95) => lsN_iff (g := mxL (xs.map szI)) (mx_top hin) hs)
  have HP := Lib.hid (fun W => (show Calls Try.prog 43 #[.int .i64 1023] W fun e w' => e = .returned (.int .i64 (pwN 1023 : Nat)) ∧ w' = W from rpower_any 1023 W (by decide)))
  have HS := Lib.hid (fun (s : Nat) (hs : s ≤ 95) W => rstands_any s 1023 W hs (by omega))
  have hls := lsN_le (mxL (xs.map szI))
  obtain ⟨a, cap, rfl⟩ := h.form
  generalize mxL (xs.map szI) = g at *
  generalize lsN g = R at *
  generalize pwN 1023 = p at *
  generalize xs.length = L at *
  clear h hin hl
  go_enter Try.func68, Try.ntmps68
  go_wp2_with fail
  refine (HP.out _).mono ?_
  rintro e w1 ⟨rfl, hw⟩
  rw [hw]
  clear hw w1
  go_wp2_with fail
  refine HGr.out.mono ?_
  rintro e w1 ⟨rfl, hw⟩
  rw [hw]
  clear hw w1
  go_wp2_with fail
  go_loopw [3] (fun i wr => ∃ k : Nat, k ≤ R ∧ i = .int .i64 k ∧ Upd NoB w wr) (fun i _ => 96 - (intOf i).toNat)
  case atStart => exact ⟨0, Nat.zero_le _, rfl, Upd.refl _ _⟩
  case round =>
    obtain ⟨k, hk, rfl, hu⟩ := hrel
    have HU := Lib.hid hu
    have HSk := Lib.hid (HS.out k (by omega) wr)
    have hif := HIf.out k (by omega)
    generalize vlN k 1023 = t at *
    have hk6 : k ≤ 1000000 := by omega
    have hk7 : k ≤ 95 := by omega
    clear hu
    by_cases hlt : k < R
    · have t1 : decide (t < g) = true := decide_eq_true (by omega)
      clear hif hls hk
      go_wp2_with fail
      refine HSk.out.mono ?_
      rintro e w2 ⟨rfl, u2⟩
      have U2 := Lib.hid (HU.out.then u2)
      clear u2
      go_wp2_with fail
      go_roundw
      case rel => exact ⟨k + 1, by omega, by go_num, U2.out⟩
      case measure => simp [intOf]; omega
    · obtain rfl : k = R := by omega
      have t1 : decide (t < g) = false := decide_eq_false (by omega)
      clear hif hls hk hlt
      go_wp2_with fail
      refine HSk.out.mono ?_
      rintro e w2 ⟨rfl, u2⟩
      have U2 := Lib.hid (HU.out.then u2)
      clear u2
      go_wp2_with fail
      go_ret
      exact ⟨rfl, U2.out⟩
set_option maxRecDepth 100000 in
set_option maxHeartbeats 2000000 in
theorem rLeastX_any (sv : Value) (xs : List Int) (w : World) (h : Ints w sv xs) : Calls Try.prog 28 #[sv] w fun e w' => e = .returned (.tuple #[.int .i64 (lstV xs), .int .i64 (ckQ 2097152 xs)]) ∧ Upd NoB w w' := by
  have HC := Lib.hid (rlist_any sv xs 2097152 w (by decide) h)
  by_cases h2 : ckQ 2097152 xs = 0
  · obtain ⟨hl, hin⟩ := ckQ_ok h2
    have HL := Lib.hid (rleast_any sv xs w h hl hin)
    have hV : lstV xs = ((lsN (mxL (xs.map szI)) : Nat) : Int) := if_pos h2
    rw [hV, h2]
    rw [h2] at HC
    obtain ⟨a, cap, rfl⟩ := h.form
    generalize lsN (mxL (xs.map szI)) = R at *
    generalize xs.length = L at *
    clear h h2 hV hl hin
    go_enter Try.func28, Try.ntmps28
    go_wp2_with fail
    refine HC.out.mono ?_
    rintro e w1 ⟨rfl, hw⟩
    rw [hw]
    clear hw w1
    go_wp2_with fail
    refine HL.out.mono ?_
    rintro e w2 ⟨rfl, u2⟩
    have U2 := Lib.hid u2
    clear u2
    go_wp2_with fail
    go_ret2
    exact ⟨rfl, U2.out⟩
  · have hV : lstV xs = 0 := if_neg h2
    rw [hV]
    generalize ckQ 2097152 xs = E at *
    have t1 : (E != 0) = true := bne_iff_ne.2 h2
    obtain ⟨a, cap, rfl⟩ := h.form
    generalize xs.length = L at *
    clear h h2 hV
    go_enter Try.func28, Try.ntmps28
    go_wp2_with fail
    refine HC.out.mono ?_
    rintro e w1 ⟨rfl, hw⟩
    rw [hw]
    clear hw w1
    go_wp2_with fail
    go_ret2
    exact ⟨rfl, Upd.refl _ _⟩
set_option maxRecDepth 100000 in
set_option maxHeartbeats 4000000 in
theorem rMBy_any (pv sv : Value) (xs : List Int) (lim : Int) (w : World) (hp : Ints w pv (powL 1024)) (h : Ints w sv xs) (hl : xs.length ≤ 128) (hin : inM 2097152 xs = true) : Calls Try.prog 71 #[pv, sv, .int .i64 lim] w fun e w' => ∃ V : Int, e = .returned (.tuple #[.int .i64 V, .bool (mosN (mosP (xs.map szI) lim) 96).isSome]) ∧ (∀ m, mosN (mosP (xs.map szI) lim) 96 = some m → V = (m : Nat)) ∧ Upd NoB w w' := by
  have HLe := Lib.hid (rleast_any sv xs w h hl hin)
  have HIf := Lib.hid (fun (s : Nat) (hs : s ≤ 95) => lsN_iff (g := mxL (xs.map szI)) (mx_top hin) hs)
  have HN := Lib.hid (fun (s : Nat) (hs : s ≤ 95) W (u : Upd NoB w W) => rNBy_any pv sv xs s W hs (hp.later u) (h.later u) hl hin)
  have HPi := Lib.hid (fun (s : Nat) => mosP_iff (cs := xs.map szI) (lim := lim) (s := s))
  have hls := lsN_le (mxL (xs.map szI))
  obtain ⟨a, cap, rfl⟩ := h.form
  obtain ⟨pa, pc, rfl⟩ := hp.form
  generalize xs.map szI = cs at *
  generalize (powL 1024).length = PL at *
  generalize mxL cs = g at *
  generalize lsN g = R at *
  generalize xs.length = L at *
  have HLs := Lib.hid hls
  clear h hp hin hl hls
  go_enter Try.func71, Try.ntmps71
  go_wp2_with fail
  refine HLe.out.mono ?_
  rintro e w1 ⟨rfl, u1⟩
  have U1 := Lib.hid u1
  clear u1
  go_wp2_with fail
  go_loopw [9] (fun i wr => ∃ z : Int, (-1 ≤ z ∧ z ≤ 95 ∧ (R : Int) - 1 ≤ z) ∧ i = .int .i64 z ∧ (∀ j : Nat, z < j → j ≤ 95 → ¬ nsL j cs ≤ lim) ∧ Upd NoB w wr) (fun i _ => (intOf i + 1).toNat)
  case atStart => exact ⟨95, by have := HLs.out; omega, rfl, fun j h1 h2 => by omega, U1.out⟩
  case round =>
    obtain ⟨z, hz, rfl, hno, hu⟩ := hrel
    have HU := Lib.hid hu; have HNo := Lib.hid hno
    by_cases hlt : (R : Int) ≤ z
    · obtain ⟨s, rfl⟩ : ∃ s : Nat, z = (s : Int) := ⟨z.toNat, by omega⟩
      have HNs := Lib.hid (HN.out s (by omega) wr hu)
      have t1 : decide ((R : Int) ≤ (s : Int)) = true := decide_eq_true hlt
      have t2 : decide (R ≤ s) = true := decide_eq_true (by omega)
      have z1 : wrap64 ((s : Int) - 1) = (s : Int) - 1 := IntWalk.wrap64_in _ (by omega)
      have z2 : IntKind.i64.wrap ((s : Int) - 1) = (s : Int) - 1 := IntWalk.i64_in _ (by clear z1; omega)
      have HR := Lib.hid (fun (hn : nsL s cs ≤ lim) => (show mosN (mosP cs lim) 96 = some s from mosN_some ((HPi.out s).2 ⟨(HIf.out s (by clear z1 z2; omega)).2 (by clear z1 z2; omega), hn⟩) (by clear z1 z2; omega) (fun j h1 h2 => by
        cases hj : mosP cs lim j with
        | false => rfl
        | true => exact absurd ((HPi.out j).1 hj).2 (hno j (by clear z1 z2; omega) (by clear z1 z2; omega)))))
      have HZ := Lib.hid hz
      clear hu hno hz hlt
      by_cases hn : nsL s cs ≤ lim
      · have t3 : decide (nsL s cs ≤ lim) = true := decide_eq_true hn
        have HRs := Lib.hid (HR.out hn)
        generalize nsL s cs = n at *
        clear hn
        go_wp2_with fail
        refine HNs.out.mono ?_
        rintro e w2 ⟨rfl, u2⟩
        have U2 := Lib.hid (HU.out.then u2)
        clear u2
        go_wp2_with fail
        go_ret2
        rw [HRs.out]
        exact ⟨_, rfl, fun m hm => by cases hm; rfl, U2.out⟩
      · have t3 : decide (nsL s cs ≤ lim) = false := decide_eq_false hn
        have HN2 := Lib.hid (show ∀ j : Nat, (s : Int) - 1 < j → j ≤ 95 → ¬ nsL j cs ≤ lim from fun j h1 h2 => by
          by_cases e : j = s
          · subst e; exact hn
          · exact HNo.out j (by clear z1 z2; omega) h2)
        obtain ⟨n, hn'⟩ : ∃ n, nsL s cs = n := ⟨_, rfl⟩
        rw [hn'] at HNs t3
        clear hn hn' HR
        go_wp2_with fail
        refine HNs.out.mono ?_
        rintro e w2 ⟨rfl, u2⟩
        have U2 := Lib.hid (HU.out.then u2)
        clear u2
        go_wp2_with fail
        go_roundw
        case rel => exact ⟨(s : Int) - 1, by have := HZ.out; clear z1 z2; simp at t1; omega, rfl, fun j a b => Int.not_le.2 (HN2.out j a b), U2.out⟩
        case measure => have := HZ.out; clear z1 z2; simp [intOf]
    · have t1 : decide ((R : Int) ≤ z) = false := decide_eq_false hlt
      have HR := Lib.hid (show mosN (mosP cs lim) 96 = none from mosN_none (fun j hj => by
        cases hm : mosP cs lim j with
        | false => rfl
        | true =>
          have h1 := (HPi.out j).1 hm
          have h2 := (HIf.out j (by omega)).1 h1.1
          exact absurd h1.2 (hno j (by omega) (by omega))))
      clear hlt hu hno hz
      go_wp2_with fail
      go_ret2
      rw [HR.out]
      exact ⟨_, rfl, fun m hm => (by cases hm), HU.out⟩
set_option maxRecDepth 100000 in
set_option maxHeartbeats 4000000 in
theorem rMostX_any (sv : Value) (xs : List Int) (lim : Int) (w : World) (h : Ints w sv xs) : Calls Try.prog 30 #[sv, .int .i64 lim] w fun e w' => e = .returned (.tuple #[.int .i64 (mstV xs lim), .int .i64 (mstE xs lim)]) ∧ Upd NoB w w' := by
  have HC := Lib.hid (rlist_any sv xs 2097152 w (by decide) h)
  by_cases h3 : lim < 0
  · have hE : mstE xs lim = 1 := if_neg (by omega)
    have hV : mstV xs lim = 0 := by unfold mstV; rw [hE, if_neg (by decide)]
    rw [hE, hV]
    have t1 : decide (lim < 0) = true := decide_eq_true h3
    obtain ⟨a, cap, rfl⟩ := h.form
    generalize xs.length = L at *
    clear h h3 hE hV HC
    go_enter Try.func30, Try.ntmps30
    go_wp2_with fail
    go_ret2
    exact ⟨rfl, Upd.refl _ _⟩
  have t1 : decide (lim < 0) = false := decide_eq_false h3
  by_cases h4 : 72057594037927936 < lim
  · have hE : mstE xs lim = 1 := if_neg (by omega)
    have hV : mstV xs lim = 0 := by unfold mstV; rw [hE, if_neg (by decide)]
    rw [hE, hV]
    have t2 : decide (72057594037927936 < lim) = true := decide_eq_true h4
    obtain ⟨a, cap, rfl⟩ := h.form
    generalize xs.length = L at *
    clear h h3 h4 hE hV HC
    go_enter Try.func30, Try.ntmps30
    go_wp2_with fail
    go_ret2
    exact ⟨rfl, Upd.refl _ _⟩
  have t2 : decide (72057594037927936 < lim) = false := decide_eq_false h4
  by_cases h2 : ckQ 2097152 xs = 0
  · obtain ⟨hl, hin⟩ := ckQ_ok h2
    have hE : mstE xs lim = if (mosN (mosP (xs.map szI) lim) 96).isSome then 0 else 5 := by unfold mstE; rw [if_pos (by omega), if_pos h2]
    have hV : mstV xs lim = if mstE xs lim = 0 then (((mosN (mosP (xs.map szI) lim) 96).getD 0 : Nat) : Int) else 0 := rfl
    rw [h2] at HC
    have HP := Lib.hid (fun W => rPowers_any W)
    have HM := Lib.hid (fun pv W (u : Upd NoB w W) (hp : Ints W pv (powL 1024)) => rMBy_any pv sv xs lim W hp (h.later u) hl hin)
    obtain ⟨a, cap, rfl⟩ := h.form
    generalize mstV xs lim = V at *
    generalize mstE xs lim = E at *
    generalize mosN (mosP (xs.map szI) lim) 96 = O at *
    generalize xs.length = L at *
    clear h h2 h3 h4 hl hin
    cases O with
    | none =>
      replace hE : E = 5 := hE
      replace hV : V = 0 := by rw [hV, if_neg (by rw [hE]; decide)]
      subst hE hV
      go_enter Try.func30, Try.ntmps30
      go_wp2_with fail
      refine HC.out.mono ?_
      rintro e w1 ⟨rfl, hw⟩
      rw [hw]
      clear hw w1
      go_wp2_with fail
      refine (HP.out _).mono ?_
      rintro e w2 ⟨pa, pc, rfl, i2, u2⟩
      have I2 := Lib.hid i2; have U2 := Lib.hid u2
      clear i2 u2
      go_wp2_with fail
      refine (HM.out _ _ U2.out I2.out).mono ?_
      rintro e w3 ⟨V', rfl, _, u3⟩
      have U3 := Lib.hid (U2.out.then u3)
      clear u3
      have t5 : (none : Option Nat).isSome = false := rfl
      rw [t5]
      clear t5
      go_wp2_with fail
      go_ret2
      exact ⟨rfl, U3.out⟩
    | some m =>
      replace hE : E = 0 := hE
      replace hV : V = (m : Int) := by rw [hV, if_pos hE]; rfl
      subst hE hV
      go_enter Try.func30, Try.ntmps30
      go_wp2_with fail
      refine HC.out.mono ?_
      rintro e w1 ⟨rfl, hw⟩
      rw [hw]
      clear hw w1
      go_wp2_with fail
      refine (HP.out _).mono ?_
      rintro e w2 ⟨pa, pc, rfl, i2, u2⟩
      have I2 := Lib.hid i2; have U2 := Lib.hid u2
      clear i2 u2
      go_wp2_with fail
      refine (HM.out _ _ U2.out I2.out).mono ?_
      rintro e w3 ⟨V', rfl, hv, u3⟩
      obtain rfl := hv m rfl
      have U3 := Lib.hid (U2.out.then u3)
      clear u3 hv
      have t5 : (some m).isSome = true := rfl
      rw [t5]
      clear t5
      go_wp2_with fail
      go_ret2
      exact ⟨rfl, U3.out⟩
  · have hE : mstE xs lim = ckQ 2097152 xs := by unfold mstE; rw [if_pos (by omega), if_neg h2]
    have hV : mstV xs lim = 0 := by unfold mstV; rw [hE, if_neg h2]
    rw [hE, hV]
    generalize ckQ 2097152 xs = E at *
    have t3 : (E != 0) = true := bne_iff_ne.2 h2
    obtain ⟨a, cap, rfl⟩ := h.form
    generalize xs.length = L at *
    clear h h2 h3 h4 hE hV
    go_enter Try.func30, Try.ntmps30
    go_wp2_with fail
    refine HC.out.mono ?_
    rintro e w1 ⟨rfl, hw⟩
    rw [hw]
    clear hw w1
    go_wp2_with fail
    go_ret2
    exact ⟨rfl, Upd.refl _ _⟩
set_option maxRecDepth 100000 in
set_option maxHeartbeats 8000000 in
theorem scales_qu (cv : Value) (cs : List Int) (lim : Int) (w : World) (hc : Ints w cv cs) : Calls Try.prog 5 #[cv, .int .i64 lim] w fun e w' => e = .returned (.bool true) ∧ Upd NoB w w' := by
  have X0 := Lib.hid hc
  have H1 := Lib.hid (fun W (h : Ints W cv cs) => Least_any cv cs W h); have H2 := Lib.hid (fun W (h : Ints W cv cs) => rLeastX_any cv cs W h)
  have H3 := Lib.hid (fun W (h : Ints W cv cs) => Most_any cv cs lim W h); have H4 := Lib.hid (fun W (h : Ints W cv cs) => rMostX_any cv cs lim W h)
  obtain ⟨ca, cc, rfl⟩ := hc.form
  generalize lstV cs = A at *
  generalize ckQ 2097152 cs = E at *
  generalize mstV cs lim = B at *
  generalize mstE cs lim = F at *
  generalize cs.length = L at *
  clear hc
  by_cases h1 : 24 < L
  · by_cases h2 : L ≤ 128
    · have pa : decide ((24 : Int) < (L : Int)) = true := decide_eq_true (by omega)
      have pb : decide (24 < L) = true := decide_eq_true (by omega)
      have qa : decide ((L : Int) ≤ 128) = true := decide_eq_true (by omega)
      have qb : decide (L ≤ 128) = true := decide_eq_true (by omega)
      clear h1 h2
      go_enter Try.func5, Try.ntmps5
      go_wp2_with fail
      refine (awake_qu _).mono ?_
      rintro e w1 ⟨rfl, u1⟩
      have UU1 := Lib.hid ((Upd.refl NoB w).then u1)
      clear u1
      go_wp2_with fail
      go_ret
      exact ⟨rfl, UU1.out⟩
    · by_cases h3 : 200 < L
      · have h9 := h3
        have pa : decide ((24 : Int) < (L : Int)) = true := decide_eq_true (by omega)
        have pb : decide (24 < L) = true := decide_eq_true (by omega)
        have qa : decide ((L : Int) ≤ 128) = false := decide_eq_false (by omega)
        have qb : decide (L ≤ 128) = false := decide_eq_false (by omega)
        have ra : decide ((200 : Int) < (L : Int)) = true := decide_eq_true (by omega)
        have rb : decide (200 < L) = true := decide_eq_true (by omega)
        clear h1 h2 h3 h9
        go_enter Try.func5, Try.ntmps5
        go_wp2_with fail
        refine (awake_qu _).mono ?_
        rintro e w1 ⟨rfl, u1⟩
        have UU1 := Lib.hid ((Upd.refl NoB w).then u1)
        clear u1
        go_wp2_with fail
        go_ret
        exact ⟨rfl, UU1.out⟩
      · have h9 := h3
        have pa : decide ((24 : Int) < (L : Int)) = true := decide_eq_true (by omega)
        have pb : decide (24 < L) = true := decide_eq_true (by omega)
        have qa : decide ((L : Int) ≤ 128) = false := decide_eq_false (by omega)
        have qb : decide (L ≤ 128) = false := decide_eq_false (by omega)
        have ra : decide ((200 : Int) < (L : Int)) = false := decide_eq_false (by omega)
        have rb : decide (200 < L) = false := decide_eq_false (by omega)
        clear h1 h2 h3 h9
        go_enter Try.func5, Try.ntmps5
        go_wp2_with fail
        refine (H1.out _ X0.out).mono ?_
        rintro e w1 ⟨rfl, u1⟩
        have X1 := Lib.hid (X0.out.later u1)
        clear X0
        have UU1 := Lib.hid ((Upd.refl NoB w).then u1)
        clear u1
        go_wp2_with fail
        refine (H2.out _ X1.out).mono ?_
        rintro e w2 ⟨rfl, u2⟩
        have X2 := Lib.hid (X1.out.later u2)
        clear X1
        have UU2 := Lib.hid (UU1.out.then u2)
        clear UU1
        clear u2
        go_wp2_with fail
        refine (H3.out _ X2.out).mono ?_
        rintro e w3 ⟨rfl, u3⟩
        have X3 := Lib.hid (X2.out.later u3)
        clear X2
        have UU3 := Lib.hid (UU2.out.then u3)
        clear UU2
        clear u3
        go_wp2_with fail
        refine (H4.out _ X3.out).mono ?_
        rintro e w4 ⟨rfl, u4⟩
        have X4 := Lib.hid (X3.out.later u4)
        clear X3
        have UU4 := Lib.hid (UU3.out.then u4)
        clear UU3
        clear u4
        go_wp2_with fail
        refine (awake_qu _).mono ?_
        rintro e w5 ⟨rfl, u5⟩
        have X5 := Lib.hid (X4.out.later u5)
        clear X4
        have UU5 := Lib.hid (UU4.out.then u5)
        clear UU4
        clear u5
        go_wp2_with fail
        go_ret
        exact ⟨rfl, UU5.out⟩
  · have h9 := h1
    have pa : decide ((24 : Int) < (L : Int)) = false := decide_eq_false (by omega)
    have pb : decide (24 < L) = false := decide_eq_false (by omega)
    have ra : decide ((200 : Int) < (L : Int)) = false := decide_eq_false (by omega)
    have rb : decide (200 < L) = false := decide_eq_false (by omega)
    clear h1 h9
    go_enter Try.func5, Try.ntmps5
    go_wp2_with fail
    refine (H1.out _ X0.out).mono ?_
    rintro e w1 ⟨rfl, u1⟩
    have X1 := Lib.hid (X0.out.later u1)
    clear X0
    have UU1 := Lib.hid ((Upd.refl NoB w).then u1)
    clear u1
    go_wp2_with fail
    refine (H2.out _ X1.out).mono ?_
    rintro e w2 ⟨rfl, u2⟩
    have X2 := Lib.hid (X1.out.later u2)
    clear X1
    have UU2 := Lib.hid (UU1.out.then u2)
    clear UU1
    clear u2
    go_wp2_with fail
    refine (H3.out _ X2.out).mono ?_
    rintro e w3 ⟨rfl, u3⟩
    have X3 := Lib.hid (X2.out.later u3)
    clear X2
    have UU3 := Lib.hid (UU2.out.then u3)
    clear UU2
    clear u3
    go_wp2_with fail
    refine (H4.out _ X3.out).mono ?_
    rintro e w4 ⟨rfl, u4⟩
    have X4 := Lib.hid (X3.out.later u4)
    clear X3
    have UU4 := Lib.hid (UU3.out.then u4)
    clear UU3
    clear u4
    go_wp2_with fail
    refine (awake_qu _).mono ?_
    rintro e w5 ⟨rfl, u5⟩
    have X5 := Lib.hid (X4.out.later u5)
    clear X4
    have UU5 := Lib.hid (UU4.out.then u5)
    clear UU4
    clear u5
    go_wp2_with fail
    go_ret
    exact ⟨rfl, UU5.out⟩
end Go.Proofs.Yteioaeceobgbdaa
