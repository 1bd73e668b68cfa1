/- quant: the reference's Nearest, Table, Quantum; the law One -/
import Derived.Test.YteioaeceobgbdaaQX
namespace Go.Proofs.Yteioaeceobgbdaa
open Go.RowKit Go.Shelf

theorem tv_open {w : World} {tv : Value} {s n k0 : Nat} (h : Ints w tv (valL s n)) (h0 : k0 < n) : ∃ b off cap, tv = .slice (some ⟨b, off, none⟩) n cap ∧ ∀ (k : Nat), k < n → ∀ W, Upd NoB w W → W.cell? ⟨b, off + k, none⟩ = some (.int .i64 (vlN s k)) := by
  obtain ⟨a, cap, rfl⟩ := h.form
  obtain ⟨b, off, rfl, _⟩ := h.cellAt (valL_get h0)
  refine ⟨b, off, cap, by rw [valL_len], fun k hk W u => ?_⟩
  obtain ⟨b', off', e, c1⟩ := h.cellAt (valL_get hk)
  cases e
  exact u.cell c1 (noB _)
theorem nr_sz {c C : Int} (h : max c (-c) = C) : ((c.natAbs : Nat) : Int) = C := by omega
set_option maxRecDepth 100000 in
set_option maxHeartbeats 8000000 in
theorem rnear_any (c : Int) (tv : Value) (s n : Nat) (w : World) (hs : s ≤ 95) (hn1 : 1 ≤ n) (hn : n ≤ 1024) (hc : -2097152 ≤ c ∧ c ≤ 2097152) (ht : n = 1024 ∨ max c (-c) ≤ vlN s (n - 1)) (h : Ints w tv (valL s n)) : Calls Try.prog 51 #[.int .i64 c, tv] w fun e w' => e = .returned (.int .i64 (sgQ s c)) ∧ Upd NoB w w' := by
  have HX := Lib.hid (fun W (u : Upd NoB w W) => h.later u)
  have HG := Lib.hid (fun (q : Nat) (hq : q < n) => valL_get (s := s) hq)
  obtain ⟨C, hC⟩ : ∃ C : Int, max c (-c) = C := ⟨_, rfl⟩
  have hsg : sgQ s c = if c < 0 then -((qtN s C : Nat) : Int) else (qtN s C : Nat) := by unfold sgQ; rw [nr_sz hC]
  have hCb : 0 ≤ C ∧ C ≤ 2097152 := by omega
  have HF := Lib.hid (fun (v : Int) W (h : Ints W tv (valL s n)) => rfirst_any tv s n v W hs hn h)
  have hln := valL_len s n
  rw [hC] at ht
  have z1 : wrap64 (-c) = -c := IntWalk.wrap64_in _ (by omega)
  have z2 : IntKind.i64.wrap (-c) = -c := IntWalk.i64_in _ (by clear z1; omega)
  have hqb := qtN_le s C
  have z3 : wrap64 (-((qtN s C : Nat) : Int)) = -((qtN s C : Nat) : Int) := IntWalk.wrap64_in _ (by clear z1 z2; omega)
  have z4 : IntKind.i64.wrap (-((qtN s C : Nat) : Int)) = -((qtN s C : Nat) : Int) := IntWalk.i64_in _ (by clear z1 z2 z3; omega)
  rw [hsg]
  clear hsg hqb
  by_cases ha : fiN s n C = n
  · have hall : vlN s (n - 1) < C := fiN_no (by rw [ha]; clear z1 z2 z3 z4; omega)
    obtain rfl : n = 1024 := by clear z1 z2 z3 z4; omega
    have hq := near_top hs (C := C) hall
    have hb := fi_back hs (show 1023 < 1024 by omega) (Nat.le_refl _) (show vlN s 1023 < 2097152 by have hall : vlN s 1023 < C := hall; clear z1 z2 z3 z4; omega)
    have HF1 := Lib.hid (fun W h => HF.out C W h)
    rw [ha] at HF1
    have HF2 := Lib.hid (fun W h => HF.out (vlN s 1023) W h)
    rw [hb] at HF2
    rw [hq] at z3 z4 ⊢
    obtain ⟨b, off, cap, htv, c0⟩ := tv_open h (show 1023 < 1024 by omega)
    rw [htv] at HF1 HF2 HX ⊢
    have HC0 := Lib.hid (c0 1023 (by omega))
    generalize valL s 1024 = T at *
    generalize vlN s 1023 = v at *
    clear h hs hn hn1 hc ht hCb ha hall hq hb hln htv c0 HF HG
    by_cases hneg : c < 0
    · have t9 : decide (c < 0) = true := decide_eq_true hneg
      rw [if_pos hneg]
      clear hneg
      go_enter Try.func51, Try.ntmps51
      go_wp2_with fail
      refine (HF1.out _ (HX.out _ (Upd.refl _ _))).mono ?_
      rintro e w1 ⟨rfl, hw⟩
      rw [hw]
      clear hw w1
      have e0 := HC0.out _ (Upd.refl NoB w)
      go_wp2_with fail
      go_quiet (fail)
      have UQ := Lib.hid (show Upd NoB w (w.drewN nq) from upd_drewN (Upd.refl _ _) _)
      have e0 := HC0.out _ UQ.out
      go_wp2_with fail
      refine (HF2.out _ (HX.out _ UQ.out)).mono ?_
      rintro e w2 ⟨rfl, hw⟩
      rw [hw]
      clear hw w2
      go_wp2_with fail
      go_ret
      exact ⟨rfl, UQ.out⟩
    · have t9 : decide (c < 0) = false := decide_eq_false hneg
      rw [if_neg hneg]
      clear hneg
      go_enter Try.func51, Try.ntmps51
      go_wp2_with fail
      refine (HF1.out _ (HX.out _ (Upd.refl _ _))).mono ?_
      rintro e w1 ⟨rfl, hw⟩
      rw [hw]
      clear hw w1
      have e0 := HC0.out _ (Upd.refl NoB w)
      go_wp2_with fail
      go_quiet (fail)
      have UQ := Lib.hid (show Upd NoB w (w.drewN nq) from upd_drewN (Upd.refl _ _) _)
      have e0 := HC0.out _ UQ.out
      go_wp2_with fail
      refine (HF2.out _ (HX.out _ UQ.out)).mono ?_
      rintro e w2 ⟨rfl, hw⟩
      rw [hw]
      clear hw w2
      go_wp2_with fail
      go_ret
      exact ⟨rfl, UQ.out⟩
  · have hle := fiN_le s n C
    have hf := fi_fs hn1 hn (show fiN s n C < n by clear z1 z2 z3 z4; omega)
    have hyes := fiN_yes (show fiN s n C < n by clear z1 z2 z3 z4; omega)
    have hback := fun (h0 : 0 < fiN s n C) => fi_back hs (show fiN s n C - 1 < n by clear z1 z2 z3 z4; omega) hn (show vlN s (fiN s n C - 1) < 2097152 by
      have := fiN_no (s := s) (n := n) (v := C) (j := fiN s n C - 1) (by clear z1 z2 z3 z4; omega)
      clear z1 z2 z3 z4
      omega)
    have hq : qtN s C = if 0 < fiN s n C ∧ C - vlN s (fiN s n C - 1) ≤ vlN s (fiN s n C) - C then fiN s n C - 1 else fiN s n C := by unfold qtN; rw [hf]
    have HF1 := Lib.hid (fun W h => HF.out C W h)
    have HF2 := Lib.hid (fun W h (h0 : 0 < fiN s n C) => (show Calls Try.prog 97 #[tv, .int .i64 (vlN s (fiN s n C - 1))] W fun e w' => e = .returned (.int .i64 (fiN s n C - 1 : Nat)) ∧ w' = W by
      have := HF.out (vlN s (fiN s n C - 1)) W h
      rw [hback h0] at this
      exact this))
    have ha2 : fiN s n C < n := by clear z1 z2 z3 z4; omega
    have HB := Lib.hid (fun (k : Nat) (hk : k ≤ 1023) => vlN_in hs hk)
    generalize fiN s n C = at1 at *
    obtain ⟨b, off, cap, htv, c0⟩ := tv_open h ha2
    rw [htv] at HF1 HF2 HX ⊢
    have HC0 := Lib.hid (c0 at1 ha2)
    have HC1 := Lib.hid (fun (h0 : 0 < at1) => c0 (at1 - 1) (by clear z1 z2 z3 z4; omega))
    generalize valL s n = T at *
    have t1 : ((at1 : Int) == (n : Int)) = false := beq_eq_false_iff_ne.2 (by clear z1 z2 z3 z4; omega)
    have t2 : (at1 == n) = false := beq_eq_false_iff_ne.2 ha
    have i1 : (at1 : Int) < (n : Int) := by clear z1 z2 z3 z4; omega
    by_cases h0 : 0 < at1
    · obtain ⟨p, hp⟩ : ∃ p, at1 - 1 = p := ⟨_, rfl⟩
      have HF2' := Lib.hid (fun W h => HF2.out W h h0)
      have HC1' := Lib.hid (HC1.out h0)
      have bx := HB.out p (by clear z1 z2 z3 z4; omega)
      have by' := HB.out at1 (by clear z1 z2 z3 z4; omega)
      rw [hp] at HF2' HC1' hq
      generalize vlN s at1 = y at *
      generalize vlN s p = x at *
      have q0 : (at1 : Int) - 1 = (p : Int) := by clear z1 z2 z3 z4; omega
      have i2 : p < n := by clear z1 z2 z3 z4; omega
      have i3 : (p : Int) < (n : Int) := by clear z1 z2 z3 z4; omega
      have t3 : decide ((0 : Int) < (at1 : Int)) = true := decide_eq_true (by clear z1 z2 z3 z4; omega)
      have t4 : decide (0 < at1) = true := decide_eq_true h0
      have z5 : wrap64 ((at1 : Int) - 1) = (p : Int) := by rw [q0]; exact IntWalk.wrap64_in _ (by clear z1 z2 z3 z4; omega)
      have z6 : IntKind.i64.wrap ((at1 : Int) - 1) = (p : Int) := by rw [q0]; exact IntWalk.i64_in _ (by clear z1 z2 z3 z4 z5; omega)
      have z7 : wrap64 (C - x) = C - x := IntWalk.wrap64_in _ (by clear z1 z2 z3 z4 z5 z6; omega)
      have z8 : IntKind.i64.wrap (C - x) = C - x := IntWalk.i64_in _ (by clear z1 z2 z3 z4 z5 z6 z7; omega)
      have z9 : wrap64 (y - C) = y - C := IntWalk.wrap64_in _ (by clear z1 z2 z3 z4 z5 z6 z7 z8; omega)
      have z10 : IntKind.i64.wrap (y - C) = y - C := IntWalk.i64_in _ (by clear z1 z2 z3 z4 z5 z6 z7 z8 z9; omega)
      by_cases hd : C - x ≤ y - C
      · have t5 : decide (C - x ≤ y - C) = true := decide_eq_true hd
        rw [if_pos ⟨h0, hd⟩] at hq
        rw [hq] at z3 z4 ⊢
        clear h hs hn hn1 hc ht hCb ha hle hf hyes hback hq ha2 hln htv c0 HF HG HF2 HC1 HB bx by' q0 hd h0 hp
        by_cases hneg : c < 0
        · have t9 : decide (c < 0) = true := decide_eq_true hneg
          rw [if_pos hneg]
          clear hneg
          go_enter Try.func51, Try.ntmps51
          go_wp2_with fail
          refine (HF1.out _ (HX.out _ (Upd.refl _ _))).mono ?_
          rintro e w1 ⟨rfl, hw⟩
          rw [hw]
          clear hw w1
          have e0 := HC0.out _ (Upd.refl NoB w)
          have e1 := HC1'.out _ (Upd.refl NoB w)
          go_wp2_with fail
          go_quiet (fail)
          have UQ := Lib.hid (show Upd NoB w (w.drewN nq) from upd_drewN (Upd.refl _ _) _)
          have e0 := HC0.out _ UQ.out
          have e1 := HC1'.out _ UQ.out
          go_wp2_with fail
          refine (HF2'.out _ (HX.out _ UQ.out)).mono ?_
          rintro e w2 ⟨rfl, hw⟩
          rw [hw]
          clear hw w2
          go_wp2_with fail
          go_ret
          exact ⟨rfl, UQ.out⟩
        · have t9 : decide (c < 0) = false := decide_eq_false hneg
          rw [if_neg hneg]
          clear hneg
          go_enter Try.func51, Try.ntmps51
          go_wp2_with fail
          refine (HF1.out _ (HX.out _ (Upd.refl _ _))).mono ?_
          rintro e w1 ⟨rfl, hw⟩
          rw [hw]
          clear hw w1
          have e0 := HC0.out _ (Upd.refl NoB w)
          have e1 := HC1'.out _ (Upd.refl NoB w)
          go_wp2_with fail
          go_quiet (fail)
          have UQ := Lib.hid (show Upd NoB w (w.drewN nq) from upd_drewN (Upd.refl _ _) _)
          have e0 := HC0.out _ UQ.out
          have e1 := HC1'.out _ UQ.out
          go_wp2_with fail
          refine (HF2'.out _ (HX.out _ UQ.out)).mono ?_
          rintro e w2 ⟨rfl, hw⟩
          rw [hw]
          clear hw w2
          go_wp2_with fail
          go_ret
          exact ⟨rfl, UQ.out⟩
      · have t5 : decide (C - x ≤ y - C) = false := decide_eq_false hd
        rw [if_neg (fun h => hd h.2)] at hq
        rw [hq] at z3 z4 ⊢
        clear h hs hn hn1 hc ht hCb ha hle hf hyes hback hq ha2 hln htv c0 HF HG HF2 HC1 HB bx by' q0 hd h0 hp
        by_cases hneg : c < 0
        · have t9 : decide (c < 0) = true := decide_eq_true hneg
          rw [if_pos hneg]
          clear hneg
          go_enter Try.func51, Try.ntmps51
          go_wp2_with fail
          refine (HF1.out _ (HX.out _ (Upd.refl _ _))).mono ?_
          rintro e w1 ⟨rfl, hw⟩
          rw [hw]
          clear hw w1
          have e0 := HC0.out _ (Upd.refl NoB w)
          have e1 := HC1'.out _ (Upd.refl NoB w)
          go_wp2_with fail
          go_quiet (fail)
          have UQ := Lib.hid (show Upd NoB w (w.drewN nq) from upd_drewN (Upd.refl _ _) _)
          have e0 := HC0.out _ UQ.out
          have e1 := HC1'.out _ UQ.out
          go_wp2_with fail
          go_ret
          exact ⟨rfl, UQ.out⟩
        · have t9 : decide (c < 0) = false := decide_eq_false hneg
          rw [if_neg hneg]
          clear hneg
          go_enter Try.func51, Try.ntmps51
          go_wp2_with fail
          refine (HF1.out _ (HX.out _ (Upd.refl _ _))).mono ?_
          rintro e w1 ⟨rfl, hw⟩
          rw [hw]
          clear hw w1
          have e0 := HC0.out _ (Upd.refl NoB w)
          have e1 := HC1'.out _ (Upd.refl NoB w)
          go_wp2_with fail
          go_quiet (fail)
          have UQ := Lib.hid (show Upd NoB w (w.drewN nq) from upd_drewN (Upd.refl _ _) _)
          have e0 := HC0.out _ UQ.out
          have e1 := HC1'.out _ UQ.out
          go_wp2_with fail
          go_ret
          exact ⟨rfl, UQ.out⟩
    · rw [if_neg (fun h => h0 h.1)] at hq
      rw [hq] at z3 z4 ⊢
      have t3 : decide ((0 : Int) < (at1 : Int)) = false := decide_eq_false (by clear z1 z2 z3 z4; omega)
      have t4 : decide (0 < at1) = false := decide_eq_false h0
      generalize vlN s at1 = y at *
      clear h hs hn hn1 hc ht hCb ha hle hf hyes hback hq ha2 hln htv c0 HF HG HF2 HC1 HB h0
      by_cases hneg : c < 0
      · have t9 : decide (c < 0) = true := decide_eq_true hneg
        rw [if_pos hneg]
        clear hneg
        go_enter Try.func51, Try.ntmps51
        go_wp2_with fail
        refine (HF1.out _ (HX.out _ (Upd.refl _ _))).mono ?_
        rintro e w1 ⟨rfl, hw⟩
        rw [hw]
        clear hw w1
        have e0 := HC0.out _ (Upd.refl NoB w)
        go_wp2_with fail
        go_quiet (fail)
        have UQ := Lib.hid (show Upd NoB w (w.drewN nq) from upd_drewN (Upd.refl _ _) _)
        have e0 := HC0.out _ UQ.out
        go_wp2_with fail
        go_ret
        exact ⟨rfl, UQ.out⟩
      · have t9 : decide (c < 0) = false := decide_eq_false hneg
        rw [if_neg hneg]
        clear hneg
        go_enter Try.func51, Try.ntmps51
        go_wp2_with fail
        refine (HF1.out _ (HX.out _ (Upd.refl _ _))).mono ?_
        rintro e w1 ⟨rfl, hw⟩
        rw [hw]
        clear hw w1
        have e0 := HC0.out _ (Upd.refl NoB w)
        go_wp2_with fail
        go_quiet (fail)
        have UQ := Lib.hid (show Upd NoB w (w.drewN nq) from upd_drewN (Upd.refl _ _) _)
        have e0 := HC0.out _ UQ.out
        go_wp2_with fail
        go_ret
        exact ⟨rfl, UQ.out⟩
set_option maxRecDepth 100000 in
set_option maxHeartbeats 2000000 in
theorem rTable_any (s : Nat) (w : World) (hs : s ≤ 95) : Calls Try.prog 52 #[.int .i64 (s : Int)] w fun e w' => ∃ a c, e = .returned (.slice a 1024 c) ∧ Ints w' (.slice a 1024 c) (valL s 1024) ∧ Upd NoB w w' := by
  have hf : fsN s 2097153 = 1023 := fsN_is (by omega) (fun j hj => by have := vlN_in hs (show j ≤ 1023 by omega); omega) (fun h => by omega)
  have HV := Lib.hid (fun pv W (h : Ints W pv (powL 1024)) => rvalues_any pv s 2097153 W hs h)
  rw [hf] at HV
  have HP := Lib.hid (rPowers_any w)
  clear hs hf
  go_enter Try.func52, Try.ntmps52
  go_wp2_with fail
  refine HP.out.mono ?_
  rintro e w1 ⟨a, c, rfl, i1, u1⟩
  have I1 := Lib.hid i1; have U1 := Lib.hid u1
  clear i1 u1
  go_wp2_with fail
  refine (HV.out _ _ I1.out).mono ?_
  rintro e w2 ⟨a2, c2, rfl, i2, u2⟩
  have I2 := Lib.hid i2; have U2 := Lib.hid (U1.out.then u2)
  clear i2 u2
  go_wp2_with fail
  go_ret
  exact ⟨_, _, rfl, I2.out, U2.out⟩
set_option maxRecDepth 100000 in
set_option maxHeartbeats 4000000 in
theorem rQuantumX_any (c s : Int) (w : World) : Calls Try.prog 18 #[.int .i64 c, .int .i64 s] w fun e w' => e = .returned (.tuple #[.int .i64 (Qa c s), .int .i64 (eQ c s)]) ∧ Upd NoB w w' := by
  have HS := Lib.hid (rScale_any s w)
  by_cases h1 : 0 ≤ s ∧ s ≤ 95
  · rw [decide_eq_true h1] at HS
    by_cases h2 : c < -2097152
    · have hE : eQ c s = 6 := by unfold eQ; rw [if_pos h1, if_neg (by omega)]
      have hV : Qa c s = 0 := if_neg (by rw [hE]; decide)
      rw [hE, hV]
      have t1 : decide (c < -2097152) = true := decide_eq_true h2
      clear h1 h2 hE hV
      go_enter Try.func18, Try.ntmps18
      go_wp2_with fail
      refine HS.out.mono ?_
      rintro e w1 ⟨rfl, hw1⟩
      rw [hw1]
      clear hw1 w1
      go_wp2_with fail
      go_ret2
      exact ⟨rfl, Upd.refl _ _⟩
    have t1 : decide (c < -2097152) = false := decide_eq_false h2
    by_cases h3 : 2097152 < c
    · have hE : eQ c s = 6 := by unfold eQ; rw [if_pos h1, if_neg (by omega)]
      have hV : Qa c s = 0 := if_neg (by rw [hE]; decide)
      rw [hE, hV]
      have t2 : decide (2097152 < c) = true := decide_eq_true h3
      clear h1 h2 h3 hE hV
      go_enter Try.func18, Try.ntmps18
      go_wp2_with fail
      refine HS.out.mono ?_
      rintro e w1 ⟨rfl, hw1⟩
      rw [hw1]
      clear hw1 w1
      go_wp2_with fail
      go_ret2
      exact ⟨rfl, Upd.refl _ _⟩
    have t2 : decide (2097152 < c) = false := decide_eq_false h3
    have hE : eQ c s = 0 := by unfold eQ; rw [if_pos h1, if_pos (by omega)]
    have hV : Qa c s = sgQ s.toNat c := if_pos hE
    rw [hE, hV]
    obtain ⟨n, rfl⟩ : ∃ n : Nat, s = (n : Int) := ⟨s.toNat, by omega⟩
    rw [Int.toNat_natCast]
    have HT := Lib.hid (fun W => rTable_any n W (by omega))
    have HN := Lib.hid (fun tv W (h : Ints W tv (valL n 1024)) => rnear_any c tv n 1024 W (by omega) (by omega) (by omega) (by omega) (.inl rfl) h)
    generalize sgQ n c = R at *
    clear h1 h2 h3 hE hV
    go_enter Try.func18, Try.ntmps18
    go_wp2_with fail
    refine HS.out.mono ?_
    rintro e w1 ⟨rfl, hw1⟩
    rw [hw1]
    clear hw1 w1
    go_wp2_with fail
    refine (HT.out _).mono ?_
    rintro e w2 ⟨a, cc, rfl, i2, u2⟩
    have I2 := Lib.hid i2; have U2 := Lib.hid u2
    clear i2 u2
    go_wp2_with fail
    refine (HN.out _ _ I2.out).mono ?_
    rintro e w3 ⟨rfl, u3⟩
    have U3 := Lib.hid (U2.out.then u3)
    clear u3
    go_wp2_with fail
    go_ret2
    exact ⟨rfl, U3.out⟩
  · rw [decide_eq_false h1] at HS
    have hE : eQ c s = 1 := by unfold eQ; rw [if_neg h1]
    have hV : Qa c s = 0 := if_neg (by rw [hE]; decide)
    rw [hE, hV]
    clear h1 hE hV
    go_enter Try.func18, Try.ntmps18
    go_wp2_with fail
    refine HS.out.mono ?_
    rintro e w1 ⟨rfl, rfl⟩
    go_wp2_with fail
    go_ret2
    exact ⟨rfl, Upd.refl _ _⟩
set_option maxRecDepth 100000 in
set_option maxHeartbeats 8000000 in
theorem one_qu (q c s : Int) (w : World) : Calls Try.prog 3 #[.int .i64 q, .int .i64 c, .int .i64 s] w fun e w' => e = .returned (.bool true) ∧ Upd NoB w w' := by
  have HP := Lib.hid (fun W => Power_any q W)
  have HP2 := Lib.hid (fun W => (show Calls Try.prog 14 #[.int .i64 q] W fun e w' => e = .returned (.tuple #[.int .i64 (if pwE q = 0 then ((pwN q.natAbs : Nat) : Int) else 0), .int .i64 (pwE q)]) ∧ Upd NoB W w' from (rPowerX_any q W).mono fun e w' h => ⟨h.1, by rw [h.2]; exact Upd.refl _ _⟩))
  have HV := Lib.hid (fun W => (show Calls Try.prog 15 #[.int .i64 q, .int .i64 s] W fun e w' => e = .returned (.tuple #[.int .i64 (Va q s), .int .i64 (eV q s)]) ∧ Upd NoB W w' from pV_any q s W))
  have HV2 := Lib.hid (fun W => rValueX_any q s W)
  have HQ := Lib.hid (fun W => (show Calls Try.prog 17 #[.int .i64 c, .int .i64 s] W fun e w' => e = .returned (.tuple #[.int .i64 (Qa c s), .int .i64 (eQ c s)]) ∧ Upd NoB W w' from pQ_any c s W))
  have HQ2 := Lib.hid (fun W => rQuantumX_any c s W)
  generalize (if pwE q = 0 then ((pwN q.natAbs : Nat) : Int) else 0) = A at *
  generalize Va q s = B at *
  generalize Qa c s = C at *
  generalize pwE q = E at *
  generalize eV q s = F at *
  generalize eQ c s = G at *
  go_enter Try.func3, Try.ntmps3
  go_wp2_with fail
  refine (HP.out _).mono ?_
  rintro e w1 ⟨rfl, u1⟩
  have UU1 := Lib.hid ((Upd.refl NoB w).then u1)
  clear u1
  go_wp2_with fail
  refine (HP2.out _).mono ?_
  rintro e w2 ⟨rfl, u2⟩
  have UU2 := Lib.hid (UU1.out.then u2)
  clear UU1
  clear u2
  go_wp2_with fail
  refine (HV.out _).mono ?_
  rintro e w3 ⟨rfl, u3⟩
  have UU3 := Lib.hid (UU2.out.then u3)
  clear UU2
  clear u3
  go_wp2_with fail
  refine (HV2.out _).mono ?_
  rintro e w4 ⟨rfl, u4⟩
  have UU4 := Lib.hid (UU3.out.then u4)
  clear UU3
  clear u4
  go_wp2_with fail
  refine (HQ.out _).mono ?_
  rintro e w5 ⟨rfl, u5⟩
  have UU5 := Lib.hid (UU4.out.then u5)
  clear UU4
  clear u5
  go_wp2_with fail
  refine (HQ2.out _).mono ?_
  rintro e w6 ⟨rfl, u6⟩
  have UU6 := Lib.hid (UU5.out.then u6)
  clear UU5
  clear u6
  go_wp2_with fail
  refine (awake_qu _).mono ?_
  rintro e w7 ⟨rfl, u7⟩
  have UU7 := Lib.hid (UU6.out.then u7)
  clear UU6
  clear u7
  go_wp2_with fail
  go_ret
  exact ⟨rfl, UU7.out⟩
end Go.Proofs.Yteioaeceobgbdaa
