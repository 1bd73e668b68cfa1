/- quant: what rises; the law Rising -/
import Derived.Test.YteioaeceobgbdaaQR
import Derived.Deep.CutRange
namespace Go.Proofs.Yteioaeceobgbdaa
open Go.RowKit Go.Shelf

theorem fsG_no {p : Nat → Bool} : ∀ {n k j : Nat}, k ≤ j → j < fsG p n k → p j = false
  | 0, k, j, h1, h2 => by unfold fsG at h2; omega
  | n + 1, k, j, h1, h2 => by
    unfold fsG at h2
    cases hp : p k with
    | true => rw [if_pos hp] at h2; omega
    | false =>
      rw [if_neg (by rw [hp]; decide)] at h2
      by_cases e : k = j
      · subst e; exact hp
      · exact fsG_no (by omega) h2
theorem fsG_yes {p : Nat → Bool} : ∀ {n k : Nat}, fsG p n k < k + n → p (fsG p n k) = true
  | 0, k, h => by unfold fsG at h; omega
  | n + 1, k, h => by
    unfold fsG at h ⊢
    cases hp : p k with
    | true => rw [if_pos rfl]; exact hp
    | false =>
      rw [if_neg (by decide)]
      rw [hp, if_neg (by decide)] at h
      exact fsG_yes (by omega)
theorem fsN_no {s : Nat} {c : Int} {j : Nat} (h : j < fsN s c) : vlN s j < c := by
  have := of_decide_eq_false (fsG_no (p := fun q => decide (c ≤ vlN s q)) (Nat.zero_le j) h)
  omega
theorem fsN_yes {s : Nat} {c : Int} (h : fsN s c < 1023) : c ≤ vlN s (fsN s c) :=
  of_decide_eq_true (fsG_yes (p := fun q => decide (c ≤ vlN s q)) (n := 1023) (k := 0) (by unfold fsN at h; omega))
theorem fsN_mono {s : Nat} {a b : Int} (h : a ≤ b) : fsN s a ≤ fsN s b := by
  rcases Nat.lt_or_ge (fsN s b) (fsN s a) with e | e
  · have h1 := fsN_no e
    have h2 := fsN_le s a
    have h3 := fsN_yes (s := s) (c := b) (by omega)
    omega
  · exact e
theorem qtN_ge (s : Nat) (c : Int) : fsN s c - 1 ≤ qtN s c ∧ qtN s c ≤ fsN s c := by
  unfold qtN
  split <;> omega
theorem qtN_mono {s : Nat} {a b : Int} (h : a ≤ b) : qtN s a ≤ qtN s b := by
  have h1 := fsN_mono (s := s) h
  have h2 := qtN_ge s a
  have h3 := qtN_ge s b
  rcases Nat.lt_or_ge (fsN s a) (fsN s b) with e | e
  · omega
  · have e : fsN s a = fsN s b := by omega
    unfold qtN
    rw [e]
    split
    · split <;> omega
    · split
      · rename_i h4 h5
        exact absurd ⟨h5.1, by omega⟩ h4
      · omega
theorem sgV_mono {s : Nat} {a b : Int} (hs : s ≤ 95) (h : a ≤ b) (ha : -1023 ≤ a) (hb : b ≤ 1023) : sgV s a ≤ sgV s b := by
  unfold sgV
  by_cases h1 : a < 0
  · rw [if_pos h1]
    have b1 := vlN_in hs (show a.natAbs ≤ 1023 by omega)
    by_cases h2 : b < 0
    · rw [if_pos h2]
      have := vlN_mono hs (show b.natAbs ≤ a.natAbs by omega) (by omega)
      omega
    · rw [if_neg h2]
      have b2 := vlN_in hs (show b.natAbs ≤ 1023 by omega)
      omega
  · rw [if_neg h1, if_neg (by omega)]
    exact vlN_mono hs (by omega) (by omega)
theorem sgQ_mono {s : Nat} {a b : Int} (h : a ≤ b) : sgQ s a ≤ sgQ s b := by
  unfold sgQ
  by_cases h1 : a < 0
  · rw [if_pos h1]
    by_cases h2 : b < 0
    · rw [if_pos h2]
      have := qtN_mono (s := s) (show ((b.natAbs : Nat) : Int) ≤ (a.natAbs : Nat) by omega)
      omega
    · rw [if_neg h2]
      omega
  · rw [if_neg h1, if_neg (by omega)]
    have := qtN_mono (s := s) (show ((a.natAbs : Nat) : Int) ≤ (b.natAbs : Nat) by omega)
    omega
theorem sgV_abs {s : Nat} {q : Int} (hs : s ≤ 95) (hq : -1023 ≤ q ∧ q ≤ 1023) : max (sgV s q) (-(sgV s q)) = vlN s q.natAbs := by
  have := vlN_in hs (show q.natAbs ≤ 1023 by omega)
  unfold sgV
  split <;> omega
theorem ri1 {q0 q1 s : Int} (h1 : eV (min q0 q1) s = 0) (h2 : eV (max q0 q1) s = 0) : Va (min q0 q1) s ≤ Va (max q0 q1) s := by
  obtain ⟨⟨a1, a2⟩, a3, _⟩ := eV_ok h1
  obtain ⟨_, _, a4⟩ := eV_ok h2
  unfold Va
  rw [if_pos h1, if_pos h2]
  exact sgV_mono (by omega) (by omega) a3 a4
theorem ri2 {q s0 s1 : Int} (h1 : eV q (min s0 s1) = 0) (h2 : eV q (max s0 s1) = 0) : max (Va q (min s0 s1)) (-(Va q (min s0 s1))) ≤ max (Va q (max s0 s1)) (-(Va q (max s0 s1))) := by
  obtain ⟨⟨a1, a2⟩, a3⟩ := eV_ok h1
  obtain ⟨⟨b1, b2⟩, _⟩ := eV_ok h2
  unfold Va
  rw [if_pos h1, if_pos h2, sgV_abs (by omega) a3, sgV_abs (by omega) a3]
  exact vlN_up (by omega) (by omega)
theorem ri3 {c0 c1 s : Int} (h1 : eQ (min c0 c1) s = 0) (h2 : eQ (max c0 c1) s = 0) : Qa (min c0 c1) s ≤ Qa (max c0 c1) s := by
  unfold Qa
  rw [if_pos h1, if_pos h2]
  exact sgQ_mono (by omega)
theorem cells2 {w : World} {b : Nat} {x y : Value} {t : TypeId} (h : w.heap[b]? = some (.cells #[x, y] t (0, 0))) : w.cell? ⟨b, 0, none⟩ = some x ∧ w.cell? ⟨b, 1, none⟩ = some y := ⟨blk_cell h 0, blk_cell h 1⟩
set_option maxRecDepth 100000 in
set_option maxHeartbeats 8000000 in
theorem rising_qu (q0 q1 c0 c1 s0 s1 : Int) (w : World) : Calls Try.prog 7 #[.agg #[.int .i64 q0, .int .i64 q1], .agg #[.int .i64 c0, .int .i64 c1], .agg #[.int .i64 s0, .int .i64 s1]] w fun e w' => e = .returned (.bool true) ∧ Upd NoB w w' := by
  obtain ⟨b0, b1, b2, hu⟩ := boxes3' w (.cells #[.int .i64 q0, .int .i64 q1] 36) (.cells #[.int .i64 c0, .int .i64 c1] 36) (.cells #[.int .i64 s0, .int .i64 s1] 36)
  have b2 : (((w.alloc (.cells #[.int .i64 q0, .int .i64 q1] 36)).alloc (.cells #[.int .i64 c0, .int .i64 c1] 36)).alloc (.cells #[.int .i64 s0, .int .i64 s1] 36)).heap[w.heap.size + 1 + 1]? = _ := b2
  have HC := Lib.hid (fun Z (u : Upd NoB (((w.alloc (.cells #[.int .i64 q0, .int .i64 q1] 36)).alloc (.cells #[.int .i64 c0, .int .i64 c1] 36)).alloc (.cells #[.int .i64 s0, .int .i64 s1] 36)) Z) => And.intro (cells2 (u.heap b0 (noB _))) (And.intro (cells2 (u.heap b1 (noB _))) (cells2 (u.heap b2 (noB _)))))
  have B0 := Lib.hid hu
  have HA := Lib.hid (fun W => (show Calls Try.prog 15 #[.int .i64 (min q0 q1), .int .i64 s0] W fun e w' => e = .returned (.tuple #[.int .i64 (Va (min q0 q1) s0), .int .i64 (eV (min q0 q1) s0)]) ∧ Upd NoB W w' from pV_any (min q0 q1) s0 W))
  have HB := Lib.hid (fun W => (show Calls Try.prog 15 #[.int .i64 (max q0 q1), .int .i64 s0] W fun e w' => e = .returned (.tuple #[.int .i64 (Va (max q0 q1) s0), .int .i64 (eV (max q0 q1) s0)]) ∧ Upd NoB W w' from pV_any (max q0 q1) s0 W))
  have HX := Lib.hid (fun W => (show Calls Try.prog 15 #[.int .i64 q0, .int .i64 (min s0 s1)] W fun e w' => e = .returned (.tuple #[.int .i64 (Va q0 (min s0 s1)), .int .i64 (eV q0 (min s0 s1))]) ∧ Upd NoB W w' from pV_any q0 (min s0 s1) W))
  have HY := Lib.hid (fun W => (show Calls Try.prog 15 #[.int .i64 q0, .int .i64 (max s0 s1)] W fun e w' => e = .returned (.tuple #[.int .i64 (Va q0 (max s0 s1)), .int .i64 (eV q0 (max s0 s1))]) ∧ Upd NoB W w' from pV_any q0 (max s0 s1) W))
  have HU := Lib.hid (fun W => (show Calls Try.prog 17 #[.int .i64 (min c0 c1), .int .i64 s0] W fun e w' => e = .returned (.tuple #[.int .i64 (Qa (min c0 c1) s0), .int .i64 (eQ (min c0 c1) s0)]) ∧ Upd NoB W w' from pQ_any (min c0 c1) s0 W))
  have HW := Lib.hid (fun W => (show Calls Try.prog 17 #[.int .i64 (max c0 c1), .int .i64 s0] W fun e w' => e = .returned (.tuple #[.int .i64 (Qa (max c0 c1) s0), .int .i64 (eQ (max c0 c1) s0)]) ∧ Upd NoB W w' from pQ_any (max c0 c1) s0 W))
  have R1 := Lib.hid (@ri1 q0 q1 s0); have R2 := Lib.hid (@ri2 q0 s0 s1); have R3 := Lib.hid (@ri3 c0 c1 s0)
  have d3 := Va_bd q0 (min s0 s1)
  have d4 := Va_bd q0 (max s0 s1)
  generalize Va (min q0 q1) s0 = A1 at *
  generalize eV (min q0 q1) s0 = E1 at *
  generalize Va (max q0 q1) s0 = A2 at *
  generalize eV (max q0 q1) s0 = E2 at *
  generalize Va q0 (min s0 s1) = A3 at *
  generalize eV q0 (min s0 s1) = E3 at *
  generalize Va q0 (max s0 s1) = A4 at *
  generalize eV q0 (max s0 s1) = E4 at *
  generalize Qa (min c0 c1) s0 = A5 at *
  generalize eQ (min c0 c1) s0 = E5 at *
  generalize Qa (max c0 c1) s0 = A6 at *
  generalize eQ (max c0 c1) s0 = E6 at *
  have z1 : wrap64 (-A3) = -A3 := IntWalk.wrap64_in _ (by omega)
  have z2 : IntKind.i64.wrap (-A3) = -A3 := IntWalk.i64_in _ (by clear z1; omega)
  have z3 : wrap64 (-A4) = -A4 := IntWalk.wrap64_in _ (by clear z1 z2; omega)
  have z4 : IntKind.i64.wrap (-A4) = -A4 := IntWalk.i64_in _ (by clear z1 z2 z3; omega)
  clear b0 b1 b2 hu d3 d4
  go_enter Try.func7, Try.ntmps7
  obtain ⟨⟨x0, x1⟩, ⟨x2, x3⟩, x4, x5⟩ := HC.out _ (Upd.refl NoB (((w.alloc (.cells #[.int .i64 q0, .int .i64 q1] 36)).alloc (.cells #[.int .i64 c0, .int .i64 c1] 36)).alloc (.cells #[.int .i64 s0, .int .i64 s1] 36)))
  go_wp2_with fail
  clear x0 x1 x2 x3 x4 x5
  refine (HA.out _).mono ?_
  rintro e w1 ⟨rfl, u1⟩
  have UU1 := Lib.hid ((Upd.refl NoB (((w.alloc (.cells #[.int .i64 q0, .int .i64 q1] 36)).alloc (.cells #[.int .i64 c0, .int .i64 c1] 36)).alloc (.cells #[.int .i64 s0, .int .i64 s1] 36))).then u1)
  clear u1
  obtain ⟨⟨x0, x1⟩, ⟨x2, x3⟩, x4, x5⟩ := HC.out _ UU1.out
  go_wp2_with fail
  clear x0 x1 x2 x3 x4 x5
  refine (HB.out _).mono ?_
  rintro e w2 ⟨rfl, u2⟩
  have UU2 := Lib.hid (UU1.out.then u2)
  clear UU1
  clear u2
  clear HA HB
  go_upto_region 3 with fail
  go_cut [51] from 7 to 126 (fun r wx => r = .bool false ∧ Upd NoB (((w.alloc (.cells #[.int .i64 q0, .int .i64 q1] 36)).alloc (.cells #[.int .i64 c0, .int .i64 c1] 36)).alloc (.cells #[.int .i64 s0, .int .i64 s1] 36)) wx)
  case first =>
    by_cases h1 : E1 = 0
    · subst h1
      by_cases h2 : E2 = 0
      · subst h2
        have t3 : decide (A2 < A1) = false := decide_eq_false (by have := R1.out rfl rfl; omega)
        go_wp2_with fail
        go_meet
        case rel => exact ⟨rfl, UU2.out⟩
      · have t2 : (E2 == 0) = false := beq_eq_false_iff_ne.2 h2
        clear h2
        go_wp2_with fail
        go_meet
        case rel => exact ⟨rfl, UU2.out⟩
    · have t1 : (E1 == 0) = false := beq_eq_false_iff_ne.2 h1
      clear h1
      go_wp2_with fail
      go_meet
      case rel => exact ⟨rfl, UU2.out⟩
  case rest =>
    obtain ⟨rfl, hcut⟩ := hcut
    have C51 := Lib.hid hcut
    clear hcut UU2
    obtain ⟨y51, rfl⟩ : ∃ y : World, y = wc := ⟨_, rfl⟩
    clear R1
    obtain ⟨⟨x0, x1⟩, ⟨x2, x3⟩, x4, x5⟩ := HC.out _ C51.out
    go_wp2_with fail
    clear x0 x1 x2 x3 x4 x5
    refine (HX.out _).mono ?_
    rintro e w3 ⟨rfl, u3⟩
    have UU3 := Lib.hid (C51.out.then u3)
    clear C51
    clear u3
    obtain ⟨⟨x0, x1⟩, ⟨x2, x3⟩, x4, x5⟩ := HC.out _ UU3.out
    go_wp2_with fail
    clear x0 x1 x2 x3 x4 x5
    refine (HY.out _).mono ?_
    rintro e w4 ⟨rfl, u4⟩
    have UU4 := Lib.hid (UU3.out.then u4)
    clear UU3
    clear u4
    clear HX HY
    go_upto_region 7 with fail
    go_cut [90] from 7 to 126 (fun r wx => r = .bool false ∧ Upd NoB (((w.alloc (.cells #[.int .i64 q0, .int .i64 q1] 36)).alloc (.cells #[.int .i64 c0, .int .i64 c1] 36)).alloc (.cells #[.int .i64 s0, .int .i64 s1] 36)) wx)
    case first =>
      by_cases h1 : E3 = 0
      · subst h1
        by_cases h2 : E4 = 0
        · subst h2
          have t3 : decide (max A4 (-A4) < max A3 (-A3)) = false := decide_eq_false (by have := R2.out rfl rfl; omega)
          go_wp2_with fail
          go_meet
          case rel => exact ⟨rfl, UU4.out⟩
        · have t2 : (E4 == 0) = false := beq_eq_false_iff_ne.2 h2
          clear h2
          go_wp2_with fail
          go_meet
          case rel => exact ⟨rfl, UU4.out⟩
      · have t1 : (E3 == 0) = false := beq_eq_false_iff_ne.2 h1
        clear h1
        go_wp2_with fail
        go_meet
        case rel => exact ⟨rfl, UU4.out⟩
    case rest =>
      obtain ⟨rfl, hcut⟩ := hcut
      have C90 := Lib.hid hcut
      clear hcut UU4
      obtain ⟨y90, rfl⟩ : ∃ y : World, y = wc := ⟨_, rfl⟩
      clear R2 z1 z2 z3 z4
      obtain ⟨⟨x0, x1⟩, ⟨x2, x3⟩, x4, x5⟩ := HC.out _ C90.out
      go_wp2_with fail
      clear x0 x1 x2 x3 x4 x5
      refine (HU.out _).mono ?_
      rintro e w5 ⟨rfl, u5⟩
      have UU5 := Lib.hid (C90.out.then u5)
      clear C90
      clear u5
      obtain ⟨⟨x0, x1⟩, ⟨x2, x3⟩, x4, x5⟩ := HC.out _ UU5.out
      go_wp2_with fail
      clear x0 x1 x2 x3 x4 x5
      refine (HW.out _).mono ?_
      rintro e w6 ⟨rfl, u6⟩
      have UU6 := Lib.hid (UU5.out.then u6)
      clear UU5
      clear u6
      clear HU HW
      by_cases h1 : E5 = 0
      · subst h1
        by_cases h2 : E6 = 0
        · subst h2
          have t3 : decide (A5 ≤ A6) = true := decide_eq_true (R3.out rfl rfl)
          go_wp2_with fail
          refine (awake_qu _).mono ?_
          rintro e w7 ⟨rfl, u7⟩
          have UU7 := Lib.hid (UU6.out.then u7)
          clear UU6
          clear u7
          go_wp2_with fail
          go_ret
          exact ⟨rfl, B0.out.then UU7.out⟩
        · have t2 : (E6 != 0) = true := bne_iff_ne.2 h2
          clear h2
          go_wp2_with fail
          refine (awake_qu _).mono ?_
          rintro e w7 ⟨rfl, u7⟩
          have UU7 := Lib.hid (UU6.out.then u7)
          clear UU6
          clear u7
          go_wp2_with fail
          go_ret
          exact ⟨rfl, B0.out.then UU7.out⟩
      · have t1 : (E5 != 0) = true := bne_iff_ne.2 h1
        clear h1
        go_wp2_with fail
        refine (awake_qu _).mono ?_
        rintro e w7 ⟨rfl, u7⟩
        have UU7 := Lib.hid (UU6.out.then u7)
        clear UU6
        clear u7
        go_wp2_with fail
        go_ret
        exact ⟨rfl, B0.out.then UU7.out⟩
end Go.Proofs.Yteioaeceobgbdaa
