/- the reference's Turn and Back; the law of turns -/
import Derived.Test.YtpmhioaoniijbaaDoorJQ
namespace Go.Proofs.YtpmhioaoniijbaaDoor
open Go.RowKit Go.Shelf

theorem turP_mk {k : Nat} (h : k < 12) : turP ((2 ^ k : Nat) : Int) = true := by
  unfold turP
  rw [pow2_mk (by omega), Bool.true_and]
  have := Nat.pow_le_pow_right (show 0 < 2 by omega) (show k ≤ 11 by omega)
  exact decide_eq_true (by omega)
set_option maxRecDepth 100000 in
theorem rpower_any (d : Int) (w : World) : Calls Tryd.prog 66 #[.int .i64 d, .int .i64 2048] w fun e w' => e = .returned (.bool (turP d)) ∧ w' = w := by
  go_enter Tryd.func66, Tryd.ntmps66
  go_wp2_with fail
  go_loop [5] (fun pv => ∃ (k p : Nat), pv = .int .i64 p ∧ p = 2 ^ k ∧ k ≤ 12 ∧ ∀ j, j < k → d ≠ ((2 ^ j : Nat) : Int)) (fun pv => 4097 - (intOf pv).toNat)
  case atStart => exact ⟨0, 1, rfl, rfl, by omega, fun j hj => by omega⟩
  case round =>
    obtain ⟨k, p, rfl, hp, hk, hj⟩ := hrel
    by_cases hk14 : k < 12
    · have p1 := Nat.pow_le_pow_right (show 0 < 2 by omega) (show k ≤ 11 by omega)
      have p0 := Nat.two_pow_pos k
      rw [← hp] at p1 p0
      have p2 : (p : Int) ≤ 2048 := by omega
      have p3 : (1 : Int) ≤ (p : Int) := by omega
      by_cases hd : d = (p : Int)
      · have E := Lib.hid (show turP d = true by rw [hd, hp]; exact turP_mk hk14)
        have t : (d == (p : Int)) = true := by simpa using hd
        clear hp hj hd p0 p1
        go_wp2
        go_ret
        exact ⟨by rw [E.out]; rfl, rfl⟩
      · have t : (d == (p : Int)) = false := by simpa using hd
        have Hp := Lib.hid hp; have Hj := Lib.hid hj; have Hd := Lib.hid hd
        have mm : 4097 - p * 2 < 4097 - p := by omega
        clear hp hj hd p0 p1
        go_wp2
        go_round
        case rel =>
          refine ⟨k + 1, p * 2, by go_num, by rw [Hp.out, Nat.pow_succ], by omega, fun j hj => ?_⟩
          rcases Nat.lt_or_ge j k with h | h
          · exact Hj.out j h
          · obtain rfl : j = k := by omega
            rw [← Hp.out]; exact Hd.out
        case measure => simp [intOf]; omega
    · obtain rfl : k = 12 := by omega
      have E := Lib.hid (show turP d = false by
        cases h : turP d with
        | false => rfl
        | true =>
          obtain ⟨j, hj', e⟩ := turP_cases h
          exact absurd e (hj j hj'))
      subst hp
      clear hj
      go_wp2
      go_ret
      exact ⟨by rw [E.out]; rfl, rfl⟩
theorem rPower_any (d : Int) (w : World) : Calls Tryd.prog 53 #[.int .i64 d, .int .i64 2048] w fun e w' => e = .returned (.bool (turP d)) ∧ w' = w := by
  go_enter Tryd.func53, Tryd.ntmps53
  go_wp2_with fail
  refine (rpower_any d _).mono ?_
  rintro e w' ⟨rfl, rfl⟩
  go_wp2
  go_ret
  exact ⟨rfl, rfl⟩
set_option maxRecDepth 100000 in
theorem turned_any (x y n d : Int) (w : World) (h : turE n d = 0) (hb : Bd 137438953472 (x, y)) : Calls Tryd.prog 55 #[.int .i64 x, .int .i64 y, .int .i64 n, .int .i64 d] w fun e w' => e = .returned (.tuple #[.int .i64 (turnF n d (x, y)).1, .int .i64 (turnF n d (x, y)).2]) ∧ Upd NoB w w' := by
  have ok := turE_ok h
  have ai := turA_in (n := n) ok.1
  have bi := turB_in n d
  have qi := (tur_facts (n := n) ok.2.1).2.2.1
  have HF := Lib.hid (fun w => fTurn_any (turQ n d) (turA n d) (turB n d) x y w qi ai.1 ai.2 bi.1 bi.2 hb)
  have HO := Lib.hid (fun w => rOf_any n d w h)
  have V := Lib.hid (show forthF (turQ n d) (turA n d) (turB n d) (x, y) = turnF n d (x, y) from rfl)
  rw [← V.out]
  clear ok ai bi qi h hb
  generalize turQ n d = Q at *
  generalize turA n d = A at *
  generalize turB n d = B at *
  go_enter Tryd.func55, Tryd.ntmps55
  go_wp2_with fail
  (with_reducible refine (HO.out _).mono ?_)
  rintro e w1 ⟨rfl, u1⟩
  have U1 := Lib.hid u1; clear u1
  go_wp2_with fail
  (with_reducible refine (HF.out _).mono ?_)
  rintro e w2 ⟨rfl, u2⟩
  have U2 := Lib.hid (U1.out.then u2); clear u2
  go_wp2
  go_ret2
  exact ⟨rfl, U2.out⟩
set_option maxRecDepth 100000 in
theorem returned_any (x y n d : Int) (w : World) (h : turE n d = 0) (hb : Bd 137438953472 (x, y)) : Calls Tryd.prog 57 #[.int .i64 x, .int .i64 y, .int .i64 n, .int .i64 d] w fun e w' => e = .returned (.tuple #[.int .i64 (backT n d (x, y)).1, .int .i64 (backT n d (x, y)).2]) ∧ Upd NoB w w' := by
  have ok := turE_ok h
  have ai := turA_in (n := n) ok.1
  have bi := turB_in n d
  have qi := (tur_facts (n := n) ok.2.1).2.2.1
  have HF := Lib.hid (fun w => fBack_any (turQ n d) (turA n d) (turB n d) x y w qi ai.1 ai.2 bi.1 bi.2 hb)
  have HO := Lib.hid (fun w => rOf_any n d w h)
  have V := Lib.hid (show backF (turQ n d) (turA n d) (turB n d) (x, y) = backT n d (x, y) from rfl)
  rw [← V.out]
  clear ok ai bi qi h hb
  generalize turQ n d = Q at *
  generalize turA n d = A at *
  generalize turB n d = B at *
  go_enter Tryd.func57, Tryd.ntmps57
  go_wp2_with fail
  (with_reducible refine (HO.out _).mono ?_)
  rintro e w1 ⟨rfl, u1⟩
  have U1 := Lib.hid u1; clear u1
  go_wp2_with fail
  (with_reducible refine (HF.out _).mono ?_)
  rintro e w2 ⟨rfl, u2⟩
  have U2 := Lib.hid (U1.out.then u2); clear u2
  go_wp2
  go_ret2
  exact ⟨rfl, U2.out⟩
/-- the errors, as the reference asks for them -/
theorem ttE_ref (M x y n d : Int) : (turP d = false ∧ ttE M x y n d = 1) ∨ (turP d = true ∧ (inB M x && inB M y) = false ∧ ttE M x y n d = 6) ∨ (turP d = true ∧ (inB M x && inB M y) = true ∧ inB 1099511627776 n = false ∧ ttE M x y n d = 6) ∨
    (turP d = true ∧ (inB M x && inB M y) = true ∧ inB 1099511627776 n = true ∧ turE n d = 0 ∧ ttE M x y n d = 0) := by
  rcases turE_cases n d with ⟨h, e⟩ | ⟨h, h2, e⟩ | ⟨h, h2, h3, e⟩
  · refine .inl ⟨h, ?_⟩
    unfold ttE; rw [if_neg (by rw [e]; decide), e]
  · have nb : inB 1099511627776 n = false := decide_eq_false (by omega)
    have t : ttE M x y n d = 6 := by unfold ttE; rw [if_neg (by rw [e]; decide), e]
    cases hb : (inB M x && inB M y) with
    | false => exact .inr (.inl ⟨h, rfl, t⟩)
    | true => exact .inr (.inr (.inl ⟨h, rfl, nb, t⟩))
  · have nb : inB 1099511627776 n = true := decide_eq_true (by omega)
    cases hb : (inB M x && inB M y) with
    | false => exact .inr (.inl ⟨h, rfl, by unfold ttE; rw [if_pos e, hb]; rfl⟩)
    | true => exact .inr (.inr (.inr ⟨h, rfl, nb, e, by unfold ttE; rw [if_pos e, hb]; rfl⟩))
set_option maxRecDepth 100000 in
set_option maxHeartbeats 2000000 in
theorem rTurn_any (x y n d : Int) (w : World) : Calls Tryd.prog 19 #[.int .i64 x, .int .i64 y, .int .i64 n, .int .i64 d] w fun e w' =>
    e = .returned (.tuple #[.int .i64 (turnV x y n d).1, .int .i64 (turnV x y n d).2, .int .i64 (ttE 1073741824 x y n d)]) ∧ Upd NoB w w' := by
  have HPw := Lib.hid (fun w => rPower_any d w)
  have H2 := Lib.hid (rwithin2 1073741824 x y w (by omega) (by omega))
  obtain ⟨W, hW⟩ : ∃ W, W = w.alloc (.cells #[.int .i64 x, .int .i64 y] 3) := ⟨_, rfl⟩
  have hsz : W.heap.size = w.heap.size + 1 := by rw [hW]; exact size_alloc _ _
  have U := Lib.hid (show Upd NoB w W by rw [hW]; exact (Upd.refl _ _).alloc _)
  have h1 := rwithin1 1099511627776 n W (by omega) (by omega)
  have H1 := Lib.hid h1
  rw [← hW] at H2
  have HW := Lib.hid hW
  clear h1 hsz hW
  rcases ttE_ref 1073741824 x y n d with ⟨h, e⟩ | ⟨h, hb, e⟩ | ⟨h, hb, hn, e⟩ | ⟨h, hb, hn, ht, e⟩
  · have V := Lib.hid (show turnV x y n d = (0, 0) by unfold turnV; rw [if_neg (by rw [e]; decide)])
    have E := Lib.hid e
    rw [h] at HPw
    rw [V.out, E.out]
    clear h e
    go_enter Tryd.func19, Tryd.ntmps19
    go_wp2_with fail
    (with_reducible refine (HPw.out _).mono ?_)
    rintro e w1 ⟨rfl, rfl⟩
    go_wp2
    go_ret3
    exact ⟨rfl, Upd.refl _ _⟩
  · have V := Lib.hid (show turnV x y n d = (0, 0) by unfold turnV; rw [if_neg (by rw [e]; decide)])
    have E := Lib.hid e
    rw [h] at HPw
    rw [hb] at H2
    rw [V.out, E.out]
    clear h e hb
    go_enter Tryd.func19, Tryd.ntmps19
    go_wp2_with fail
    (with_reducible refine (HPw.out _).mono ?_)
    rintro e w1 ⟨rfl, rfl⟩
    go_wp2_with fail
    rw [← HW.out]
    (with_reducible refine H2.out.mono ?_)
    rintro e w2 ⟨rfl, rfl⟩
    go_wp2
    go_ret3
    exact ⟨rfl, U.out⟩
  · have V := Lib.hid (show turnV x y n d = (0, 0) by unfold turnV; rw [if_neg (by rw [e]; decide)])
    have E := Lib.hid e
    rw [h] at HPw
    rw [hb] at H2
    rw [hn] at H1
    rw [V.out, E.out]
    clear h e hb hn
    go_enter Tryd.func19, Tryd.ntmps19
    go_wp2_with fail
    (with_reducible refine (HPw.out _).mono ?_)
    rintro e w1 ⟨rfl, rfl⟩
    go_wp2_with fail
    rw [← HW.out]
    (with_reducible refine H2.out.mono ?_)
    rintro e w2 ⟨rfl, rfl⟩
    go_wp2_with fail
    (with_reducible refine H1.out.mono ?_)
    rintro e w3 ⟨rfl, rfl⟩
    go_wp2
    go_ret3
    exact ⟨rfl, U.out.alloc _⟩
  · have V := Lib.hid (show turnV x y n d = turnF n d (x, y) by unfold turnV; rw [if_pos e])
    have E := Lib.hid e
    have HT := Lib.hid (fun w => turned_any x y n d w ht (bd_mono30 (inB_bd hb)))
    rw [h] at HPw
    rw [hb] at H2
    rw [hn] at H1
    rw [V.out, E.out]
    clear h e hb hn ht
    go_enter Tryd.func19, Tryd.ntmps19
    go_wp2_with fail
    (with_reducible refine (HPw.out _).mono ?_)
    rintro e w1 ⟨rfl, rfl⟩
    go_wp2_with fail
    rw [← HW.out]
    (with_reducible refine H2.out.mono ?_)
    rintro e w2 ⟨rfl, rfl⟩
    go_wp2_with fail
    (with_reducible refine H1.out.mono ?_)
    rintro e w3 ⟨rfl, rfl⟩
    go_wp2_with fail
    (with_reducible refine (HT.out _).mono ?_)
    rintro e w4 ⟨rfl, u4⟩
    have U4 := Lib.hid ((U.out.alloc _).then u4); clear u4
    go_wp2
    go_ret3
    exact ⟨rfl, U4.out⟩
set_option maxRecDepth 100000 in
set_option maxHeartbeats 2000000 in
theorem rBack_any (x y n d : Int) (w : World) : Calls Tryd.prog 21 #[.int .i64 x, .int .i64 y, .int .i64 n, .int .i64 d] w fun e w' =>
    e = .returned (.tuple #[.int .i64 (backV x y n d).1, .int .i64 (backV x y n d).2, .int .i64 (ttE 4294967296 x y n d)]) ∧ Upd NoB w w' := by
  have HPw := Lib.hid (fun w => rPower_any d w)
  have H2 := Lib.hid (rwithin2 4294967296 x y w (by omega) (by omega))
  obtain ⟨W, hW⟩ : ∃ W, W = w.alloc (.cells #[.int .i64 x, .int .i64 y] 3) := ⟨_, rfl⟩
  have hsz : W.heap.size = w.heap.size + 1 := by rw [hW]; exact size_alloc _ _
  have U := Lib.hid (show Upd NoB w W by rw [hW]; exact (Upd.refl _ _).alloc _)
  have h1 := rwithin1 1099511627776 n W (by omega) (by omega)
  have H1 := Lib.hid h1
  rw [← hW] at H2
  have HW := Lib.hid hW
  clear h1 hsz hW
  rcases ttE_ref 4294967296 x y n d with ⟨h, e⟩ | ⟨h, hb, e⟩ | ⟨h, hb, hn, e⟩ | ⟨h, hb, hn, ht, e⟩
  · have V := Lib.hid (show backV x y n d = (0, 0) by unfold backV; rw [if_neg (by rw [e]; decide)])
    have E := Lib.hid e
    rw [h] at HPw
    rw [V.out, E.out]
    clear h e
    go_enter Tryd.func21, Tryd.ntmps21
    go_wp2_with fail
    (with_reducible refine (HPw.out _).mono ?_)
    rintro e w1 ⟨rfl, rfl⟩
    go_wp2
    go_ret3
    exact ⟨rfl, Upd.refl _ _⟩
  · have V := Lib.hid (show backV x y n d = (0, 0) by unfold backV; rw [if_neg (by rw [e]; decide)])
    have E := Lib.hid e
    rw [h] at HPw
    rw [hb] at H2
    rw [V.out, E.out]
    clear h e hb
    go_enter Tryd.func21, Tryd.ntmps21
    go_wp2_with fail
    (with_reducible refine (HPw.out _).mono ?_)
    rintro e w1 ⟨rfl, rfl⟩
    go_wp2_with fail
    rw [← HW.out]
    (with_reducible refine H2.out.mono ?_)
    rintro e w2 ⟨rfl, rfl⟩
    go_wp2
    go_ret3
    exact ⟨rfl, U.out⟩
  · have V := Lib.hid (show backV x y n d = (0, 0) by unfold backV; rw [if_neg (by rw [e]; decide)])
    have E := Lib.hid e
    rw [h] at HPw
    rw [hb] at H2
    rw [hn] at H1
    rw [V.out, E.out]
    clear h e hb hn
    go_enter Tryd.func21, Tryd.ntmps21
    go_wp2_with fail
    (with_reducible refine (HPw.out _).mono ?_)
    rintro e w1 ⟨rfl, rfl⟩
    go_wp2_with fail
    rw [← HW.out]
    (with_reducible refine H2.out.mono ?_)
    rintro e w2 ⟨rfl, rfl⟩
    go_wp2_with fail
    (with_reducible refine H1.out.mono ?_)
    rintro e w3 ⟨rfl, rfl⟩
    go_wp2
    go_ret3
    exact ⟨rfl, U.out.alloc _⟩
  · have V := Lib.hid (show backV x y n d = backT n d (x, y) by unfold backV; rw [if_pos e])
    have E := Lib.hid e
    have HT := Lib.hid (fun w => returned_any x y n d w ht (bd_mono32 (inB_bd hb)))
    rw [h] at HPw
    rw [hb] at H2
    rw [hn] at H1
    rw [V.out, E.out]
    clear h e hb hn ht
    go_enter Tryd.func21, Tryd.ntmps21
    go_wp2_with fail
    (with_reducible refine (HPw.out _).mono ?_)
    rintro e w1 ⟨rfl, rfl⟩
    go_wp2_with fail
    rw [← HW.out]
    (with_reducible refine H2.out.mono ?_)
    rintro e w2 ⟨rfl, rfl⟩
    go_wp2_with fail
    (with_reducible refine H1.out.mono ?_)
    rintro e w3 ⟨rfl, rfl⟩
    go_wp2_with fail
    (with_reducible refine (HT.out _).mono ?_)
    rintro e w4 ⟨rfl, u4⟩
    have U4 := Lib.hid ((U.out.alloc _).then u4); clear u4
    go_wp2
    go_ret3
    exact ⟨rfl, U4.out⟩
set_option maxRecDepth 100000 in
set_option maxHeartbeats 2000000 in
theorem turns_law (x y n d : Int) (w : World) (hp : Parts w) : Calls Tryd.prog 4 #[.agg #[.int .i64 x, .int .i64 y], .int .i64 n, .int .i64 d] w fun e w' => e = .returned (.bool true) ∧ Upd NoB w w' := by
  obtain ⟨W, hW⟩ : ∃ W, W = w.alloc (.cells #[.int .i64 x, .int .i64 y] 27) := ⟨_, rfl⟩
  have b0 : W.heap[w.heap.size]? = some (.cells #[.int .i64 x, .int .i64 y] 27 (0, 0)) := by rw [hW]; exact heap_alloc_new w _
  have u : Upd NoB w W := by rw [hW]; exact (Upd.refl _ _).alloc _
  have P0 := Lib.hid (hp.upd u (noB 0))
  have U0 := Lib.hid u
  have HB := Lib.hid (fun (w' : World) (u : Upd NoB W w') => (show w'.cell? ⟨w.heap.size, 0, none⟩ = some (.int .i64 x) ∧ w'.cell? ⟨w.heap.size, 1, none⟩ = some (.int .i64 y) from ⟨cell_of_block0 (u.heap b0 (noB _)), cell_of_block1 (u.heap b0 (noB _))⟩))
  have HW := Lib.hid hW
  have T1 := Lib.hid (fun w hp => turn_any x y n d w hp)
  have T2 := Lib.hid (fun w => rTurn_any x y n d w)
  have B1 := Lib.hid (fun w hp => backT_any x y n d w hp)
  have B2 := Lib.hid (fun w => rBack_any x y n d w)
  generalize (turnV x y n d).1 = a1 at *
  generalize (turnV x y n d).2 = a2 at *
  generalize (backV x y n d).1 = c1 at *
  generalize (backV x y n d).2 = c2 at *
  generalize ttE 1073741824 x y n d = e1 at *
  generalize ttE 4294967296 x y n d = e2 at *
  clear hW b0 u hp
  obtain ⟨k0, k1⟩ := HB.out W (Upd.refl _ _)
  go_enter Tryd.func4, Tryd.ntmps4
  go_wp2_with fail
  rw [← HW.out]
  go_wp2_with fail
  (with_reducible refine (T1.out _ P0.out).mono ?_)
  rintro e w1 ⟨rfl, u1⟩
  have U1 := Lib.hid u1; clear u1 k0 k1
  obtain ⟨k0, k1⟩ := HB.out w1 U1.out
  go_wp2_with fail
  (with_reducible refine (T2.out _).mono ?_)
  rintro e w2 ⟨rfl, u2⟩
  have U2 := Lib.hid (U1.out.then u2); clear u2 k0 k1
  obtain ⟨k0, k1⟩ := HB.out w2 U2.out
  go_wp2_with fail
  (with_reducible refine (B1.out _ (P0.out.upd U2.out (noB 0))).mono ?_)
  rintro e w3 ⟨rfl, u3⟩
  have U3 := Lib.hid (U2.out.then u3); clear u3 k0 k1
  obtain ⟨k0, k1⟩ := HB.out w3 U3.out
  go_wp2_with fail
  (with_reducible refine (B2.out _).mono ?_)
  rintro e w4 ⟨rfl, u4⟩
  have U4 := Lib.hid (U3.out.then u4); clear u4 k0 k1
  go_wp2_with fail
  (with_reducible refine (jawake_any _ (P0.out.upd U4.out (noB 0))).mono ?_)
  rintro e w5 ⟨rfl, u5⟩
  have U5 := Lib.hid ((U0.out.then U4.out).then u5); clear u5
  go_wp2
  go_ret
  exact ⟨rfl, U5.out⟩
end Go.Proofs.YtpmhioaoniijbaaDoor
