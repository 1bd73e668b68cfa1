/- quant: the quantum of a value; the law Again -/
import Derived.Test.YteioaeceobgbdaaQS
namespace Go.Proofs.Yteioaeceobgbdaa
open Go.RowKit Go.Shelf

theorem qt_again {s n : Nat} (hs : s ≤ 95) (hn : n ≤ 1023) : qtN s (vlN s n) ≤ n ∧ vlN s (qtN s (vlN s n)) = vlN s n := by
  have hf : fsN s (vlN s n) ≤ n := by
    rcases Nat.lt_or_ge n (fsN s (vlN s n)) with h | h
    · have := fsN_no h; omega
    · exact h
  have h1 : vlN s (fsN s (vlN s n)) ≤ vlN s n := vlN_mono hs hf hn
  have h2 : vlN s n ≤ vlN s (fsN s (vlN s n)) := by
    rcases Nat.lt_or_ge (fsN s (vlN s n)) 1023 with h | h
    · exact fsN_yes h
    · have e : n = fsN s (vlN s n) := by omega
      rw [← e]; exact Int.le_refl _
  have h3 : qtN s (vlN s n) = fsN s (vlN s n) := by
    unfold qtN
    split
    · rename_i h
      have := fsN_no (s := s) (c := vlN s n) (j := fsN s (vlN s n) - 1) (by omega)
      omega
    · rfl
  rw [h3]
  exact ⟨hf, by omega⟩
theorem sz_V {s : Nat} {q : Int} (hs : s ≤ 95) (hq : -1023 ≤ q ∧ q ≤ 1023) : szI (sgV s q) = vlN s q.natAbs := sgV_abs hs hq
theorem sgV_nat {s : Nat} {q : Int} (hs : s ≤ 95) (hq : -1023 ≤ q ∧ q ≤ 1023) : (((sgV s q).natAbs : Nat) : Int) = vlN s q.natAbs := by
  have := sgV_abs hs hq
  have h2 := vlN_in hs (show q.natAbs ≤ 1023 by omega)
  omega
theorem ag_abs {s : Nat} {q : Int} (hs : s ≤ 95) (hq : -1023 ≤ q ∧ q ≤ 1023) : max (sgQ s (sgV s q)) (-(sgQ s (sgV s q))) ≤ max q (-q) := by
  have h := (qt_again hs (show q.natAbs ≤ 1023 by omega)).1
  unfold sgQ
  rw [sgV_nat hs hq]
  split <;> omega
theorem ag_V {s : Nat} {q : Int} (hs : s ≤ 95) (hq : -1023 ≤ q ∧ q ≤ 1023) : sgV s (sgQ s (sgV s q)) = sgV s q := by
  obtain ⟨h1, h2⟩ := qt_again hs (show q.natAbs ≤ 1023 by omega)
  have e : sgQ s (sgV s q) = if sgV s q < 0 then -((qtN s (vlN s q.natAbs) : Nat) : Int) else (qtN s (vlN s q.natAbs) : Nat) := by
    unfold sgQ
    rw [sgV_nat hs hq]
  have hv := vlN_in hs (show q.natAbs ≤ 1023 by omega)
  by_cases hneg : sgV s q < 0
  · rw [e, if_pos hneg, sgV_neg]
    have e2 : sgV s ((qtN s (vlN s q.natAbs) : Nat) : Int) = vlN s q.natAbs := by
      unfold sgV
      rw [if_neg (by omega), Int.natAbs_natCast, h2]
    rw [e2]
    have := sgV_abs hs hq
    omega
  · rw [e, if_neg hneg]
    have e2 : sgV s ((qtN s (vlN s q.natAbs) : Nat) : Int) = vlN s q.natAbs := by
      unfold sgV
      rw [if_neg (by omega), Int.natAbs_natCast, h2]
    rw [e2]
    have := sgV_abs hs hq
    omega
theorem ck_of {m : Int} {xs : List Int} {s : Int} (hs : 0 ≤ s ∧ s ≤ 95) (hl : xs.length ≤ 128) (h : ∀ x ∈ xs, -m ≤ x ∧ x ≤ m) : ckS m xs s = 0 := by
  unfold ckS ckQ
  rw [if_pos hs, if_neg (by omega), if_pos (inM_all h)]
theorem ckS_ok {m : Int} {xs : List Int} {s : Int} (h : ckS m xs s = 0) : (0 ≤ s ∧ s ≤ 95) ∧ xs.length ≤ 128 ∧ ∀ x ∈ xs, -m ≤ x ∧ x ≤ m := by
  unfold ckS at h
  split at h
  · rename_i hs
    obtain ⟨h1, h2⟩ := ckQ_ok h
    exact ⟨hs, h1, inM_yes h2⟩
  · cases h
theorem fold_zero : ∀ (zs : List Int), (∀ z ∈ zs, z = 0) → zs.foldl (fun s x => s + x) 0 = 0
  | [], _ => rfl
  | z :: zs, h => by
    rw [List.foldl_cons, h z (List.mem_cons_self ..)]
    exact fold_zero zs (fun y hy => h y (List.mem_cons_of_mem _ hy))
theorem ag {xs : List Int} {s : Int} (h : ckS 1023 xs s = 0) : lV xs s = xs.map (sgV s.toNat) ∧ ckS 2097152 (xs.map (sgV s.toNat)) s = 0 ∧ lQ (xs.map (sgV s.toNat)) s = (xs.map (sgV s.toNat)).map (sgQ s.toNat) ∧
    ckS 1023 ((xs.map (sgV s.toNat)).map (sgQ s.toNat)) s = 0 ∧ lV ((xs.map (sgV s.toNat)).map (sgQ s.toNat)) s = xs.map (sgV s.toNat) ∧ nV (xs.map (sgV s.toNat)) s = 0 := by
  obtain ⟨hs, hl, hx⟩ := ckS_ok h
  have hn : s.toNat ≤ 95 := by omega
  have h2 : ckS 2097152 (xs.map (sgV s.toNat)) s = 0 := ck_of hs (by rw [List.length_map]; exact hl) (fun y hy => by
    obtain ⟨x, hx', rfl⟩ := List.mem_map.1 hy
    exact sgV_bd hn (hx x hx'))
  have h4 : ckS 1023 ((xs.map (sgV s.toNat)).map (sgQ s.toNat)) s = 0 := ck_of hs (by rw [List.length_map, List.length_map]; exact hl) (fun y hy => by
    obtain ⟨x, _, rfl⟩ := List.mem_map.1 hy
    exact sgQ_bd _ _)
  refine ⟨if_pos h, h2, if_pos h2, h4, (if_pos h4).trans ?_, (if_pos h2).trans ?_⟩
  · rw [List.map_map, List.map_map]
    exact List.map_congr_left (fun x hx' => ag_V hn (hx x hx'))
  · unfold nsL
    refine fold_zero _ (fun z hz => ?_)
    rw [List.map_map, List.map_map] at hz
    obtain ⟨x, hx', rfl⟩ := List.mem_map.1 hz
    show loN s.toNat (szI (sgV s.toNat x)) = 0
    have hb := hx x hx'
    rw [sz_V hn hb]
    unfold loN
    rw [(qt_again hn (show x.natAbs ≤ 1023 by omega)).2, Int.sub_self]
    rfl
set_option maxRecDepth 100000 in
set_option maxHeartbeats 8000000 in
theorem again_qu (sv : Value) (xs : List Int) (s : Int) (w : World) (h : Ints w sv xs) : Calls Try.prog 6 #[sv, .int .i64 s] w fun e w' => e = .returned (.bool true) ∧ Upd NoB w w' := by
  have HV := Lib.hid (pVs_any sv xs s w h)
  by_cases hE : ckS 1023 xs s = 0
  · obtain ⟨a1, a2, a3, a4, a5, a6⟩ := ag hE
    rw [a1, hE] at HV
    obtain ⟨hs, hl, hx⟩ := ckS_ok hE
    have HQ := Lib.hid (fun v W h => pQs_any v (xs.map (sgV s.toNat)) s W h)
    rw [a2, a3] at HQ
    have HW := Lib.hid (fun v W h => pVs_any v ((xs.map (sgV s.toNat)).map (sgQ s.toNat)) s W h)
    rw [a4, a5] at HW
    have HN := Lib.hid (fun v W h => Noise_any v (xs.map (sgV s.toNat)) s W h)
    rw [a2, a6] at HN
    have HL1 := Lib.hid (show (xs.map (sgV s.toNat)).length = xs.length by rw [List.length_map])
    have HL2 := Lib.hid (show ((xs.map (sgV s.toNat)).map (sgQ s.toNat)).length = xs.length by rw [List.length_map, List.length_map])
    have HG := Lib.hid (show ∀ (k : Nat) (x : Int), xs[k]? = some x → ∃ y, ((xs.map (sgV s.toNat)).map (sgQ s.toNat))[k]? = some y ∧ max y (-y) ≤ max x (-x) ∧ (-1023 ≤ x ∧ x ≤ 1023) ∧ (-1023 ≤ y ∧ y ≤ 1023) from fun k x hk => by
      refine ⟨sgQ s.toNat (sgV s.toNat x), by rw [List.getElem?_map, List.getElem?_map, hk]; rfl, ag_abs (by omega) (hx x (List.mem_of_getElem? hk)), hx x (List.mem_of_getElem? hk), sgQ_bd _ _⟩)
    generalize ((xs.map (sgV s.toNat)).map (sgQ s.toNat)) = R at *
    generalize xs.map (sgV s.toNat) = V at *
    have X0 := Lib.hid h
    obtain ⟨a, cap, rfl⟩ := h.form
    obtain ⟨L, hL⟩ : ∃ L, xs.length = L := ⟨_, rfl⟩
    have HL := Lib.hid hL
    rw [hL] at HV HL1 HL2 hl X0 ⊢
    have HLb := Lib.hid hl
    clear h hE hs hx a1 a2 a3 a4 a5 a6 hL hl
    go_enter Try.func6, Try.ntmps6
    go_wp2_with fail
    refine (HV.out).mono ?_
    intro e w1 hr
    obtain ⟨a1, c1, rfl, i1, u1⟩ := EInts.open hr (by rw [HL1.out]; have := HLb.out; omega)
    rw [HL1.out] at i1 ⊢
    have X1 := Lib.hid (X0.out.later u1)
    clear X0
    have UU1 := Lib.hid ((Upd.refl NoB w).then u1)
    have VV1 := Lib.hid (i1)
    clear hr i1 u1
    go_wp2_with fail
    refine (HQ.out _ _ VV1.out).mono ?_
    intro e w2 hr
    obtain ⟨a2, c2, rfl, i2, u2⟩ := EInts.open hr (by rw [HL2.out]; have := HLb.out; omega)
    rw [HL2.out] at i2 ⊢
    have X2 := Lib.hid (X1.out.later u2)
    clear X1
    have VV2 := Lib.hid (VV1.out.later u2)
    clear VV1
    have UU2 := Lib.hid (UU1.out.then u2)
    clear UU1
    have RR2 := Lib.hid (i2)
    clear hr i2 u2
    go_wp2_with fail
    refine (HW.out _ _ RR2.out).mono ?_
    intro e w3 hr
    obtain ⟨a3, c3, rfl, i3, u3⟩ := EInts.open hr (by rw [HL1.out]; have := HLb.out; omega)
    rw [HL1.out] at i3 ⊢
    have X3 := Lib.hid (X2.out.later u3)
    clear X2
    have VV3 := Lib.hid (VV2.out.later u3)
    clear VV2
    have RR3 := Lib.hid (RR2.out.later u3)
    clear RR2
    have UU3 := Lib.hid (UU2.out.then u3)
    clear UU2
    have WW3 := Lib.hid (i3)
    clear hr i3 u3
    go_wp2_with fail
    refine (HN.out _ _ VV3.out).mono ?_
    rintro e w4 ⟨rfl, u4⟩
    have X4 := Lib.hid (X3.out.later u4)
    clear X3
    have VV4 := Lib.hid (VV3.out.later u4)
    clear VV3
    have RR4 := Lib.hid (RR3.out.later u4)
    clear RR3
    have WW4 := Lib.hid (WW3.out.later u4)
    clear WW3
    have UU4 := Lib.hid (UU3.out.then u4)
    clear UU3
    clear u4
    go_wp2_with fail
    go_loopw [48] (fun i wr => ∃ k : Nat, k ≤ L ∧ i = .int .i64 k ∧ Upd NoB w4 wr) (fun i _ => L - (intOf i).toNat)
    case atStart => exact ⟨0, Nat.zero_le _, rfl, Upd.refl _ _⟩
    case round =>
      obtain ⟨k, hk, rfl, hu⟩ := hrel
      by_cases hlt : k < L
      · obtain ⟨x, hx⟩ : ∃ x, xs[k]? = some x := ⟨_, List.getElem?_eq_getElem (by rw [HL.out]; exact hlt)⟩
        obtain ⟨y, hy, hxy, hx2, hy2⟩ := HG.out k x hx
        obtain ⟨b1, o1, rfl, e1⟩ := (X4.out.later hu).cellAt hx
        obtain ⟨b2, o2, e0, e2⟩ := (RR4.out.later hu).cellAt hy
        subst e0
        have z1 : wrap64 (-y) = -y := IntWalk.wrap64_in _ (by omega)
        have z2 : IntKind.i64.wrap (-y) = -y := IntWalk.i64_in _ (by clear z1; omega)
        have z3 : wrap64 (-x) = -x := IntWalk.wrap64_in _ (by clear z1 z2; omega)
        have z4 : IntKind.i64.wrap (-x) = -x := IntWalk.i64_in _ (by clear z1 z2 z3; omega)
        have t1 : decide ((L : Int) ≤ (k : Int)) = false := decide_eq_false (by clear z1 z2 z3 z4; omega)
        have t2 : decide (L ≤ k) = false := decide_eq_false (by clear z1 z2 z3 z4; omega)
        have t3 : decide (max x (-x) < max y (-y)) = false := decide_eq_false (by clear z1 z2 z3 z4; omega)
        have hk6 : k ≤ 1000000 := by have := HLb.out; clear z1 z2 z3 z4; omega
        have HU := Lib.hid hu
        clear hx hy hxy hx2 hy2 hu
        go_wp2_with fail
        go_quiet (fail)
        have UQ := Lib.hid (show Upd NoB w4 (wr.drewN nq) from upd_drewN HU.out _)
        go_wp2_with fail
        go_roundw
        case rel => exact ⟨k + 1, by omega, by go_num, UQ.out⟩
        case measure => clear z1 z2 z3 z4; simp [intOf]; omega
      · obtain rfl : k = L := by omega
        have u90 := hu
        have X90 := Lib.hid (X4.out.later u90)
        clear X4
        have VV90 := Lib.hid (VV4.out.later u90)
        clear VV4
        have RR90 := Lib.hid (RR4.out.later u90)
        clear RR4
        have WW90 := Lib.hid (WW4.out.later u90)
        clear WW4
        have UU90 := Lib.hid (UU4.out.then u90)
        clear UU4
        clear u90 hu hlt
        go_wp2_with fail
        refine (qints_any _ _ V V _ VV90.out WW90.out).mono ?_
        rw [intsB_self]
        rintro e w91 ⟨rfl, m91, hw91⟩
        have u91 : Upd NoB wr w91 := by rw [hw91]; exact upd_drewN (Upd.refl _ _) _
        have X91 := Lib.hid (X90.out.later u91)
        clear X90
        have VV91 := Lib.hid (VV90.out.later u91)
        clear VV90
        have RR91 := Lib.hid (RR90.out.later u91)
        clear RR90
        have WW91 := Lib.hid (WW90.out.later u91)
        clear WW90
        have UU91 := Lib.hid (UU90.out.then u91)
        clear UU90
        clear u91 hw91
        go_wp2_with fail
        refine (awake_qu _).mono ?_
        rintro e w92 ⟨rfl, u92⟩
        have X92 := Lib.hid (X91.out.later u92)
        clear X91
        have VV92 := Lib.hid (VV91.out.later u92)
        clear VV91
        have RR92 := Lib.hid (RR91.out.later u92)
        clear RR91
        have WW92 := Lib.hid (WW91.out.later u92)
        clear WW91
        have UU92 := Lib.hid (UU91.out.then u92)
        clear UU91
        clear u92
        go_wp2_with fail
        go_ret
        exact ⟨rfl, UU92.out⟩
  · have HE := Lib.hid (show lV xs s = [] from if_neg hE)
    rw [HE.out] at HV
    obtain ⟨a, cap, rfl⟩ := h.form
    generalize ckS 1023 xs s = E at *
    have t1 : (E != 0) = true := bne_iff_ne.2 hE
    generalize xs.length = L at *
    clear h hE
    go_enter Try.func6, Try.ntmps6
    go_wp2_with fail
    refine (HV.out).mono ?_
    intro e w1 hr
    obtain ⟨a1, c1, rfl, i1, u1⟩ := EInts.open hr (by decide)
    have UU1 := Lib.hid ((Upd.refl NoB w).then u1)
    clear hr i1 u1
    go_wp2_with fail
    refine (awake_qu _).mono ?_
    rintro e w2 ⟨rfl, u2⟩
    have UU2 := Lib.hid (UU1.out.then u2)
    clear UU1
    clear u2
    go_wp2_with fail
    go_ret
    exact ⟨rfl, UU2.out⟩
end Go.Proofs.Yteioaeceobgbdaa
