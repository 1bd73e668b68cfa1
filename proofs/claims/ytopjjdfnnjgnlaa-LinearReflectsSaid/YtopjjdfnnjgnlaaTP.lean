/- linear: filterOf, Reflect -/
import Derived.Test.YtopjjdfnnjgnlaaTO
namespace Go.Proofs.Ytopjjdfnnjgnlaa
open Go.RowKit Go.Shelf

theorem flG_zero (u v : List Int) : flG 0 u v = [] := rfl
theorem flG_succ (n : Nat) (u v : List Int) : flG (n + 1) u v = rfl1 (u.getD 0 0) (v.getD 0 0) :: flG n (rfU u v (rfl1 (u.getD 0 0) (v.getD 0 0))) (rfV u v (rfl1 (u.getD 0 0) (v.getD 0 0))) := rfl
theorem rfV_zero {u v : List Int} (h : 1 < u.length) : (rfV u v (rfl1 (u.getD 0 0) (v.getD 0 0))).getD 0 0 ≤ v.getD 0 0 := by
  have e : (rfV u v (rfl1 (u.getD 0 0) (v.getD 0 0)))[0]? = some (v.getD 0 0 + rnd (rfl1 (u.getD 0 0) (v.getD 0 0) * u.getD 0 0) 128) := by
    unfold rfV
    rw [List.getElem?_map, List.getElem?_range (show 0 < u.length - 1 by omega)]
    rfl
  rw [List.getD_eq_getElem?_getD, e]
  have := rfl1_mul (u.getD 0 0) (v.getD 0 0)
  show v.getD 0 0 + _ ≤ _
  omega
theorem row_ints {w : World} {base n : Nat} {v : Value} {xs : List Int} (h : w.ownsRow base 3 1 v n (i64s xs)) (hn : xs.length = n) (hl : n ≤ 1000000) : Ints w v xs := Ints.ofRow (by rw [hn]; exact h) (by omega)
theorem two_pow_le {n : Nat} (h : n ≤ 12) : (1073741824 : Int) * 2 ^ n ≤ 4398046511104 ∧ 1 ≤ (2 : Int) ^ n := by
  have h1 := Nat.pow_le_pow_right (show 0 < 2 by decide) h
  have h2 := Nat.two_pow_pos n
  have e : ((2 : Int) ^ n) = ((2 ^ n : Nat) : Int) := by simp
  have e2 : 2 ^ 12 = 4096 := by decide
  omega
set_option maxRecDepth 100000 in
set_option maxHeartbeats 8000000 in
theorem filterOf_any (sv : Value) (lk : List Int) (o : Nat) (w : World) (h : Ints w sv lk) (hl : lk.length = o + 1) (ho : o ≤ 12) (hin : inM 1073741824 lk = true) :
    Calls Try.prog 73 #[sv] w (IRes w (flG o (lk.drop 1) (lk.take o))) := by
  have H := Lib.hid h
  obtain ⟨a, cap, rfl⟩ := h.form
  have hcap : lk.length ≤ cap := by
    obtain ⟨_, a', c', e, ⟨hcc, _⟩, _⟩ := h
    injection e with _ _ e3
    omega
  have HIu := Lib.hid (Ints.from' h 1 (by omega) hcap)
  have HIv := Lib.hid (Ints.pre h o (by omega))
  have hs1 : ∀ V : World, (Instr.slice 22 (.slice a lk.length cap) (some (.int .i64 1)) none none).run Try.prog V = .ok (.slice (if cap = 1 then a else a.map (fun p => p.add (1 * 1))) (lk.length - 1) (cap - 1)) V := fun V => run_slice_lo V a lk.length cap 1 (by omega) hcap
  have hs2 := fun V => run_slice_pre V a lk.length cap o (by omega)
  have hu0 : (lk.drop 1).length = o := by rw [List.length_drop, hl]; omega
  have hv0 : (lk.take o).length = o := by rw [List.length_take, hl]; omega
  rw [hv0] at HIv
  have HU0 := Lib.hid hu0; have HV0 := Lib.hid hv0
  have HBu := Lib.hid (inM_drop hin 1); have HBv := Lib.hid (inM_take hin o)
  have HFl := Lib.hid (flG_len o (lk.drop 1) (lk.take o))
  obtain ⟨A1, hA1⟩ : ∃ A, (if cap = 1 then a else a.map (fun p => p.add (1 * 1))) = A := ⟨_, rfl⟩
  rw [hA1] at hs1 HIu
  rw [hl] at hs1 hs2 H HIu hcap ⊢
  rw [show o + 1 - 1 = o by omega] at hs1 HIu
  have HCu := Lib.hid (fun V (u : Upd NoB w V) => iclone_any _ (lk.drop 1) V (HIu.out.later u))
  have HCv := Lib.hid (fun V (u : Upd NoB w V) => iclone_any _ (lk.take o) V (HIv.out.later u))
  generalize lk.drop 1 = U0 at *
  generalize lk.take o = V0 at *
  obtain ⟨M, hM⟩ : ∃ M, o + 1 = M := ⟨_, rfl⟩
  have m1 : (o : Int) + 1 = (M : Int) := by omega
  have m2 : wrap64 ((M : Int) - 1) = (o : Int) := by rw [IntWalk.wrap64_in _ (by omega)]; omega
  have m3 : IntKind.i64.wrap ((M : Int) - 1) = (o : Int) := by rw [IntWalk.i64_in _ (by omega)]; omega
  rw [hM] at hs1 hs2 H hcap ⊢
  have HM1 := Lib.hid hM
  obtain ⟨FL, hFL⟩ : ∃ FL, flG o U0 V0 = FL := ⟨_, rfl⟩
  have HFe := Lib.hid hFL
  rw [hFL] at HFl ⊢
  clear h hl hin hA1 hu0 hv0 hM m1 hFL
  go_enter Try.func73, Try.ntmps73
  go_wp2_with fail
  go_region_with (first
    | (go_at_call 67; (with_reducible refine (HCu.out w.drew (Upd.refl NoB w).drew).mono ?_); rintro e w2 ⟨v2, rfl, r2, u2⟩; rw [HU0.out] at r2; obtain ⟨a2, c2, rfl⟩ := row_form r2; have R2 := Lib.hid (row_base r2 (show w.heap.size ≤ w.drew.heap.size from Nat.le_refl _)); have U2 := Lib.hid (show Upd NoB w w2 from (Upd.refl NoB w).drew.then u2); clear r2 u2)
    | (go_at_call 67; refine (HCv.out w2 U2.out).mono ?_; rintro e w3 ⟨v3, rfl, r3, u3⟩; rw [HV0.out] at r3; obtain ⟨a3, c3, rfl⟩ := row_form r3; have D3 := Lib.hid (show ∀ j, (Value.slice a2 o c2).ownBlock = some j → (Value.slice a3 o c3).ownBlock = some j → False from fun j h1 h2 => absurd (R2.out.lt j h1).2 (Nat.not_lt.2 (r3.lt j h2).1)); have R3 := Lib.hid (row_base r3 U2.out.size); have Q3 := Lib.hid (u3.row R2.out (fun j _ => noB j)); have U3 := Lib.hid (U2.out.then u3); clear r3 u3))
  all_goals
    go_wp2_with fail
    go_loopw [4, 5, 6, 19] (fun us vs f i wr => ∃ (m : Nat) (U V F : List Int), m ≤ o ∧ i = .int .i64 (m : Int) ∧ U.length = o - m ∧ V.length = o - m ∧ wr.ownsRow w.heap.size 3 1 us (o - m) (i64s U) ∧ wr.ownsRow w.heap.size 3 1 vs (o - m) (i64s V) ∧ wr.ownsRow w.heap.size 3 1 f m (i64s F) ∧ (∀ j, f.ownBlock = some j → us.ownBlock = some j → False) ∧ (∀ j, f.ownBlock = some j → vs.ownBlock = some j → False) ∧ FL = F ++ flG (o - m) U V ∧ inM (1073741824 * 2 ^ m) U = true ∧ inM (1073741824 * 2 ^ m) V = true ∧ V.getD 0 0 ≤ 1073741824 ∧ F.length = m ∧ Upd NoB w wr) (fun _ _ _ i _ => o - (intOf i).toNat)
    case atStart => exact ⟨0, U0, V0, [], Nat.zero_le _, rfl, HU0.out, HV0.out, Q3.out, R3.out, World.ownsRow_nil _ _ _ _, fun j hj => by simp [Value.ownBlock] at hj, fun j hj => by simp [Value.ownBlock] at hj, by rw [← HFe.out]; rfl, inM_mono (by decide) HBu.out, inM_mono (by decide) HBv.out, (getD_in (by decide) HBv.out 0).2, rfl, by have := U3.out; exact this⟩
    case round =>
      obtain ⟨m, U, V, F, hm, rfl, hUl, hVl, hru, hrv, hrf, hd1, hd2, htot, bU, bV, hv0, hFlen, hu⟩ := hrel
      by_cases hlt : m < o
      · obtain ⟨N, hN⟩ : ∃ N, o - m = N + 1 := ⟨o - m - 1, by omega⟩
        rw [hN] at hUl hVl hru hrv htot
        have iu := row_ints hru hUl (by omega)
        have iv := row_ints hrv hVl (by omega)
        obtain ⟨ua, uc, rfl⟩ := row_form hru
        obtain ⟨va, vc, rfl⟩ := row_form hrv
        obtain ⟨fa, fc, rfl⟩ := row_form hrf
        obtain ⟨ub, uo, hua, c1⟩ := iu.cellAt (getD_of (xs := U) (j := 0) (by omega))
        obtain ⟨vb, vo, hva, c2⟩ := iv.cellAt (getD_of (xs := V) (j := 0) (by omega))
        obtain ⟨p1, p2⟩ := two_pow_le (n := m) (by omega)
        have bU4 : inM 4398046511104 U = true := inM_mono p1 bU
        have bV4 : inM 4398046511104 V = true := inM_mono p1 bV
        have gU := getD_in (by decide) bU4 0
        have HRe := Lib.hid (fun W => reflection_any (U.getD 0 0) (V.getD 0 0) W (by omega) (by omega))
        have hkb := rfl1_in (U.getD 0 0) (V.getD 0 0)
        have HRd := Lib.hid (fun W (u : Upd (fun j => (Value.slice fa m fc).ownBlock = some j) wr W) => reflected_any (.slice ua (N + 1) uc) (.slice va (N + 1) vc) U V (rfl1 (U.getD 0 0) (V.getD 0 0)) W (iu.upd u (fun _ j hj e => hd1 j e hj)) (iv.upd u (fun _ j hj e => hd2 j e hj)) (by omega) (by omega) (by omega) hkb (inM_mono (by decide) bU4) (inM_mono (by decide) bV4))
        have hbn := rf_in (B := 1073741824 * 2 ^ m) (by omega) hkb bU bV
        rw [show 2 * ((1073741824 : Int) * 2 ^ m) = 1073741824 * 2 ^ (m + 1) by rw [Int.pow_succ]; omega] at hbn
        have HBn := Lib.hid hbn
        have HLu := Lib.hid (rfU_len U V (rfl1 (U.getD 0 0) (V.getD 0 0))); have HLv := Lib.hid (rfV_len U V (rfl1 (U.getD 0 0) (V.getD 0 0)))
        rw [flG_succ] at htot
        have HZ := Lib.hid (show (rfV U V (rfl1 (U.getD 0 0) (V.getD 0 0))).getD 0 0 ≤ 1073741824 from by
          by_cases h1 : 1 < U.length
          · exact Int.le_trans (rfV_zero h1) hv0
          · have e : rfV U V (rfl1 (U.getD 0 0) (V.getD 0 0)) = [] := List.eq_nil_of_length_eq_zero (by rw [rfV_len]; omega)
            rw [e]; decide)
        obtain ⟨k, hk⟩ : ∃ k, rfl1 (U.getD 0 0) (V.getD 0 0) = k := ⟨_, rfl⟩
        rw [hk] at HRe HRd HBn HLu HLv htot HZ
        rw [hUl] at HLu HLv
        have HTot := Lib.hid htot; have HRf := Lib.hid hrf; have HU := Lib.hid hu; have HFl2 := Lib.hid hFlen; have HN := Lib.hid hN
        have HFlt := Lib.hid (fun j e => (hrf.lt j e).1)
        have hbs := hu.size
        have hN0 : (0 : Int) < ((N + 1 : Nat) : Int) := by omega
        have hN1 : 0 < N + 1 := by omega
        have hm6 : m ≤ 1000000 := by omega
        have HLt := Lib.hid hlt
        rw [Nat.add_zero] at c1 c2
        obtain ⟨X, hX⟩ : ∃ X, U.getD 0 0 = X := ⟨_, rfl⟩
        obtain ⟨Y, hY⟩ : ∃ Y, V.getD 0 0 = Y := ⟨_, rfl⟩
        rw [hX] at c1 HRe
        rw [hY] at c2 HRe
        have d1 : wr.drew.cell? ⟨ub, uo, none⟩ = some (.int .i64 X) := c1
        have d2 : wr.drew.cell? ⟨vb, vo, none⟩ = some (.int .i64 Y) := c2
        subst hua; subst hva
        clear hUl hVl hru hrv hrf hd1 hd2 htot bU bV bU4 bV4 hv0 hFlen hu iu iv p1 p2 gU hkb hbn hk hX hY hN hlt
        go_wp2
        refine wp_region_still_tail 6 (by kernel_rfl) (by kernel_rfl) ?_
        simp only [List.take_succ_cons, List.take_zero, List.drop_succ_cons, List.drop_zero]
        repeat still_step
        refine wpStill_nil ?_
        change wpList _ _ _ _ _ wr.drew
        have u4 : Upd NoB wr wr.drew := (Upd.refl _ _).drew
        have HU4 := Lib.hid u4; have HRf4 := Lib.hid (u4.row HRf.out (fun j _ => noB j))
        have hb4 : w.heap.size ≤ wr.drew.heap.size := hbs
        generalize wr.drew = w4 at *
        clear d1 d2 u4 c1 c2
        go_wp2_with fail
        refine (HRe.out w4).mono ?_
        rintro e w5 ⟨rfl, rfl⟩
        go_wp2_with (at_builtin; refine wpList_pushF rfl (.tmp 28) (.tmp 30) rfl w.heap.size (.slice fa m fc) m F k rfl rfl HRf4.out hm6 hb4 ?_; intro v6 w6 hown6 u6 hat6; obtain ⟨a6, c6, rfl⟩ := row_form hown6; have R6 := Lib.hid hown6; have Uw6 := Lib.hid (show Upd (fun j => (Value.slice fa m fc).ownBlock = some j) wr w6 from (HU4.out.mono (T := fun j => (Value.slice fa m fc).ownBlock = some j) (fun _ _ h => h.elim)).trans u6 (fun _ _ h => h)); have U6 := Lib.hid (show Upd NoB w w6 from HU.out.trans Uw6.out (fun j hj e => absurd hj (Nat.not_lt.2 (HFlt.out j e)))); clear hown6 u6 hat6)
        refine (HRd.out w6 Uw6.out).mono ?_
        rintro e w7 ⟨a7, c7, a8, c8, rfl, r7, r8, u7⟩
        have HD7 := Lib.hid (fun j (h1 : (Value.slice a6 (m + 1) c6).ownBlock = some j) => (R6.out.lt j h1).2)
        have R7 := Lib.hid r7; have R8 := Lib.hid r8; have F7 := Lib.hid (u7.row R6.out (fun j _ => noB j)); have U7 := Lib.hid (U6.out.then u7)
        have HsW := Lib.hid U6.out.size
        clear r7 r8 u7
        go_wp2_with fail
        go_roundw
        case rel =>
          have hlt := HLt.out
          have hN := HN.out
          have e1 := HLu.out
          have e2 := HLv.out
          rw [Nat.add_sub_cancel] at e1 e2
          have hoN : o - (m + 1) = N := by omega
          refine ⟨m + 1, rfU U V k, rfV U V k, F ++ [k], by omega, by go_num, by rw [e1, hoN], by rw [e2, hoN], ?_, ?_, F7.out, ?_, ?_, ?_, HBn.out.1, HBn.out.2, HZ.out, by rw [List.length_append, HFl2.out]; rfl, U7.out⟩
          · have := row_base R7.out HsW.out; rw [e1] at this ⊢; rw [hoN]; exact this
          · have := row_base R8.out HsW.out; rw [e2] at this ⊢; rw [hoN]; exact this
          · intro j h1 h2
            exact absurd (HD7.out j h1) (Nat.not_lt.2 (R7.out.lt j h2).1)
          · intro j h1 h2
            exact absurd (HD7.out j h1) (Nat.not_lt.2 (R8.out.lt j h2).1)
          · rw [hoN, HTot.out, List.append_assoc]; rfl
        case measure => have := HLt.out; simp [intOf]; omega
      · obtain rfl : m = o := by omega
        have hoo : decide ((m : Int) < (m : Int)) = false := decide_eq_false (Int.lt_irrefl _)
        rw [Nat.sub_self, flG_zero, List.append_nil] at htot
        have HT := Lib.hid htot; have HRf := Lib.hid hrf; have HU := Lib.hid hu
        clear hUl hVl hru hrv hrf hd1 hd2 htot bU bV hv0 hFlen hu hlt
        go_wp2_with fail
        go_ret
        exact ⟨_, rfl, by rw [HFl.out, HT.out]; exact HRf.out, HU.out⟩
end Go.Proofs.Ytopjjdfnnjgnlaa
