/- the reference's Apply and Undo -/
import Derived.Test.YtpmhioaoniijbaaDoorJW
import Derived.Laws.AppendOwnNone
namespace Go.Proofs.YtpmhioaoniijbaaDoor
open Go.RowKit Go.Shelf

set_option maxRecDepth 100000 in
set_option maxHeartbeats 4000000 in
theorem rapply_any (xv tv : Value) (xs : List Int) (ts : List Tn) (w : World) (hx : Ints w xv xs) (ht : Tns w tv ts) (hsm : stpE 1048576 xs ts = 0 → xs.length ≤ 60 ∧ ts.length ≤ 60) :
    Calls Tryd.prog 29 #[xv, tv] w (LRes w (appV xs ts) (stpE 1048576 xs ts)) := by
  have HST := Lib.hid (looked_any 1048576 xv tv xs ts w (by omega) (by omega) hx ht)
  have HX := Lib.hid hx; have HT := Lib.hid ht
  obtain ⟨xa, xcap, rfl⟩ := hx.form
  obtain ⟨ta, tcap, rfl⟩ := ht.form
  clear hx ht
  by_cases hE : stpE 1048576 xs ts = 0
  · have V := Lib.hid (show appV xs ts = allT forthF ts xs from if_pos hE)
    obtain ⟨sm1, sm2⟩ := hsm hE
    obtain ⟨_, _, hall, htn⟩ := stp_ok hE
    have E := Lib.hid hE
    have tok := tnsE_ok htn
    have hsq0 := sqs_le (M := 1048576) (by omega) hall
    obtain ⟨K, hK⟩ : ∃ K, ts.length = K := ⟨_, rfl⟩
    obtain ⟨L, hL⟩ : ∃ L, xs.length = L := ⟨_, rfl⟩
    have HK := Lib.hid hK; have HL := Lib.hid hL
    rw [hL] at hsq0
    rw [hK, hL] at HST ⊢
    rw [hL] at HX sm1
    rw [hK] at sm2 HT
    have hsq : sq xs ≤ (bnd 73786976294838206464 0 : Nat) := by
      have : bnd 73786976294838206464 0 = 73786976294838206464 := rfl
      rw [this]; omega
    have TOK := Lib.hid tok; have HSQ := Lib.hid hsq
    have HST' := HST.out
    rw [hE] at HST'
    have HS2 := Lib.hid HST'
    clear hE hsm hall htn tok hsq0 hsq hK hL HST HST'
    go_enter Tryd.func29, Tryd.ntmps29
    go_wp2_with fail
    (with_reducible refine HS2.out.mono ?_)
    rintro e w1 ⟨rfl, u1⟩
    have U1 := Lib.hid u1
    have HX1 := Lib.hid (HX.out.later u1)
    clear u1
    go_wp2_with (at_builtin; refine wpList_copyI rfl _ _ rfl _ xs rfl rfl HX1.out ?_)
    intro v w2 hrow u2
    rw [HL.out] at hrow
    have hs1 := U1.out.size
    have U2 := Lib.hid (U1.out.then u2)
    have HT2 := Lib.hid (HT.out.later U2.out)
    have R2 := Lib.hid (row_base hrow (show w.heap.size ≤ w1.heap.size from hs1))
    clear hrow u2
    go_wp2_with fail
    go_loopw [23] (fun iv wr => ∃ (k : Nat) (ys : List Int), iv = .int .i64 k ∧ k ≤ K ∧ wr.ownsRow w.heap.size 3 1 v L (i64s ys) ∧ ys.length = L ∧ sq ys ≤ (bnd 73786976294838206464 k : Nat) ∧ ys = allT forthF (ts.take k) xs ∧ Upd NoB w wr) (fun iv _ => K - (intOf iv).toNat)
    case atStart => exact ⟨0, xs, rfl, Nat.zero_le _, R2.out, HL.out, HSQ.out, rfl, U2.out⟩
    case round =>
      obtain ⟨k, ys, rfl, hk, r1, r2, r3, r4, r5⟩ := hrel
      obtain ⟨wo, rfl⟩ : ∃ wo : World, wo = wr := ⟨_, rfl⟩
      by_cases hlt : k < K
      · obtain ⟨t, ht⟩ : ∃ t, ts[k]? = some t := ⟨_, List.getElem?_eq_getElem (by rw [HK.out]; exact hlt)⟩
        have tk := TOK.out k t ht
        rw [HL.out] at tk
        obtain ⟨hok, hfit⟩ := tn_ok tk
        have hE : turE t.n t.d = 0 := by
          unfold tnE at tk
          by_cases hp : plB L t = true
          · rwa [if_pos hp] at tk
          · rw [if_neg hp] at tk; exact absurd tk (by decide)
        have hL0 : 0 < L := by have h1 := hok.2.2.2.2.2.1; have h2 := hok.2.2.2.2.2.2.1; omega
        obtain ⟨b, cap, e⟩ := row_slice r1 hL0
        subst e
        have hbb := (r1.lt b rfl)
        rw [← r2] at r1
        obtain ⟨oR, ob1, ob2⟩ := OwnR.of r1
        have hbd := fun (k' : Nat) (y : Int) (hk' : ys[k']? = some y) => sq_bd (M := 137438953472) r3 (by omega) (by
          have h1 := bnd_le (B := 73786976294838206464) (show k ≤ 60 by omega)
          have h2 := bnd_wide
          generalize bnd 73786976294838206464 k = u at *
          generalize bnd 73786976294838206464 60 = v at *
          omega) k' y hk'
        have hgrow := sq_step (f := forthF) (s := t.sp) (xs := ys) (by have h1 := hok.2.2.2.2.2.1; have h2 := hok.2.2.2.2.2.2.1; omega) (by have h1 := hok.2.2.2.2.2.2.2.1; have h2 := hok.2.2.2.2.2.2.2.2.1; omega) (by have h1 := hok.2.2.2.2.2.1; have h2 := hok.2.2.2.2.2.2.2.1; have h3 := hok.2.2.2.2.2.2.2.2.2; omega) (fun p => forth_grow hfit p)
        have Hnext := Lib.hid (bnd_next r3 hgrow)
        have Hall := Lib.hid (show stepL forthF t.sp ys = allT forthF (ts.take (k + 1)) xs by rw [allT_snoc ht, r4])
        obtain ⟨ti, tj, n, d⟩ := t
        obtain ⟨_, _, _, _, _, i0, i1, j0, j1, hij⟩ := hok
        simp only [Tn.sp] at i0 i1 j0 j1 hij hE
        obtain ⟨i, rfl⟩ : ∃ i : Nat, ti = i := ⟨ti.toNat, by omega⟩
        obtain ⟨j, rfl⟩ : ∃ j : Nat, tj = j := ⟨tj.toNat, by omega⟩
        have hi : i < ys.length := by omega
        have hj : j < ys.length := by omega
        have hne : i ≠ j := by omega
        obtain ⟨X, eX⟩ : ∃ X, ys.getD i 0 = X := ⟨_, rfl⟩
        obtain ⟨Y, eY⟩ : ∃ Y, ys.getD j 0 = Y := ⟨_, rfl⟩
        have hX : -137438953472 ≤ X ∧ X ≤ 137438953472 := hbd i X (by rw [← eX, List.getD_eq_getElem?_getD, List.getElem?_eq_getElem hi]; rfl)
        have hY : -137438953472 ≤ Y ∧ Y ≤ 137438953472 := hbd j Y (by rw [← eY, List.getD_eq_getElem?_getD, List.getElem?_eq_getElem hj]; rfl)
        have HTu := Lib.hid (fun w => turned_any X Y n d w hE ⟨hX.1, hX.2, hY.1, hY.2⟩)
        have HSt := Lib.hid (show (ys.set i (turnF n d (X, Y)).1).set j (turnF n d (X, Y)).2 = stepL forthF (Tn.sp ⟨i, j, n, d⟩) ys by
          unfold stepL turnF Tn.sp
          simp only [Int.toNat_natCast]
          rw [eX, eY])
        obtain ⟨_, a', cap', e', h3⟩ := HT.out.later r5
        cases e'
        rcases h3 with h3 | ⟨bt, off, rfl, h3⟩
        · rw [h3] at ht; simp at ht
        obtain ⟨q0, q1, q2, q3⟩ := h3 k _ ht
        simp only at q0 q1 q2 q3
        obtain ⟨W4, hW4⟩ : ∃ W4, W4 = wo.alloc (.cells #[.int .i64 i, .int .i64 j, .int .i64 n, .int .i64 d] 60) := ⟨_, rfl⟩
        have b4 : W4.heap[wo.heap.size]? = some (.cells #[.int .i64 i, .int .i64 j, .int .i64 n, .int .i64 d] 60 (0, 0)) := by rw [hW4]; exact heap_alloc_new wo _
        have u4 : Upd NoB wo W4 := by rw [hW4]; exact (Upd.refl _ _).alloc _
        have U4 := Lib.hid (r5.then u4)
        have O4 := oR.upd u4 (noB _)
        have KS := Lib.hid (fun (Z : World) (u : Upd NoB W4 Z) => (show Z.cell? ⟨wo.heap.size, 0, none⟩ = some (.int .i64 i) ∧ Z.cell? ⟨wo.heap.size, 1, none⟩ = some (.int .i64 j) ∧ Z.cell? ⟨wo.heap.size, 2, none⟩ = some (.int .i64 n) ∧ Z.cell? ⟨wo.heap.size, 3, none⟩ = some (.int .i64 d) ∧ Z.cell? ⟨b, i, none⟩ = some (.int .i64 X) ∧ Z.cell? ⟨b, j, none⟩ = some (.int .i64 Y) from by
          have h := u.heap b4 (noB _)
          have o := O4.upd u (noB _)
          refine ⟨by rw [blk_cell h]; rfl, by rw [blk_cell h]; rfl, by rw [blk_cell h]; rfl, by rw [blk_cell h]; rfl, ?_, ?_⟩
          · rw [← eX]; exact (o.cell hi).1
          · rw [← eY]; exact (o.cell hj).1))
        have HO4 := Lib.hid O4
        have HW4 := Lib.hid hW4
        obtain ⟨c0, c1, c2, c3, c4, c5⟩ := KS.out W4 (Upd.refl _ _)
        have z1 : (i : Int) < (L : Int) := by omega
        have z2 : (j : Int) < (L : Int) := by omega
        have hL1024 : (L : Int) ≤ 1024 := by omega
        rw [r2] at hi hj
        have HR2 := Lib.hid r2
        have Hho := Lib.hid hbd
        clear hW4 b4 u4 O4 oR hbd hgrow hfit tk r1 r2 r3 r4 h3 ht eX eY hX hY i0 i1 j0 j1 hij hE r5
        go_wp2_with fail
        rw [← HW4.out]
        go_region_held3 (fun Z => Z.cell? ⟨wo.heap.size, 0, none⟩ = some (.int .i64 i) ∧ Z.cell? ⟨wo.heap.size, 1, none⟩ = some (.int .i64 j) ∧ Z.cell? ⟨wo.heap.size, 2, none⟩ = some (.int .i64 n) ∧ Z.cell? ⟨wo.heap.size, 3, none⟩ = some (.int .i64 d) ∧ Z.cell? ⟨b, i, none⟩ = some (.int .i64 X) ∧ Z.cell? ⟨b, j, none⟩ = some (.int .i64 Y)) (first | exact ⟨c0, c1, c2, c3, c4, c5⟩ | exact KS.out _ (by exact TU.out) | exact KS.out _ (by exact (Upd.refl NoB W4).drew) | go_keep)
          (first | (go_at_call 55; (with_reducible refine (HTu.out _).mono ?_); rintro e w5 ⟨rfl, u5⟩; have TU := Lib.hid (Upd.then (Upd.refl NoB W4).drew u5); clear u5))
        clear c0 c1 c2 c3 c4 c5
        obtain ⟨c0, c1, c2, c3, c4, c5⟩ := KS.out w5 TU.out
        have O5 := HO4.out.upd TU.out (noB _)
        have f0 := (O5.cell (k := i) (by rw [HR2.out]; exact hi)).2
        obtain ⟨U, eU⟩ : ∃ U, (turnF n d (X, Y)).1 = U := ⟨_, rfl⟩
        obtain ⟨V, eV⟩ : ∃ V, (turnF n d (X, Y)).2 = V := ⟨_, rfl⟩
        rw [eU, eV] at HSt ⊢
        have O6 := O5.set i (by rw [HR2.out]; exact hi) U
        have g1 : (w5.setCell ⟨b, i, none⟩ (.int .i64 U)).cell? ⟨wo.heap.size, 1, none⟩ = some (.int .i64 j) := (show Upd (fun k => k = b) w5 _ from (Upd.refl _ _).setCell _ (fun _ => rfl)).cell c1 (by simp only; omega)
        have x6 := O6.cell (k := j) (by rw [List.length_set, HR2.out]; exact hj)
        obtain ⟨xo, exo⟩ : ∃ xo, (ys.set i U).getD j 0 = xo := ⟨_, rfl⟩
        rw [exo] at x6
        have g2 := x6.1
        have g3 := x6.2
        have O7 := Lib.hid (O6.set j (by rw [List.length_set, HR2.out]; exact hj) V)
        clear eU eV O5 O6 x6 exo
        go_wp2_with fail
        have nog : b < w.heap.size → NoB b := fun h => by have := hbb.1; omega
        refine ⟨⟨k + 1, _, by go_num, by omega, ?_, by rw [stepL_length]; exact HR2.out, Hnext.out, Hall.out, ((U4.out.then TU.out).setCell _ nog).setCell _ nog⟩, by simp [intOf]; omega⟩
        have hr := O7.out.row ob1 ob2
        rw [HSt.out, stepL_length, HR2.out] at hr
        exact hr
      · have hkK : k = K := by omega
        rw [hkK, List.take_of_length_le (by rw [HK.out]; exact Nat.le_refl _)] at r4
        have R1 := Lib.hid r1; have R2' := Lib.hid r2; have R4 := Lib.hid r4; have R5 := Lib.hid r5
        clear r1 r2 r3 r4 r5 hlt
        subst hkK
        go_wp2
        go_ret2
        refine ⟨_, by rw [E.out]; rfl, ?_, R5.out⟩
        rw [V.out, ← R4.out, R2'.out]
        exact R1.out
  · have V := Lib.hid (show appV xs ts = [] from if_neg hE)
    have t : (stpE 1048576 xs ts != 0) = true := by simpa using hE
    clear hE hsm
    rw [V.out]
    go_enter Tryd.func29, Tryd.ntmps29
    go_wp2_with fail
    (with_reducible refine HST.out.mono ?_)
    rintro e w1 ⟨rfl, u1⟩
    have U1 := Lib.hid u1; clear u1
    go_wp2
    go_ret2
    exact ⟨_, rfl, World.ownsRow_nil _ _ _ _, U1.out⟩
set_option maxRecDepth 100000 in
set_option maxHeartbeats 4000000 in
theorem rundo_any (xv tv : Value) (xs : List Int) (ts : List Tn) (w : World) (hx : Ints w xv xs) (ht : Tns w tv ts) (hsm : stpE 1073741824 xs ts = 0 → xs.length ≤ 60 ∧ ts.length ≤ 60) :
    Calls Tryd.prog 31 #[xv, tv] w (LRes w (undV xs ts) (stpE 1073741824 xs ts)) := by
  have HST := Lib.hid (looked_any 1073741824 xv tv xs ts w (by omega) (by omega) hx ht)
  have HX := Lib.hid hx; have HT := Lib.hid ht
  obtain ⟨xa, xcap, rfl⟩ := hx.form
  obtain ⟨ta, tcap, rfl⟩ := ht.form
  clear hx ht
  by_cases hE : stpE 1073741824 xs ts = 0
  · have V := Lib.hid (show undV xs ts = allT backF ts.reverse xs from if_pos hE)
    obtain ⟨sm1, sm2⟩ := hsm hE
    obtain ⟨_, _, hall, htn⟩ := stp_ok hE
    have E := Lib.hid hE
    have tok := tnsE_ok htn
    have hsq0 := sqs_le (M := 1073741824) (by omega) hall
    obtain ⟨K, hK⟩ : ∃ K, ts.length = K := ⟨_, rfl⟩
    obtain ⟨L, hL⟩ : ∃ L, xs.length = L := ⟨_, rfl⟩
    have HK := Lib.hid hK; have HL := Lib.hid hL
    rw [hL] at hsq0
    rw [hK, hL] at HST ⊢
    rw [hL] at HX sm1
    rw [hK] at sm2 HT
    have hsq : sq xs ≤ (bnd 73786976294838206464 0 : Nat) := by
      have : bnd 73786976294838206464 0 = 73786976294838206464 := rfl
      rw [this]; omega
    have TOK := Lib.hid tok; have HSQ := Lib.hid hsq
    have HST' := HST.out
    rw [hE] at HST'
    have HS2 := Lib.hid HST'
    clear hE hsm hall htn tok hsq0 hsq hK hL HST HST'
    go_enter Tryd.func31, Tryd.ntmps31
    go_wp2_with fail
    (with_reducible refine HS2.out.mono ?_)
    rintro e w1 ⟨rfl, u1⟩
    have U1 := Lib.hid u1
    have HX1 := Lib.hid (HX.out.later u1)
    clear u1
    go_wp2_with (at_builtin; refine wpList_copyI rfl _ _ rfl _ xs rfl rfl HX1.out ?_)
    intro v w2 hrow u2
    rw [HL.out] at hrow
    have hs1 := U1.out.size
    have U2 := Lib.hid (U1.out.then u2)
    have HT2 := Lib.hid (HT.out.later U2.out)
    have R2 := Lib.hid (row_base hrow (show w.heap.size ≤ w1.heap.size from hs1))
    clear hrow u2
    go_wp2_with fail
    go_loopw [8] (fun iv wr => ∃ (m : Nat) (ys : List Int), iv = .int .i64 ((K : Int) - 1 - m) ∧ m ≤ K ∧ wr.ownsRow w.heap.size 3 1 v L (i64s ys) ∧ ys.length = L ∧ sq ys ≤ (bnd 73786976294838206464 m : Nat) ∧ ys = allT backF (ts.reverse.take m) xs ∧ Upd NoB w wr) (fun iv _ => (intOf iv + 1).toNat)
    case atStart => exact ⟨0, xs, by go_num, Nat.zero_le _, R2.out, HL.out, HSQ.out, rfl, U2.out⟩
    case round =>
      obtain ⟨m, ys, rfl, hm, r1, r2, r3, r4, r5⟩ := hrel
      obtain ⟨wo, rfl⟩ : ∃ wo : World, wo = wr := ⟨_, rfl⟩
      by_cases hlt : m < K
      · obtain ⟨k, hk⟩ : ∃ k, K - 1 - m = k := ⟨_, rfl⟩
        have hki : (K : Int) - 1 - m = (k : Int) := by omega
        have hkK : k < K := by omega
        have hkm : k + 1 + m = K := by omega
        obtain ⟨t, ht⟩ : ∃ t, ts[k]? = some t := ⟨_, List.getElem?_eq_getElem (by rw [HK.out]; exact hkK)⟩
        have tk := TOK.out k t ht
        rw [HL.out] at tk
        obtain ⟨hok, hfit⟩ := tn_ok tk
        have hE : turE t.n t.d = 0 := by
          unfold tnE at tk
          by_cases hp : plB L t = true
          · rwa [if_pos hp] at tk
          · rw [if_neg hp] at tk; exact absurd tk (by decide)
        have hL0 : 0 < L := by have h1 := hok.2.2.2.2.2.1; have h2 := hok.2.2.2.2.2.2.1; omega
        obtain ⟨b, cap, e⟩ := row_slice r1 hL0
        subst e
        have hbb := (r1.lt b rfl)
        rw [← r2] at r1
        obtain ⟨oR, ob1, ob2⟩ := OwnR.of r1
        have hbd := fun (k' : Nat) (y : Int) (hk' : ys[k']? = some y) => sq_bd (M := 137438953472) r3 (by omega) (by
          have h1 := bnd_le (B := 73786976294838206464) (show m ≤ 60 by omega)
          have h2 := bnd_wide
          generalize bnd 73786976294838206464 m = u at *
          generalize bnd 73786976294838206464 60 = v at *
          omega) k' y hk'
        have hgrow := sq_step (f := backF) (s := t.sp) (xs := ys) (by have h1 := hok.2.2.2.2.2.1; have h2 := hok.2.2.2.2.2.2.1; omega) (by have h1 := hok.2.2.2.2.2.2.2.1; have h2 := hok.2.2.2.2.2.2.2.2.1; omega) (by have h1 := hok.2.2.2.2.2.1; have h2 := hok.2.2.2.2.2.2.2.1; have h3 := hok.2.2.2.2.2.2.2.2.2; omega) (fun p => back_grow hfit p)
        have Hnext := Lib.hid (bnd_next r3 hgrow)
        have Hall := Lib.hid (show stepL backF t.sp ys = allT backF (ts.reverse.take (m + 1)) xs by
          rw [allT_snoc (t := t) (by rw [List.getElem?_reverse (by rw [HK.out]; exact hlt), HK.out, hk]; exact ht), r4])
        obtain ⟨ti, tj, n, d⟩ := t
        obtain ⟨_, _, _, _, _, i0, i1, j0, j1, hij⟩ := hok
        simp only [Tn.sp] at i0 i1 j0 j1 hij hE
        obtain ⟨i, rfl⟩ : ∃ i : Nat, ti = i := ⟨ti.toNat, by omega⟩
        obtain ⟨j, rfl⟩ : ∃ j : Nat, tj = j := ⟨tj.toNat, by omega⟩
        have hi : i < ys.length := by omega
        have hj : j < ys.length := by omega
        have hne : i ≠ j := by omega
        obtain ⟨X, eX⟩ : ∃ X, ys.getD i 0 = X := ⟨_, rfl⟩
        obtain ⟨Y, eY⟩ : ∃ Y, ys.getD j 0 = Y := ⟨_, rfl⟩
        have hX : -137438953472 ≤ X ∧ X ≤ 137438953472 := hbd i X (by rw [← eX, List.getD_eq_getElem?_getD, List.getElem?_eq_getElem hi]; rfl)
        have hY : -137438953472 ≤ Y ∧ Y ≤ 137438953472 := hbd j Y (by rw [← eY, List.getD_eq_getElem?_getD, List.getElem?_eq_getElem hj]; rfl)
        have HTu := Lib.hid (fun w => returned_any X Y n d w hE ⟨hX.1, hX.2, hY.1, hY.2⟩)
        have HSt := Lib.hid (show (ys.set i (backT n d (X, Y)).1).set j (backT n d (X, Y)).2 = stepL backF (Tn.sp ⟨i, j, n, d⟩) ys by
          unfold stepL backT Tn.sp
          simp only [Int.toNat_natCast]
          rw [eX, eY])
        obtain ⟨_, a', cap', e', h3⟩ := HT.out.later r5
        cases e'
        rcases h3 with h3 | ⟨bt, off, rfl, h3⟩
        · rw [h3] at ht; simp at ht
        obtain ⟨q0, q1, q2, q3⟩ := h3 k _ ht
        simp only at q0 q1 q2 q3
        obtain ⟨W4, hW4⟩ : ∃ W4, W4 = wo.alloc (.cells #[.int .i64 i, .int .i64 j, .int .i64 n, .int .i64 d] 60) := ⟨_, rfl⟩
        have b4 : W4.heap[wo.heap.size]? = some (.cells #[.int .i64 i, .int .i64 j, .int .i64 n, .int .i64 d] 60 (0, 0)) := by rw [hW4]; exact heap_alloc_new wo _
        have u4 : Upd NoB wo W4 := by rw [hW4]; exact (Upd.refl _ _).alloc _
        have U4 := Lib.hid (r5.then u4)
        have O4 := oR.upd u4 (noB _)
        have KS := Lib.hid (fun (Z : World) (u : Upd NoB W4 Z) => (show Z.cell? ⟨wo.heap.size, 0, none⟩ = some (.int .i64 i) ∧ Z.cell? ⟨wo.heap.size, 1, none⟩ = some (.int .i64 j) ∧ Z.cell? ⟨wo.heap.size, 2, none⟩ = some (.int .i64 n) ∧ Z.cell? ⟨wo.heap.size, 3, none⟩ = some (.int .i64 d) ∧ Z.cell? ⟨b, i, none⟩ = some (.int .i64 X) ∧ Z.cell? ⟨b, j, none⟩ = some (.int .i64 Y) from by
          have h := u.heap b4 (noB _)
          have o := O4.upd u (noB _)
          refine ⟨by rw [blk_cell h]; rfl, by rw [blk_cell h]; rfl, by rw [blk_cell h]; rfl, by rw [blk_cell h]; rfl, ?_, ?_⟩
          · rw [← eX]; exact (o.cell hi).1
          · rw [← eY]; exact (o.cell hj).1))
        have HO4 := Lib.hid O4
        have HW4 := Lib.hid hW4
        obtain ⟨c0, c1, c2, c3, c4, c5⟩ := KS.out W4 (Upd.refl _ _)
        have z1 : (i : Int) < (L : Int) := by omega
        have z2 : (j : Int) < (L : Int) := by omega
        have hL1024 : (L : Int) ≤ 1024 := by omega
        have Hki := Lib.hid hki
        have Hkm := Lib.hid hkm
        rw [hki]
        rw [r2] at hi hj
        have HR2 := Lib.hid r2
        have Hho := Lib.hid hbd
        have zk : (k : Int) < (ts.length : Int) := by omega
        clear hk hki hkm hm hlt
        clear hW4 b4 u4 O4 oR hbd hgrow hfit tk r1 r2 r3 r4 h3 ht eX eY hX hY i0 i1 j0 j1 hij hE r5
        go_wp2_with fail
        rw [← HW4.out]
        go_region_held3 (fun Z => Z.cell? ⟨wo.heap.size, 0, none⟩ = some (.int .i64 i) ∧ Z.cell? ⟨wo.heap.size, 1, none⟩ = some (.int .i64 j) ∧ Z.cell? ⟨wo.heap.size, 2, none⟩ = some (.int .i64 n) ∧ Z.cell? ⟨wo.heap.size, 3, none⟩ = some (.int .i64 d) ∧ Z.cell? ⟨b, i, none⟩ = some (.int .i64 X) ∧ Z.cell? ⟨b, j, none⟩ = some (.int .i64 Y)) (first | exact ⟨c0, c1, c2, c3, c4, c5⟩ | exact KS.out _ (by exact TU.out) | exact KS.out _ (by exact (Upd.refl NoB W4).drew) | go_keep)
          (first | (go_at_call 57; (with_reducible refine (HTu.out _).mono ?_); rintro e w5 ⟨rfl, u5⟩; have TU := Lib.hid (Upd.then (Upd.refl NoB W4).drew u5); clear u5))
        clear c0 c1 c2 c3 c4 c5
        obtain ⟨c0, c1, c2, c3, c4, c5⟩ := KS.out w5 TU.out
        have O5 := HO4.out.upd TU.out (noB _)
        have f0 := (O5.cell (k := i) (by rw [HR2.out]; exact hi)).2
        obtain ⟨U, eU⟩ : ∃ U, (backT n d (X, Y)).1 = U := ⟨_, rfl⟩
        obtain ⟨V, eV⟩ : ∃ V, (backT n d (X, Y)).2 = V := ⟨_, rfl⟩
        rw [eU, eV] at HSt ⊢
        have O6 := O5.set i (by rw [HR2.out]; exact hi) U
        have g1 : (w5.setCell ⟨b, i, none⟩ (.int .i64 U)).cell? ⟨wo.heap.size, 1, none⟩ = some (.int .i64 j) := (show Upd (fun k => k = b) w5 _ from (Upd.refl _ _).setCell _ (fun _ => rfl)).cell c1 (by simp only; omega)
        have x6 := O6.cell (k := j) (by rw [List.length_set, HR2.out]; exact hj)
        obtain ⟨xo, exo⟩ : ∃ xo, (ys.set i U).getD j 0 = xo := ⟨_, rfl⟩
        rw [exo] at x6
        have g2 := x6.1
        have g3 := x6.2
        have O7 := Lib.hid (O6.set j (by rw [List.length_set, HR2.out]; exact hj) V)
        clear eU eV O5 O6 x6 exo
        go_wp2_with fail
        have nog : b < w.heap.size → NoB b := fun h => by have := hbb.1; omega
        refine ⟨⟨m + 1, _, by have := Hki.out; go_num, by have := Hkm.out; omega, ?_, by rw [stepL_length]; exact HR2.out, Hnext.out, Hall.out, ((U4.out.then TU.out).setCell _ nog).setCell _ nog⟩, by have := Hki.out; simp [intOf] <;> omega⟩
        have hr := O7.out.row ob1 ob2
        rw [HSt.out, stepL_length, HR2.out] at hr
        exact hr
      · have hkK : m = K := by omega
        rw [hkK, List.take_of_length_le (by rw [List.length_reverse, HK.out]; exact Nat.le_refl _)] at r4
        have R1 := Lib.hid r1; have R2' := Lib.hid r2; have R4 := Lib.hid r4; have R5 := Lib.hid r5
        clear r1 r2 r3 r4 r5 hlt
        subst hkK
        have z : (m : Int) - 1 - m = -1 := by omega
        rw [z]
        go_wp2
        go_ret2
        refine ⟨_, by rw [E.out]; rfl, ?_, R5.out⟩
        rw [V.out, ← R4.out, R2'.out]
        exact R1.out
  · have V := Lib.hid (show undV xs ts = [] from if_neg hE)
    have t : (stpE 1073741824 xs ts != 0) = true := by simpa using hE
    clear hE hsm
    rw [V.out]
    go_enter Tryd.func31, Tryd.ntmps31
    go_wp2_with fail
    (with_reducible refine HST.out.mono ?_)
    rintro e w1 ⟨rfl, u1⟩
    have U1 := Lib.hid u1; clear u1
    go_wp2
    go_ret2
    exact ⟨_, rfl, World.ownsRow_nil _ _ _ _, U1.out⟩
end Go.Proofs.YtpmhioaoniijbaaDoor
