/- the law of undoing: a list that Apply takes -/
import Derived.Test.YtpmhioaoniijbaaDoorJXn
import Derived.Deep.CutRange
namespace Go.Proofs.YtpmhioaoniijbaaDoor
open Go.RowKit Go.Shelf

set_option maxRecDepth 100000 in
set_option maxHeartbeats 16000000 in
theorem undone_ok (xv tv : Value) (xs : List Int) (ts : List Tn) (n d : Int) (w : World) (hx : Ints w xv xs) (ht : Tns w tv ts) (hp : Parts w) (hE : stpE 1048576 xs ts = 0) :
    Calls Tryd.prog 7 #[xv, tv, .agg #[.int .i64 n, .int .i64 d]] w fun e w' => e = .returned (.bool true) ∧ Upd NoB w w' := by
  obtain ⟨xa, xcap, rfl⟩ := hx.form
  obtain ⟨ta, tcap, rfl⟩ := ht.form
  obtain ⟨W, hW⟩ : ∃ W, W = w.alloc (.cells #[.int .i64 n, .int .i64 d] 27) := ⟨_, rfl⟩
  have b0 : W.heap[w.heap.size]? = some (.cells #[.int .i64 n, .int .i64 d] 27 (0, 0)) := by rw [hW]; exact heap_alloc_new w _
  have u : Upd NoB w W := by rw [hW]; exact (Upd.refl _ _).alloc _
  have P0 := Lib.hid (hp.upd u (noB 0))
  have U0 := Lib.hid u
  have HX := Lib.hid (hx.later u); have HT := Lib.hid (ht.later u)
  have HB := Lib.hid (fun (w' : World) (u : Upd NoB W w') => (show w'.cell? ⟨w.heap.size, 0, none⟩ = some (.int .i64 n) ∧ w'.cell? ⟨w.heap.size, 1, none⟩ = some (.int .i64 d) from ⟨cell_of_block0 (u.heap b0 (noB _)), cell_of_block1 (u.heap b0 (noB _))⟩))
  have HW := Lib.hid hW
  have lx := hx.1
  have lt := ht.1
  clear hW b0 u hp hx ht
  obtain ⟨L, hL⟩ : ∃ L, xs.length = L := ⟨_, rfl⟩
  obtain ⟨K, hK⟩ : ∃ K, ts.length = K := ⟨_, rfl⟩
  rw [hL] at lx HX ⊢
  rw [hK] at lt HT ⊢
  have HL := Lib.hid hL; have HK := Lib.hid hK
  clear hL hK
  by_cases h1 : 60 < L
  · have t1 : decide (60 < (L : Int)) = true := decide_eq_true (by omega)
    go_enter Tryd.func7, Tryd.ntmps7
    go_wp2_with fail
    rw [← HW.out]
    go_wp2_with fail
    (with_reducible refine (jawake_any _ P0.out).mono ?_)
    rintro e w1 ⟨rfl, u1⟩
    have U1 := Lib.hid (U0.out.then u1); clear u1
    go_wp2
    go_ret
    exact ⟨rfl, U1.out⟩
  have t1 : decide (60 < (L : Int)) = false := decide_eq_false (by omega)
  by_cases h2 : 60 < K
  · have t2 : decide (60 < (K : Int)) = true := decide_eq_true (by omega)
    go_enter Tryd.func7, Tryd.ntmps7
    go_wp2_with fail
    rw [← HW.out]
    go_wp2_with fail
    (with_reducible refine (jawake_any _ P0.out).mono ?_)
    rintro e w1 ⟨rfl, u1⟩
    have U1 := Lib.hid (U0.out.then u1); clear u1
    go_wp2
    go_ret
    exact ⟨rfl, U1.out⟩
  have t2 : decide (60 < (K : Int)) = false := decide_eq_false (by omega)
  have HAp := Lib.hid (apply_any _ _ xs ts W HX.out HT.out P0.out (fun _ => ⟨by rw [HL.out]; omega, by rw [HK.out]; omega⟩))
  have hcell : ∀ k, k < L → ∃ b off, xa = some ⟨b, off, none⟩ ∧ ∀ w', Upd NoB W w' → w'.cell? ⟨b, off + k, none⟩ = some (.int .i64 (xs.getD k 0)) := fun k hk => by
    have hx := HX.out
    obtain ⟨_, a', c', e, _, h3⟩ := hx
    injection e with e1 e2 e3
    subst e1
    rcases h3 with h3 | ⟨b, off, rfl, h3⟩
    · have := HL.out; rw [h3] at this; simp at this; omega
    · refine ⟨b, off, rfl, fun w' u => u.cell (h3 k _ ?_) (noB _)⟩
      rw [List.getD_eq_getElem?_getD, List.getElem?_eq_getElem (by rw [HL.out]; exact hk)]; rfl
  have HC := Lib.hid hcell
  clear hcell
  go_enter Tryd.func7, Tryd.ntmps7
  go_wp2_with fail
  rw [← HW.out]
  go_wp2_with fail
  (with_reducible refine HAp.out.mono ?_)
  rintro e w1 ⟨av, rfl, rv, u1⟩
  have RV := Lib.hid rv; have U1 := Lib.hid u1
  clear rv u1
  obtain ⟨g1, g2⟩ := app_undo hE (by rw [HL.out]; omega) (by rw [HK.out]; omega)
  have hlen : (appV xs ts).length = L := by unfold appV; rw [if_pos hE, allT_length, HL.out]
  have HU := undo_any _ _ (appV xs ts) ts w1 (Ints.ofRow RV.out (by rw [hlen]; omega)) (HT.out.later U1.out) (P0.out.upd U1.out (noB 0)) (fun _ => ⟨by rw [hlen]; omega, by rw [HK.out]; omega⟩)
  rw [g1, g2] at HU
  have HUn := Lib.hid HU
  rw [hE]
  clear HU g1 g2 hlen hE
  go_wp2_with fail
  (with_reducible refine HUn.out.mono ?_)
  rintro e w2 ⟨bv, rfl, rb, u2⟩
  have IB := Lib.hid (Ints.ofRow rb (by rw [HL.out]; omega))
  have U2 := Lib.hid (U1.out.then u2)
  clear rb u2
  have hq := qints_any _ _ xs xs w2 IB.out (HX.out.later U2.out)
  rw [intsB_self] at hq
  have HQ := Lib.hid hq
  clear hq
  go_wp2_with fail
  (with_reducible refine HQ.out.mono ?_)
  rintro e w3 ⟨rfl, nn, rfl⟩
  have U3 := Lib.hid (upd_drewN U2.out nn)
  obtain ⟨W3, hW3⟩ : ∃ W3, W3 = w2.drewN nn := ⟨_, rfl⟩
  rw [← hW3] at U3 ⊢
  clear hW3 HQ IB U2 HUn
  go_wp2_with fail
  go_loopw [11] (fun iv wr => ∃ k : Nat, iv = .int .i64 k ∧ k ≤ L ∧ Upd NoB W wr) (fun iv _ => L - (intOf iv).toNat)
  case atStart => exact ⟨0, rfl, Nat.zero_le _, U3.out⟩
  case round =>
    obtain ⟨k, rfl, hk, hu⟩ := hrel
    obtain ⟨wl, rfl⟩ : ∃ wl : World, wl = wr := ⟨_, rfl⟩
    have Ul := Lib.hid hu
    clear hu
    have wk : IntKind.i64.wrap ((k : Int) + 1) = (k : Int) + 1 := IntWalk.i64_in _ (by omega)
    by_cases hlt : k + 1 < L
    · obtain ⟨b, off, hxa, hcX⟩ := HC.out k (by omega)
      obtain ⟨b', off', hxa', hcY⟩ := HC.out (k + 1) hlt
      rw [hxa] at hxa'
      injection hxa' with hxa'
      injection hxa' with h1 h2
      subst h1 h2 hxa
      obtain ⟨X, eX⟩ : ∃ X, xs.getD k 0 = X := ⟨_, rfl⟩
      obtain ⟨Y, eY⟩ : ∃ Y, xs.getD (k + 1) 0 = Y := ⟨_, rfl⟩
      rw [eX] at hcX
      rw [eY] at hcY
      have HXY := Lib.hid (fun (w' : World) (u : Upd NoB W w') => (show w'.cell? ⟨b, off + k, none⟩ = some (.int .i64 X) ∧ w'.cell? ⟨b, off + (k + 1), none⟩ = some (.int .i64 Y) ∧ w'.cell? ⟨w.heap.size, 0, none⟩ = some (.int .i64 n) ∧ w'.cell? ⟨w.heap.size, 1, none⟩ = some (.int .i64 d) from ⟨hcX w' u, hcY w' u, HB.out w' u⟩))
      have T1 := Lib.hid (fun w hp => turn_any X Y n d w hp)
      have B1 := Lib.hid (fun w hp => backT_any X Y n d w hp)
      have M1 := Lib.hid (fun w => mid_any X Y w)
      have G1 := Lib.hid (fun (he : ttE 1073741824 X Y n d = 0) w (hp : Parts w) => undo1c he w hp)
      have G2 := Lib.hid (fun (he : ttE 4294967296 X Y n d = 0) w (hp : Parts w) => undo2c he w hp)
      have G3 := Lib.hid (fun (he : midE 1073741824 X Y = 0) w => undo3c he w)
      have z1 : (k : Int) < (L : Int) := by omega
      have z2 : (k : Int) + 1 < (L : Int) := by omega
      have z3 : (0 : Int) ≤ (k : Int) + 1 := by omega
      obtain ⟨c0, c1, c2, c3⟩ := HXY.out wl Ul.out
      clear eX eY hcX hcY
      generalize (turnV X Y n d).1 = q1 at *
      generalize (turnV X Y n d).2 = q2 at *
      generalize ttE 1073741824 X Y n d = ee1 at *
      generalize (backV X Y n d).1 = p1 at *
      generalize (backV X Y n d).2 = p2 at *
      generalize ttE 4294967296 X Y n d = ee2 at *
      generalize (midV X Y).1 = m1 at *
      generalize (midV X Y).2 = m2 at *
      generalize midE 1073741824 X Y = ee3 at *
      go_wp2_with fail
      go_region_held3 (fun Z => Z.cell? ⟨b, off + k, none⟩ = some (.int .i64 X) ∧ Z.cell? ⟨b, off + (k + 1), none⟩ = some (.int .i64 Y) ∧ Z.cell? ⟨w.heap.size, 0, none⟩ = some (.int .i64 n) ∧ Z.cell? ⟨w.heap.size, 1, none⟩ = some (.int .i64 d)) (first | exact ⟨c0, c1, c2, c3⟩ | exact HXY.out _ (by exact Ula.out) | exact HXY.out _ (by exact Ul.out.drew) | go_keep)
        (first | (go_at_call 18; (with_reducible refine (T1.out _ (P0.out.upd (Upd.drew Ul.out) (noB 0))).mono ?_); rintro e wla ⟨rfl, ux⟩; have Ula := Lib.hid (Upd.then (Upd.drew Ul.out) ux); clear ux))
      clear c0 c1 c2 c3
      obtain ⟨c0, c1, c2, c3⟩ := HXY.out wla Ula.out
      clear T1
      go_upto_if 87 with fail
      go_cut [] from 61 to 209 (fun wx => Upd NoB W wx)
      case first =>
        clear G2 G3 B1 M1
        by_cases he1 : ee1 = 0
        · subst he1
          have HG := Lib.hid (G1.out rfl); clear G1
          go_wp2_with fail
          (with_reducible refine (HG.out _ (P0.out.upd Ula.out (noB 0))).mono ?_)
          rintro e wlb ⟨rfl, ux⟩
          have Ulb := Lib.hid (Upd.then Ula.out ux); clear ux c0 c1 c2 c3
          obtain ⟨c0, c1, c2, c3⟩ := HXY.out wlb Ulb.out
          go_wp2
          go_meet
          case rel => exact Ulb.out
        · have t1' : (ee1 == 0) = false := beq_eq_false_iff_ne.2 he1
          clear he1 G1
          go_wp2
          go_meet
          case rel => exact Ula.out
      case rest =>
        clear c0 c1 c2 c3 G1 Ula
        have Uc := Lib.hid hcut; clear hcut
        obtain ⟨wc0, rfl⟩ : ∃ wc0 : World, wc0 = wc := ⟨_, rfl⟩
        obtain ⟨c0, c1, c2, c3⟩ := HXY.out wc0 Uc.out
        go_wp2_with fail
        go_region_held3 (fun Z => Z.cell? ⟨b, off + k, none⟩ = some (.int .i64 X) ∧ Z.cell? ⟨b, off + (k + 1), none⟩ = some (.int .i64 Y) ∧ Z.cell? ⟨w.heap.size, 0, none⟩ = some (.int .i64 n) ∧ Z.cell? ⟨w.heap.size, 1, none⟩ = some (.int .i64 d)) (first | exact ⟨c0, c1, c2, c3⟩ | exact HXY.out _ (by exact Uca.out) | exact HXY.out _ (by exact Uc.out.drew) | go_keep)
          (first | (go_at_call 20; (with_reducible refine (B1.out _ (P0.out.upd (Upd.drew Uc.out) (noB 0))).mono ?_); rintro e wca ⟨rfl, ux⟩; have Uca := Lib.hid (Upd.then (Upd.drew Uc.out) ux); clear ux))
        clear c0 c1 c2 c3
        obtain ⟨c0, c1, c2, c3⟩ := HXY.out wca Uca.out
        clear B1
        go_upto_if 137 with fail
        go_cut [] from 61 to 209 (fun wx => Upd NoB W wx)
        case first =>
          clear G3 M1
          by_cases he2 : ee2 = 0
          · subst he2
            have HG := Lib.hid (G2.out rfl); clear G2
            go_wp2_with fail
            (with_reducible refine (HG.out _ (P0.out.upd Uca.out (noB 0))).mono ?_)
            rintro e wlb ⟨y1, y2, ee4, rfl, hy, ux⟩
            have Ulb := Lib.hid (Upd.then Uca.out ux)
            have HY := Lib.hid hy; clear ux c0 c1 c2 c3 hy
            obtain ⟨c0, c1, c2, c3⟩ := HXY.out wlb Ulb.out
            by_cases he4 : ee4 = 0
            · obtain ⟨hy1, hy2⟩ := HY.out he4
              subst he4 hy1 hy2
              clear HY
              go_wp2
              go_meet
              case rel => exact Ulb.out
            · have t4 : (ee4 == 0) = false := beq_eq_false_iff_ne.2 he4
              clear he4 HY
              go_wp2
              go_meet
              case rel => exact Ulb.out
          · have t2' : (ee2 == 0) = false := beq_eq_false_iff_ne.2 he2
            clear he2 G2
            go_wp2
            go_meet
            case rel => exact Uca.out
        case rest =>
          clear c0 c1 c2 c3 G2 Uca Uc
          have Uc := Lib.hid hcut; clear hcut
          obtain ⟨wc1, rfl⟩ : ∃ wc1 : World, wc1 = wc := ⟨_, rfl⟩
          obtain ⟨c0, c1, c2, c3⟩ := HXY.out wc1 Uc.out
          go_wp2_with fail
          go_region_held3 (fun Z => Z.cell? ⟨b, off + k, none⟩ = some (.int .i64 X) ∧ Z.cell? ⟨b, off + (k + 1), none⟩ = some (.int .i64 Y) ∧ Z.cell? ⟨w.heap.size, 0, none⟩ = some (.int .i64 n) ∧ Z.cell? ⟨w.heap.size, 1, none⟩ = some (.int .i64 d)) (first | exact ⟨c0, c1, c2, c3⟩ | exact HXY.out _ (by exact Uca.out) | exact HXY.out _ (by exact Uc.out.drew) | go_keep)
            (first | (go_at_call 23; (with_reducible refine (M1.out _).mono ?_); rintro e wca ⟨rfl, ux⟩; have Uca := Lib.hid (Upd.then (Upd.drew Uc.out) ux); clear ux))
          clear c0 c1 c2 c3
          obtain ⟨c0, c1, c2, c3⟩ := HXY.out wca Uca.out
          clear M1
          by_cases he3 : ee3 = 0
          · subst he3
            have HG := Lib.hid (G3.out rfl); clear G3
            go_wp2_with fail
            (with_reducible refine (HG.out _).mono ?_)
            rintro e wlb ⟨rfl, ux⟩
            have Ulb := Lib.hid (Upd.then Uca.out ux); clear ux c0 c1 c2 c3
            obtain ⟨c0, c1, c2, c3⟩ := HXY.out wlb Ulb.out
            go_wp2
            go_roundw
            case rel => exact ⟨k + 1, by go_num, by omega, Ulb.out⟩
            case measure => simp [intOf]; omega
          · have t3 : (ee3 == 0) = false := beq_eq_false_iff_ne.2 he3
            clear he3 G3
            go_wp2
            go_roundw
            case rel => exact ⟨k + 1, by go_num, by omega, Uca.out⟩
            case measure => simp [intOf]; omega
    · go_wp2_with fail
      (with_reducible refine (jawake_any _ (P0.out.upd Ul.out (noB 0))).mono ?_)
      rintro e w9 ⟨rfl, u9⟩
      have U9 := Lib.hid ((U0.out.then Ul.out).then u9); clear u9
      go_wp2
      go_ret
      exact ⟨rfl, U9.out⟩
end Go.Proofs.YtpmhioaoniijbaaDoor
