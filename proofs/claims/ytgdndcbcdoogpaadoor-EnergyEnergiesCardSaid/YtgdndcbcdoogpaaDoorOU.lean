/- energy: the law's awake; the law Rising -/
import Derived.Test.YtgdndcbcdoogpaaDoorOT
import Derived.StillTailTactics
import Derived.Lib.MinMax
namespace Go.Proofs.YtgdndcbcdoogpaaDoor
open Go.RowKit Go.Shelf
def awC : List Int := 8 :: List.replicate 127 0
theorem aw_s : sdS [1000, 0, 0, 2000] 4 = [1000, 616, 1232, 2000] ∧ sdE [1000, 0, 0, 2000] 4 = 0 := by decide +kernel
theorem aw_en : enS awC false [] = [64, 0, 0, 0, 0, 0, 0, 0, 0, 0, 0, 0, 0, 0, 0] ∧ spE awC false [] = 0 := by decide +kernel
theorem aw_to : toS awC false [] = [82, 0, 0, 0, 0, 0, 0, 0, 0, 0, 0, 0, 0, 0, 0] := by decide +kernel
theorem aw_lv : lvS [0, 1, 255] = [0, 256, 2048] ∧ lvE [0, 1, 255] = 0 := by decide +kernel
theorem aw_tt : ttS awC true [8] = 64 ∧ spE awC true [8] = 0 := by decide +kernel
theorem aw_bl : blS awC = [64, 0, 0, 0, 0, 0, 0, 0] ∧ blE awC = 0 := by decide +kernel
theorem aw_len : awC.length = 128 := by decide +kernel
theorem row_cell0 {w : World} {base n cap : Nat} {a : Option Addr} {x : Int} {xs : List Int} (h : w.ownsRow base 3 1 (.slice a n cap) n (i64s (x :: xs))) (hn : 0 < n) : ∃ g, a = some ⟨g, 0, none⟩ ∧ w.cell? ⟨g, 0, none⟩ = some (.int .i64 x) := by
  obtain ⟨g, c, e⟩ := row_slice h hn
  injection e with e1 _ e3
  subst e1; subst e3
  exact ⟨g, rfl, by rw [h.cellAt 0 (by omega)]; rfl⟩
set_option maxRecDepth 100000 in
set_option maxHeartbeats 4000000 in
theorem awake_en (w : World) (hg : Gv w) : Calls Tryd.prog 36 #[] w fun e w' => e = .returned (.bool true) ∧ Upd NoB w w' := by
  have HG := Lib.hid hg
  obtain ⟨i0, hi, hz0, hz1, hz2⟩ := info_parts Tryd.infoInt
  clear hg
  go_enter Tryd.func36, Tryd.ntmps36
  go_wp2_with fail
  have u1 : Upd NoB w (w.alloc (.cells (i64s [1000, 0, 0, 2000]).toArray 3)) := (Upd.refl _ _).alloc _
  refine (Spread_any _ [1000, 0, 0, 2000] 4 _ (Ints.ofBlock (xs := [1000, 0, 0, 2000]) (by decide) (heap_alloc_new w _))).mono ?_
  rw [aw_s.1, aw_s.2]
  rintro e w2 ⟨a2, n2, c2, rfl, r2, u2⟩
  obtain rfl := (by have := row_form r2; obtain ⟨_, _, e⟩ := this; injection e : n2 = 4)
  have I2 := Lib.hid (Ints.ofRow (xs := [1000, 616, 1232, 2000]) r2 (by decide)); have U2 := Lib.hid (u1.then u2)
  clear u1 r2 u2
  go_wp2_with (refine wpList_make_full w2 rfl _ _ 22 rfl w.heap.size 3 i0 (.int .i64 0) 1 Tryd.underlying22 hi hz0 hz1 .i64 .i64 _ _ 128 rfl rfl rfl rfl ?c1 ?c2 ?c3 ?_)
  case c1 => rw [hz2]; omega
  case c2 => unfold maxLen; omega
  case c3 => exact U2.out.size
  intro w3 hown hgr
  rw [made_zero] at hown
  have u3 : Upd NoB w2 w3 := (Upd.refl _ _).grown hgr (fun k e => by cases e)
  obtain ⟨G, hG⟩ : ∃ G, w2.heap.size = G := ⟨_, rfl⟩
  rw [hG] at hown ⊢
  have b3 := (row_full hown).1
  have hGw : w.heap.size ≤ G := by rw [← hG]; exact U2.out.size
  have c3 : w3.cell? ⟨G, 0, none⟩ = some (.int .i64 0) := by rw [blk_cell b3 0]; rfl
  have f3 := blk_free b3 0
  obtain ⟨W, hW⟩ : ∃ W, W = w3.setCell ⟨G, 0, none⟩ (.int .i64 8) := ⟨_, rfl⟩
  have bW : W.heap[G]? = some (.cells (i64s awC).toArray 3 (0, 0)) := by
    rw [hW, block_set b3]
    rw [List.setIfInBounds_toArray]
    rfl
  have hCW : Ints W (.slice (some ⟨G, 0, none⟩) 128 128) awC := by
    have := Ints.ofBlock (xs := awC) (by rw [aw_len]; decide) bW
    rw [aw_len] at this; exact this
  have uW : Upd NoB w2 W := by
    rw [hW]; exact u3.setCell _ (fun h => by have h : G < w2.heap.size := h; omega)
  have HC := Lib.hid hCW; have HW := Lib.hid hW; have I3 := Lib.hid (I2.out.later uW); have U3 := Lib.hid (U2.out.then uW)
  clear hown hgr u3 hG b3 hGw hW bW hCW uW I2
  go_wp2_with fail
  rw [← HW.out]
  clear c3 f3
  refine (Energies_any _ awC false _ [] W HC.out (Ints.nil W) (HG.out.later U3.out)).mono ?_
  rw [aw_en.1, aw_en.2]
  rintro e w4 ⟨a4, n4, c4, rfl, r4, u4⟩
  obtain rfl := (by have := row_form r4; obtain ⟨_, _, e⟩ := this; injection e : n4 = 15)
  obtain ⟨g4, rfl, k4⟩ := row_cell0 r4 (by decide)
  have K4 := Lib.hid k4; have I4 := Lib.hid (I3.out.later u4); have U4 := Lib.hid (U3.out.then u4); have HC4 := Lib.hid (HC.out.later u4)
  clear r4 u4 k4 I3
  go_wp2_with fail
  refine (Tones_any _ awC false _ [] w4 HC4.out (Ints.nil w4) (HG.out.later U4.out)).mono ?_
  rw [aw_to, aw_en.2]
  rintro e w5 ⟨a5, n5, c5, rfl, r5, u5⟩
  obtain rfl := (by have := row_form r5; obtain ⟨_, _, e⟩ := this; injection e : n5 = 15)
  obtain ⟨g5, rfl, k5⟩ := row_cell0 r5 (by decide)
  have K5 := Lib.hid k5; have K45 := Lib.hid (u5.cell K4.out (noB _)); have I5 := Lib.hid (I4.out.later u5); have U5 := Lib.hid (U4.out.then u5); have HC5 := Lib.hid (HC4.out.later u5)
  clear r5 u5 k5 I4 K4
  go_wp2_with fail
  have x6 : Upd NoB w5 (w5.alloc (.cells (i64s [0, 1, 255]).toArray 3)) := (Upd.refl _ _).alloc _
  refine (Levels_any _ [0, 1, 255] _ (Ints.ofBlock (xs := [0, 1, 255]) (by decide) (heap_alloc_new w5 _))).mono ?_
  rw [aw_lv.1, aw_lv.2]
  rintro e w6 ⟨a6, n6, c6, rfl, r6, u6⟩
  have x6 := x6.then u6
  obtain rfl := (by have := row_form r6; obtain ⟨_, _, e⟩ := this; injection e : n6 = 3)
  have L6 := Lib.hid (Ints.ofRow (xs := [0, 256, 2048]) r6 (by decide))
  have K46 := Lib.hid (x6.cell K45.out (noB _)); have K56 := Lib.hid (x6.cell K5.out (noB _)); have I6 := Lib.hid (I5.out.later x6); have U6 := Lib.hid (U5.out.then x6); have HC6 := Lib.hid (HC5.out.later x6)
  clear r6 u6 x6 I5 K45 K5
  go_wp2_with fail
  have x7 : Upd NoB w6 (w6.alloc (.cells (i64s [8]).toArray 3)) := (Upd.refl _ _).alloc _
  refine (Total_any _ awC true _ [8] _ (HC6.out.later x7) (Ints.ofBlock (xs := [8]) (by decide) (heap_alloc_new w6 _)) (HG.out.later (U6.out.then x7))).mono ?_
  rw [aw_tt.1, aw_tt.2]
  rintro e w7 ⟨rfl, u7⟩
  have x7 := x7.then u7
  have L7 := Lib.hid (L6.out.later x7)
  have K47 := Lib.hid (x7.cell K46.out (noB _)); have K57 := Lib.hid (x7.cell K56.out (noB _)); have I7 := Lib.hid (I6.out.later x7); have U7 := Lib.hid (U6.out.then x7); have HC7 := Lib.hid (HC6.out.later x7)
  clear u7 x7 I6 K46 K56 L6
  go_wp2_with fail
  refine (Blocks_any _ awC w7 HC7.out).mono ?_
  rw [aw_bl.1, aw_bl.2]
  rintro e w8 ⟨a8, n8, c8, rfl, r8, u8⟩
  obtain rfl := (by have := row_form r8; obtain ⟨_, _, e⟩ := this; injection e : n8 = 8)
  obtain ⟨g8, rfl, k8⟩ := row_cell0 r8 (by decide)
  have K8 := Lib.hid k8
  have L8 := Lib.hid (L7.out.later u8)
  have K48 := Lib.hid (u8.cell K47.out (noB _)); have K58 := Lib.hid (u8.cell K57.out (noB _)); have I8 := Lib.hid (I7.out.later u8); have U8 := Lib.hid (U7.out.then u8)
  clear u8 r8 k8 I7 K47 K57 L7
  go_wp2_with fail
  have x9 : Upd NoB w8 (w8.alloc (.cells (i64s [1000, 616, 1232, 2000]).toArray 3)) := (Upd.refl _ _).alloc _
  refine (qints_any _ _ [1000, 616, 1232, 2000] [1000, 616, 1232, 2000] _ (I8.out.later x9) (Ints.ofBlock (xs := [1000, 616, 1232, 2000]) (by decide) (heap_alloc_new w8 _))).mono ?_
  rw [intsB_self]
  rintro e w9 ⟨rfl, m9, hw9⟩
  have u9 : Upd NoB w8 w9 := by rw [hw9]; exact upd_drewN x9 _
  have k4 := u9.cell K48.out (noB _)
  have k5 := u9.cell K58.out (noB _)
  have k8 := u9.cell K8.out (noB _)
  have HK4 := Lib.hid k4; have HK5 := Lib.hid k5; have HK8 := Lib.hid k8
  have L9 := Lib.hid (L8.out.later u9); have U9 := Lib.hid (U8.out.then u9)
  clear u9 hw9 x9 I8 K48 K58 K8 L8
  go_wp2_with fail
  have x10 : Upd NoB w9 (w9.alloc (.cells (i64s [0, 256, 2048]).toArray 3)) := (Upd.refl _ _).alloc _
  refine (qints_any _ _ [0, 256, 2048] [0, 256, 2048] _ (L9.out.later x10) (Ints.ofBlock (xs := [0, 256, 2048]) (by decide) (heap_alloc_new w9 _))).mono ?_
  rw [intsB_self]
  rintro e w10 ⟨rfl, m10, hw10⟩
  have u10 : Upd NoB w9 w10 := by rw [hw10]; exact upd_drewN x10 _
  have k8 := u10.cell HK8.out (noB _)
  have U10 := Lib.hid (U9.out.then u10)
  clear u10 hw10 x10 L9 k4 k5
  go_wp2_with fail
  go_ret
  exact ⟨rfl, U10.out⟩
attribute [local irreducible] wpStill wpList
theorem lv_nn (e : Int) : 0 ≤ lv e := Int.natCast_nonneg _
theorem lv_mono {a b : Int} (h0 : 0 ≤ a) (h : a ≤ b) : lv a ≤ lv b := by
  unfold lv
  have := logN_mono (n := (a + 1).toNat) (m := (b + 1).toNat) (by omega) (by omega)
  omega
theorem lv_pow (e : Nat) : lv ((2 : Int) ^ e - 1) = 256 * (e : Int) := by
  unfold lv
  rw [show ((2 : Int) ^ e - 1 + 1).toNat = 2 ^ e by rw [Int.sub_add_cancel]; rw [show ((2 : Int) ^ e) = ((2 ^ e : Nat) : Int) by simp]; rfl, logN_pow]
  omega
theorem lv_zero : lv 0 = 0 := by decide +kernel
theorem lvE_two {x y : Int} (h0 : 0 ≤ x) (h1 : x ≤ y) (h2 : y ≤ 72057594037927936) : lvE [x, y] = 0 := by
  unfold lvE
  rw [if_neg (by simp), if_pos]
  unfold inB
  simp
  omega
theorem lvE_no {x y : Int} (h : lvE [x, y] ≠ 0) : lvE [x, y] = 6 := by
  unfold lvE at h ⊢
  rw [if_neg (by simp)] at h ⊢
  split at h
  · exact absurd rfl h
  · rename_i h'; rw [if_neg h']
theorem lvS_two {x y : Int} (h : lvE [x, y] = 0) : lvS [x, y] = [lv x, lv y] := by unfold lvS; rw [if_pos h]; rfl
theorem lvE_lo {x y : Int} (h : lvE [x, y] = 0) : 0 ≤ x ∧ 0 ≤ y := by
  unfold lvE at h
  rw [if_neg (by simp)] at h
  split at h
  · rename_i h'
    exact ⟨(inB_yes h' (j := 0) rfl).1, (inB_yes h' (j := 1) rfl).1⟩
  · cases h
theorem row_two {w : World} {base cap : Nat} {a : Option Addr} {x y : Int} (h : w.ownsRow base 3 1 (.slice a 2 cap) 2 (i64s [x, y])) : ∃ g, a = some ⟨g, 0, none⟩ ∧ w.cell? ⟨g, 0, none⟩ = some (.int .i64 x) ∧ w.cell? ⟨g, 1, none⟩ = some (.int .i64 y) := by
  obtain ⟨g, c, e⟩ := row_slice h (by decide)
  injection e with e1 _ e3
  subst e1; subst e3
  exact ⟨g, rfl, by rw [h.cellAt 0 (by decide)]; rfl, by rw [h.cellAt 1 (by decide)]; rfl⟩
set_option maxRecDepth 100000 in
set_option maxHeartbeats 4000000 in
theorem rising_law (a b : Int) (n : Nat) (w : World) (hn : n < 256) (hg : Gv w) :
    Calls Tryd.prog 14 #[.int .i64 a, .int .i64 b, .int .u8 (n : Int)] w fun e w' => e = .returned (.bool true) ∧ Upd NoB w w' := by
  have HG := Lib.hid hg
  obtain ⟨e, he, he2⟩ : ∃ e : Nat, (n : Int) % 57 = (e : Int) ∧ e ≤ 56 := ⟨n % 57, by omega, by omega⟩
  have hw1 : wrap64 (n : Int) = (n : Int) := IntWalk.wrap64_in _ (by omega)
  have hw2 : IntKind.i64.wrap (n : Int) = (n : Int) := IntWalk.i64_in _ (by omega)
  have hw3 : wrap64 (e : Int) = (e : Int) := IntWalk.wrap64_in _ (by omega)
  have hw4 : IntKind.i64.wrap (e : Int) = (e : Int) := IntWalk.i64_in _ (by omega)
  have hpw : ((2 : Int) ^ e) = ((2 ^ e : Nat) : Int) := by simp
  have hp1 : 2 ^ e ≤ 2 ^ 56 := Nat.pow_le_pow_right (by decide) he2
  have hp0 : 1 ≤ 2 ^ e := Nat.two_pow_pos e
  have hw5 : wrap64 ((2 : Int) ^ e) = (2 : Int) ^ e := IntWalk.wrap64_in _ (by omega)
  obtain ⟨Q, hQ⟩ : ∃ Q, (2 : Int) ^ e - 1 = Q := ⟨_, rfl⟩
  have hQ1 : 0 ≤ Q ∧ Q ≤ 72057594037927936 := by omega
  have hw6 : wrap64 ((2 : Int) ^ e - 1) = Q := by rw [hQ]; exact IntWalk.wrap64_in _ (by omega)
  have HE := Lib.hid (lvE_two (Int.le_refl 0) hQ1.1 hQ1.2)
  have HL := Lib.hid (show lvS [0, Q] = [0, 256 * (e : Int)] by rw [lvS_two HE.out, lv_zero, ← hQ, lv_pow])
  have hw7 : wrap64 (256 * (e : Int)) = 256 * (e : Int) := by exact IntWalk.wrap64_in _ (by omega)
  clear hg hQ hQ1 hpw hp1 hp0
  go_enter Tryd.func14, Tryd.ntmps14
  go_wp2_with fail
  have u1 : Upd NoB w (w.alloc (.cells (i64s [0, Q]).toArray 3)) := (Upd.refl _ _).alloc _
  refine (Levels_any _ [0, Q] _ (Ints.ofBlock (xs := [0, Q]) (by simp) (heap_alloc_new w _))).mono ?_
  rw [HL.out, HE.out]
  rintro e1 w2 ⟨a2, n2, c2, rfl, r2, u2⟩
  obtain rfl := (by have := row_form r2; obtain ⟨_, _, e⟩ := this; injection e : n2 = 2)
  have I2 := Lib.hid (Ints.ofRow (xs := [0, 256 * (e : Int)]) r2 (by simp)); have U2 := Lib.hid (u1.then u2)
  clear u1 r2 u2
  go_wp2_with fail
  have u3 : Upd NoB w2 (w2.alloc (.cells (i64s [0, 256 * (e : Int)]).toArray 3)) := (Upd.refl _ _).alloc _
  refine (qints_any _ _ [0, 256 * (e : Int)] [0, 256 * (e : Int)] _ (I2.out.later u3) (Ints.ofBlock (xs := [0, 256 * (e : Int)]) (by simp) (heap_alloc_new w2 _))).mono ?_
  rw [intsB_self]
  rintro e3 w3 ⟨rfl, m3, hw3'⟩
  have U3 := Lib.hid (show Upd NoB w w3 by rw [hw3']; exact upd_drewN (U2.out.then u3) _)
  clear hw3' u3 I2
  go_wp2_with fail
  have hm : min a b ≤ max a b := by omega
  obtain ⟨x, hx⟩ : ∃ x, min a b = x := ⟨_, rfl⟩
  obtain ⟨y, hy⟩ : ∃ y, max a b = y := ⟨_, rfl⟩
  rw [hx, hy] at hm ⊢
  clear hx hy
  have u4 : Upd NoB w3 (w3.alloc (.cells (i64s [x, y]).toArray 3)) := (Upd.refl _ _).alloc _
  refine (Levels_any _ [x, y] _ (Ints.ofBlock (xs := [x, y]) (by simp) (heap_alloc_new w3 _))).mono ?_
  rintro e4 w4 ⟨a4, n4, c4, rfl, r4, u5⟩
  have U4 := Lib.hid (U3.out.then (u4.then u5))
  clear u4 u5
  by_cases hE : lvE [x, y] = 0
  · rw [lvS_two hE] at r4
    rw [hE]
    obtain rfl := (by have := row_form r4; obtain ⟨_, _, e⟩ := this; injection e : n4 = 2)
    obtain ⟨g4, rfl, k0, k1⟩ := row_two r4
    have h0 := lvE_lo hE
    have t0 : decide (0 ≤ lv x) = true := decide_eq_true (lv_nn x)
    have t1 : decide (lv x ≤ lv y) = true := decide_eq_true (lv_mono h0.1 hm)
    generalize lv x = X at *
    generalize lv y = Y at *
    clear r4 hE h0 hm
    go_wp2_with fail
    clear he he2 hw1 hw2 hw3 hw4 hw5 hw6 hw7
    rename_i KK hKK
    refine wp_region_still_tail 23 (by kernel_rfl) (by kernel_rfl) ?_
    simp only [List.take_succ_cons, List.take_zero, List.drop_succ_cons, List.drop_zero]
    iterate 23 (refine wpStill_step (fun K hK => ?_); have HK := Lib.hid hK; clear hK; go_simp; refine HK.out _ ?_; clear HK K)
    refine wpStill_nil ?_
    change wpList _ _ _ _ _ (World.drew w4)
    obtain ⟨w5, h5⟩ : ∃ W, W = w4.drew := ⟨_, rfl⟩
    have U5 := Lib.hid (show Upd NoB w w5 by rw [h5]; exact U4.out.then (Upd.refl _ _).drew)
    rw [← h5]
    clear h5 k0 k1 t0 t1
    refine wpList_step (fun K hK => ?_)
    have HhK := Lib.hid hK
    clear hK
    go_simp
    refine (awake_en w5 (HG.out.later U5.out)).mono ?_
    rintro e6 w6 ⟨rfl, u6⟩
    have U6 := Lib.hid (U5.out.then u6)
    clear u6
    refine HhK.out _ _ ?_
    refine wpList_step (fun K hK => ?_)
    go_simp
    refine hK _ _ ?_
    clear hK
    refine wpList_step (fun K hK => ?_)
    go_simp
    refine hK _ _ ?_
    clear hK
    refine wpList_nil ?_
    clear HhK
    go_simp
    refine hKK _ _ ?_
    clear hKK KK
    go_wp2_with fail
    go_ret
    exact ⟨rfl, U6.out⟩
  · rw [lvE_no hE]
    clear hE hm r4
    go_wp2_with fail
    clear he he2 hw1 hw2 hw3 hw4 hw5 hw6 hw7
    rename_i KK hKK
    refine wp_region_still_tail 23 (by kernel_rfl) (by kernel_rfl) ?_
    simp only [List.take_succ_cons, List.take_zero, List.drop_succ_cons, List.drop_zero]
    iterate 23 (refine wpStill_step (fun K hK => ?_); have HK := Lib.hid hK; clear hK; go_simp; refine HK.out _ ?_; clear HK K)
    refine wpStill_nil ?_
    change wpList _ _ _ _ _ (World.drew w4)
    obtain ⟨w5, h5⟩ : ∃ W, W = w4.drew := ⟨_, rfl⟩
    have U5 := Lib.hid (show Upd NoB w w5 by rw [h5]; exact U4.out.then (Upd.refl _ _).drew)
    rw [← h5]
    clear h5
    refine wpList_step (fun K hK => ?_)
    have HhK := Lib.hid hK
    clear hK
    go_simp
    refine (awake_en w5 (HG.out.later U5.out)).mono ?_
    rintro e6 w6 ⟨rfl, u6⟩
    have U6 := Lib.hid (U5.out.then u6)
    clear u6
    refine HhK.out _ _ ?_
    refine wpList_step (fun K hK => ?_)
    go_simp
    refine hK _ _ ?_
    clear hK
    refine wpList_step (fun K hK => ?_)
    go_simp
    refine hK _ _ ?_
    clear hK
    refine wpList_nil ?_
    clear HhK
    go_simp
    refine hKK _ _ ?_
    clear hKK KK
    go_wp2_with fail
    go_ret
    exact ⟨rfl, U6.out⟩
theorem rising_int (a b x : Int) (w : World) (hx : 0 ≤ x ∧ x ≤ 255) (hg : Gv w) :
    Calls Tryd.prog 14 #[.int .i64 a, .int .i64 b, .int .u8 x] w fun e w' => e = .returned (.bool true) ∧ Upd NoB w w' := by
  obtain ⟨n, rfl⟩ : ∃ n : Nat, x = (n : Int) := ⟨x.toNat, by omega⟩
  exact rising_law a b n w (by omega) hg
end Go.Proofs.YtgdndcbcdoogpaaDoor
