/- block: Kinds; the chapter's examples hold -/
import Derived.Test.YtmkbpocibpjjaaaLM
namespace Go.Proofs.Ytmkbpocibpjjaaa
open Go.RowKit Go.Shelf

def knE (fs : List Bool) : Int := if 64 < fs.length then 2 else 0
def knS (fs : List Bool) : List Int := if 64 < fs.length then [] else kds fs
set_option maxRecDepth 100000 in
set_option maxHeartbeats 1000000 in
theorem Kinds_any (v : Value) (fs : List Bool) (w : World) (h : Bls w v fs) : Calls Try.prog 22 #[v] w (EInts w (knS fs) (knE fs)) := by
  obtain ⟨a, cap, rfl⟩ := h.form
  by_cases h1 : 64 < fs.length
  · have HS := Lib.hid (show knS fs = [] from if_pos h1)
    have HE := Lib.hid (show knE fs = 2 from if_pos h1)
    rw [HS.out, HE.out]
    obtain ⟨L, hL⟩ : ∃ L, fs.length = L := ⟨_, rfl⟩
    rw [hL] at h1 ⊢
    have T1 := Lib.hid (show decide ((64 : Int) < (L : Int)) = true from decide_eq_true (by omega))
    clear h h1 hL
    go_enter Try.func22, Try.ntmps22
    go_wp2_with (go_at_call 44; refine (fullb_any (.int .i64 0) _ _ _ _).mono ?_; rw [T1.out]; rintro e w' ⟨rfl, rfl⟩)
    go_ret2
    exact ⟨none, 0, 0, rfl, World.ownsRow_nil _ _ _ _, Upd.refl _ _⟩
  · have HS := Lib.hid (show knS fs = kds fs from if_neg h1)
    have HE := Lib.hid (show knE fs = 0 from if_neg h1)
    have HK := Lib.hid (kindsOfb_any _ fs w h (by omega))
    rw [HS.out, HE.out]
    obtain ⟨L, hL⟩ : ∃ L, fs.length = L := ⟨_, rfl⟩
    rw [hL] at h1 HK ⊢
    have T1 := Lib.hid (show decide ((64 : Int) < (L : Int)) = false from decide_eq_false (by omega))
    clear h h1 hL
    go_enter Try.func22, Try.ntmps22
    go_wp2_with (go_at_call 44; refine (fullb_any (.int .i64 0) _ _ _ _).mono ?_; rw [T1.out]; rintro e w' ⟨rfl, rfl⟩)
    refine HK.out.mono ?_
    rintro e w2 ⟨v, rfl, hr, hu⟩
    obtain ⟨a2, c2, rfl⟩ := row_form hr
    have HR := Lib.hid hr; have HU := Lib.hid hu
    clear hr hu
    go_wp2_with fail
    go_ret2
    exact ⟨_, _, _, rfl, HR.out, HU.out⟩
theorem row_len {w : World} {B : Nat} {t : TypeId} {a : Option Addr} {n c : Nat} {k : Nat} {xs : List Value} (h : w.ownsRow B t 1 (.slice a n c) k xs) : n = k := by
  rcases h.2 with ⟨h1, h2⟩ | ⟨g, cap', cur, h1, _⟩
  · cases h1; exact h2.symm
  · cases h1; rfl
def axX : List Int := (List.replicate 256 0).set 128 1000
theorem ax_c : ckE axX = 0 := by decide +kernel
theorem ax_l : (paS axX).length = 16 := by decide +kernel
theorem ax_8 : (paS axX)[8]? = some 2000000 := by decide +kernel
theorem ax_f : flS axX = [false, true] := by decide +kernel
theorem ax_k : knS [false, true] = [1, 2] ∧ knE [false, true] = 0 := by decide +kernel
theorem ax_e1 : exF [false, false, false] 1 2 = 128 ∧ exL [false, false, false] 1 2 = 128 ∧ exE [false, false, false] 1 2 = 0 := by decide +kernel
theorem ax_e2 : exF [false, false, false] 1 3 = 192 ∧ exL [false, false, false] 1 3 = 384 ∧ exE [false, false, false] 1 3 = 0 := by decide +kernel
theorem ax_g : gpS (List.replicate 8 0) = [8] ∧ gE (List.replicate 8 0) = 0 := by decide +kernel
theorem full_ints {w : World} {g : Nat} {xs : List Int} (hl : xs.length ≤ 1000000) (h : w.heap[g]? = some (.cells (i64s xs).toArray 3 (0, 0))) : Ints w (.slice (some ⟨g, 0, none⟩) xs.length xs.length) xs :=
  Ints.ofRow (base := 0) (row_of_full (by simp [i64s]) (by unfold maxLen; omega) (Nat.zero_le _) h) (by omega)
theorem full_bls {w : World} {g : Nat} {fs : List Bool} (hl : fs.length ≤ 1000000) (h : w.heap[g]? = some (.cells (bls fs).toArray 4 (0, 0))) : Bls w (.slice (some ⟨g, 0, none⟩) fs.length fs.length) fs :=
  Bls.ofRow (base := 0) (row_of_full (by simp [bls]) (by unfold maxLen; omega) (Nat.zero_le _) h) (by omega)
set_option maxRecDepth 100000 in
set_option maxHeartbeats 4000000 in
theorem awake_any (w : World) : Calls Try.prog 11 #[] w fun e w' => e = .returned (.bool true) ∧ Upd NoB w w' := by
  obtain ⟨i0, hi, hz0, hz1, hz2⟩ := info_parts Try.infoInt
  obtain ⟨j0, hj, hy0, hy1, hy2⟩ := info_parts Try.infoBool
  go_enter Try.func11, Try.ntmps11
  go_wp2_with (refine wpList_make_full w rfl _ _ 22 rfl w.heap.size 3 i0 (.int .i64 0) 1 Try.underlying22 hi hz0 hz1 .i64 .i64 _ _ 256 rfl rfl rfl rfl ?c1 ?c2 ?c3 ?_)
  case c1 => rw [hz2]; omega
  case c2 => unfold maxLen; omega
  case c3 => exact Nat.le_refl _
  intro w1 hown hgr
  rw [made_zero] at hown
  have u1 : Upd NoB w w1 := (Upd.refl _ _).grown hgr (fun k e => by cases e)
  have hf1 := (row_full hown).1
  have c1 : w1.cell? ⟨w.heap.size, 128, none⟩ = some (.int .i64 0) := by rw [blk_cell hf1 128]; simp [i64s]
  have f1 := blk_free hf1 128
  have hf2 : (w1.setCell ⟨w.heap.size, 128, none⟩ (.int .i64 1000)).heap[w.heap.size]? = some (.cells (i64s axX).toArray 3 (0, 0)) := by
    rw [block_set hf1 (.int .i64 1000), List.setIfInBounds_toArray]
    congr 3
  have u2 : Upd NoB w (w1.setCell ⟨w.heap.size, 128, none⟩ (.int .i64 1000)) := upd_ge ((upd_ge' u1 w.heap.size).setCell _ (fun _ => Nat.le_refl _))
  have HF2 := Lib.hid hf2; have U2 := Lib.hid u2
  clear hown hgr u1 hf1 hf2 u2
  go_wp2_with fail
  generalize w1.setCell ⟨w.heap.size, 128, none⟩ (.int .i64 1000) = W2 at *
  have HX2 := Lib.hid (show Ints W2 (.slice (some ⟨w.heap.size, 0, none⟩) 256 256) axX from full_ints (by decide) HF2.out)
  clear HF2
  refine (Parts_any _ axX W2 HX2.out).mono ?_
  rw [ax_c]
  rintro e w3 ⟨a3, n3, k3, rfl, r3, u3⟩
  obtain rfl := row_len r3
  rw [ax_l] at r3 ⊢
  have R3 := Lib.hid r3; have U3 := Lib.hid (U2.out.then u3); have HX3 := Lib.hid (HX2.out.later u3)
  clear r3 u3 HX2 U2
  go_wp2_with fail
  refine (Flags_any _ axX w3 HX3.out).mono ?_
  rw [ax_c, ax_f]
  rintro e w4 ⟨a4, n4, k4, rfl, r4, u4⟩
  obtain rfl : n4 = 2 := row_len r4
  have B4 := Lib.hid (show Bls w4 (.slice a4 2 k4) [false, true] from Bls.ofRow r4 (by decide)); have R4 := Lib.hid (u4.row R3.out (fun k _ => noB k)); have U4 := Lib.hid (U3.out.then u4)
  clear r4 u4 HX3 U3 R3
  go_wp2_with fail
  refine (Kinds_any _ [false, true] w4 B4.out).mono ?_
  rw [ax_k.1, ax_k.2]
  rintro e w5 ⟨a5, n5, k5, rfl, r5, u5⟩
  obtain rfl : n5 = 2 := row_len r5
  have I5 := Lib.hid (show Ints w5 (.slice a5 2 k5) [1, 2] from Ints.ofRow r5 (by decide)); have B5 := Lib.hid (B4.out.later u5); have R5 := Lib.hid (u5.row R4.out (fun k _ => noB k)); have U5 := Lib.hid (U4.out.then u5)
  clear r5 u5 B4 U4 R4
  go_wp2_with (refine wpList_make_full w5 rfl _ _ 27 rfl w5.heap.size 4 j0 (.bool false) 1 Try.underlying27 hj hy0 hy1 .i64 .i64 _ _ 3 rfl rfl rfl rfl ?c1 ?c2 ?c3 ?_)
  case c1 => rw [hy2]; omega
  case c2 => unfold maxLen; omega
  case c3 => exact Nat.le_refl _
  intro w6 hown hgr
  rw [made_false] at hown
  have u6 : Upd NoB w5 w6 := (Upd.refl _ _).grown hgr (fun k e => by cases e)
  have M6 := Lib.hid (show Bls w6 (.slice (some ⟨w5.heap.size, 0, none⟩) 3 3) [false, false, false] from full_bls (fs := [false, false, false]) (by decide) (row_full hown).1)
  have I6 := Lib.hid (I5.out.later u6); have B6 := Lib.hid (B5.out.later u6); have R6 := Lib.hid (u6.row R5.out (fun k _ => noB k)); have U6 := Lib.hid (U5.out.then u6)
  clear hown hgr u6 I5 B5 R5 U5
  go_wp2_with fail
  refine (Exact_any _ [false, false, false] 1 2 w6 M6.out).mono ?_
  rw [ax_e1.1, ax_e1.2.1, ax_e1.2.2]
  rintro e w7 ⟨rfl, u7⟩
  have I7 := Lib.hid (I6.out.later u7); have B7 := Lib.hid (B6.out.later u7); have R7 := Lib.hid (u7.row R6.out (fun k _ => noB k)); have U7 := Lib.hid (U6.out.then u7)
  clear u7 I6 B6 R6 U6 M6
  go_wp2_with (refine wpList_make_full w7 rfl _ _ 27 rfl w7.heap.size 4 j0 (.bool false) 1 Try.underlying27 hj hy0 hy1 .i64 .i64 _ _ 3 rfl rfl rfl rfl ?c1 ?c2 ?c3 ?_)
  case c1 => rw [hy2]; omega
  case c2 => unfold maxLen; omega
  case c3 => exact Nat.le_refl _
  intro w8 hown hgr
  rw [made_false] at hown
  have u8 : Upd NoB w7 w8 := (Upd.refl _ _).grown hgr (fun k e => by cases e)
  have M8 := Lib.hid (show Bls w8 (.slice (some ⟨w7.heap.size, 0, none⟩) 3 3) [false, false, false] from full_bls (fs := [false, false, false]) (by decide) (row_full hown).1)
  have I8 := Lib.hid (I7.out.later u8); have B8 := Lib.hid (B7.out.later u8); have R8 := Lib.hid (u8.row R7.out (fun k _ => noB k)); have U8 := Lib.hid (U7.out.then u8)
  clear hown hgr u8 I7 B7 R7 U7
  go_wp2_with fail
  refine (Exact_any _ [false, false, false] 1 3 w8 M8.out).mono ?_
  rw [ax_e2.1, ax_e2.2.1, ax_e2.2.2]
  rintro e w9 ⟨rfl, u9⟩
  have I9 := Lib.hid (I8.out.later u9); have B9 := Lib.hid (B8.out.later u9); have R9 := Lib.hid (u9.row R8.out (fun k _ => noB k)); have U9 := Lib.hid (U8.out.then u9)
  clear u9 I8 B8 R8 U8 M8
  go_wp2_with (refine wpList_make_full w9 rfl _ _ 22 rfl w9.heap.size 3 i0 (.int .i64 0) 1 Try.underlying22 hi hz0 hz1 .i64 .i64 _ _ 8 rfl rfl rfl rfl ?c1 ?c2 ?c3 ?_)
  case c1 => rw [hz2]; omega
  case c2 => unfold maxLen; omega
  case c3 => exact Nat.le_refl _
  intro w10 hown hgr
  rw [made_zero] at hown
  have u10 : Upd NoB w9 w10 := (Upd.refl _ _).grown hgr (fun k e => by cases e)
  have M10 := Lib.hid (show Ints w10 (.slice (some ⟨w9.heap.size, 0, none⟩) 8 8) (List.replicate 8 0) from full_ints (xs := List.replicate 8 0) (by decide) (row_full hown).1)
  have I10 := Lib.hid (I9.out.later u10); have B10 := Lib.hid (B9.out.later u10); have R10 := Lib.hid (u10.row R9.out (fun k _ => noB k)); have U10 := Lib.hid (U9.out.then u10)
  clear hown hgr u10 I9 B9 R9 U9
  go_wp2_with fail
  refine (Groups_any _ (List.replicate 8 0) w10 M10.out).mono ?_
  rw [ax_g.1, ax_g.2]
  rintro e w11 ⟨a11, n11, k11, rfl, r11, u11⟩
  obtain rfl : n11 = 1 := row_len r11
  have J11 := Lib.hid (show Ints w11 (.slice a11 1 k11) [8] from Ints.ofRow r11 (by decide))
  have I11 := Lib.hid (I10.out.later u11); have B11 := Lib.hid (B10.out.later u11); have R11 := Lib.hid (u11.row R10.out (fun k _ => noB k)); have U11 := Lib.hid (U10.out.then u11)
  clear r11 u11 I10 B10 R10 U10 M10
  obtain ⟨g3, k3', e3⟩ := row_slice R11.out (by decide)
  injection e3 with e3 _ _
  subst e3
  have c8 : w11.cell? ⟨g3, 8, none⟩ = some (.int .i64 2000000) := by rw [R11.out.cellAt 8 (by decide), i64s_get, ax_8]; rfl
  go_wp2_with fail
  have bl : Bls (w11.alloc (.cells #[.bool false, .bool true] 4)) (.slice (some ⟨w11.heap.size, 0, none⟩) 2 2) [false, true] := full_bls (fs := [false, true]) (by decide) (heap_alloc_new w11 _)
  have ul : Upd NoB w11 (w11.alloc (.cells #[.bool false, .bool true] 4)) := (Upd.refl _ _).alloc _
  generalize w11.alloc (.cells #[.bool false, .bool true] 4) = w12 at *
  refine (rBools_any _ _ [false, true] [false, true] w12 (B11.out.later ul) bl).mono ?_
  rw [blsB_self]
  rintro e w13 ⟨rfl, n13, rfl⟩
  have I13 := Lib.hid (I11.out.later (upd_drewN ul n13)); have J13 := Lib.hid (J11.out.later (upd_drewN ul n13)); have U13 := Lib.hid (U11.out.then (upd_drewN ul n13))
  clear bl ul I11 B11 R11 U11 J11 c8
  generalize w12.drewN n13 = w13 at *
  go_wp2_with fail
  have bl : Ints (w13.alloc (.cells #[.int .i64 1, .int .i64 2] 3)) (.slice (some ⟨w13.heap.size, 0, none⟩) 2 2) [1, 2] := full_ints (xs := [1, 2]) (by decide) (heap_alloc_new w13 _)
  have ul : Upd NoB w13 (w13.alloc (.cells #[.int .i64 1, .int .i64 2] 3)) := (Upd.refl _ _).alloc _
  generalize w13.alloc (.cells #[.int .i64 1, .int .i64 2] 3) = w14 at *
  refine (qints_any _ _ [1, 2] [1, 2] w14 (I13.out.later ul) bl).mono ?_
  rw [intsB_self]
  rintro e w15 ⟨rfl, n15, rfl⟩
  have J15 := Lib.hid (J13.out.later (upd_drewN ul n15)); have U15 := Lib.hid (U13.out.then (upd_drewN ul n15))
  clear bl ul I13 J13 U13
  generalize w14.drewN n15 = w15 at *
  go_wp2_with fail
  have bl : Ints (w15.alloc (.cells #[.int .i64 8] 3)) (.slice (some ⟨w15.heap.size, 0, none⟩) 1 1) [8] := full_ints (xs := [8]) (by decide) (heap_alloc_new w15 _)
  have ul : Upd NoB w15 (w15.alloc (.cells #[.int .i64 8] 3)) := (Upd.refl _ _).alloc _
  generalize w15.alloc (.cells #[.int .i64 8] 3) = w16 at *
  refine (qints_any _ _ [8] [8] w16 (J15.out.later ul) bl).mono ?_
  rw [intsB_self]
  rintro e w17 ⟨rfl, n17, rfl⟩
  have U17 := Lib.hid (U15.out.then (upd_drewN ul n17))
  clear bl ul J15 U15
  go_wp2_with fail
  go_ret
  exact ⟨rfl, U17.out⟩
end Go.Proofs.Ytmkbpocibpjjaaa
