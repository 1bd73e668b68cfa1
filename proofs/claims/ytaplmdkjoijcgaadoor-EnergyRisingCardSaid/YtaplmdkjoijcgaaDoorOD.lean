/- bands: the law's awake -/
import Derived.Test.YtaplmdkjoijcgaaDoorOC
namespace Go.Proofs.YtaplmdkjoijcgaaDoor
open Go.RowKit Go.Shelf

theorem Ints.cutAt {w : World} {g n cap : Nat} {xs ys : List Int} (f m : Nat) (h : ∀ j x, xs[j]? = some x → w.cell? ⟨g, j, none⟩ = some (.int .i64 x)) (hy : (xs.drop f).take m = ys) (hl : ys.length = n) (hc : n ≤ cap) (hb : n ≤ 1000000) : Ints w (.slice (some ⟨g, f, none⟩) n cap) ys := by
  subst hl
  refine ⟨by omega, _, _, rfl, ⟨hc, fun e => by cases e⟩, .inr ⟨g, f, rfl, fun j x hx => ?_⟩⟩
  rw [← hy, List.getElem?_take] at hx
  split at hx
  · rw [List.getElem?_drop] at hx; exact h _ _ hx
  · cases hx
theorem row_cells {w : World} {base g n cap : Nat} {xs : List Int} (h : w.ownsRow base 3 1 (.slice (some ⟨g, 0, none⟩) n cap) n (i64s xs)) (hn : xs.length = n) : ∀ j x, xs[j]? = some x → w.cell? ⟨g, j, none⟩ = some (.int .i64 x) := fun j x hx => by
  have := (List.getElem?_eq_some_iff.1 hx).1
  rw [h.cellAt j (by omega), i64s_get, hx]; rfl
theorem aw_w : wdS true [1, 7] = [2, 2, 4, 8, 14, 14, 28, 56] ∧ dE true [1, 7] = 0 := by decide +kernel
theorem aw_o : (orS true [1, 7]).length = 128 ∧ ((orS true [1, 7]).drop 14).take 8 = [14, 15, 16, 17, 32, 33, 48, 49] := by decide +kernel
theorem aw_p : ptS false [] 48000 0 = 375 ∧ ptE false [] 48000 0 = 0 ∧ ptS false [] 48000 14 = 22125 ∧ ptE false [] 48000 14 = 0 := by decide +kernel
theorem aw_c : ctS false [] = 15 ∧ dE false [] = 0 := by decide +kernel
set_option maxRecDepth 100000 in
set_option maxHeartbeats 4000000 in
theorem awake_any (w : World) (hg : Gv w) : Calls Tryd.prog 16 #[] w fun e w' => e = .returned (.bool true) ∧ Upd NoB w w' := by
  have HG := Lib.hid hg
  clear hg
  go_enter Tryd.func16, Tryd.ntmps16
  go_wp2_with fail
  have u1 : Upd NoB w (w.alloc (.cells #[.int .i64 1, .int .i64 7] 3)) := (Upd.refl _ _).alloc _
  refine (Widths_any true _ [1, 7] _ (Ints.ofBlock (xs := [1, 7]) (by decide) (heap_alloc_new w _)) (HG.out.later u1)).mono ?_
  rw [aw_w.1, aw_w.2]
  rintro e w2 ⟨a2, n2, c2, rfl, r2, u2⟩
  obtain rfl := (by have := row_form r2; obtain ⟨_, _, e⟩ := this; injection e : n2 = 8)
  have I2 := Lib.hid (Ints.ofRow (xs := [2, 2, 4, 8, 14, 14, 28, 56]) r2 (by decide)); have U2 := Lib.hid (u1.then u2)
  clear u1 r2 u2
  go_wp2_with fail
  have u3 : Upd NoB w2 (w2.alloc (.cells #[.int .i64 1, .int .i64 7] 3)) := (Upd.refl _ _).alloc _
  refine (Order_any true _ [1, 7] _ (Ints.ofBlock (xs := [1, 7]) (by decide) (heap_alloc_new w2 _)) (HG.out.later (U2.out.then u3))).mono ?_
  rw [aw_w.2]
  rintro e w3 ⟨a3, n3, c3, rfl, r3, u4⟩
  rw [aw_o.1] at r3
  obtain rfl := (by have := row_form r3; obtain ⟨_, _, e⟩ := this; injection e : n3 = 128)
  obtain ⟨g3, c3', e3⟩ := row_slice r3 (by decide)
  injection e3 with e4 _ e5
  subst e4; subst e5
  have hc3 := row_cap r3
  have X3 := Lib.hid (row_cells r3 aw_o.1)
  have I3 := Lib.hid (I2.out.later (u3.then u4)); have U3 := Lib.hid (U2.out.then (u3.then u4))
  clear u3 r3 u4 I2
  go_wp2_with fail
  refine (Pitch_any 48000 0 false _ [] _ (Ints.nil w3) (HG.out.later U3.out)).mono ?_
  rw [aw_p.1, aw_p.2.1]
  rintro e w4 ⟨rfl, u5⟩
  have X4 := Lib.hid (show ∀ j x, (orS true [1, 7])[j]? = some x → w4.cell? ⟨g3, j, none⟩ = some (.int .i64 x) from fun j x h => u5.cell (X3.out j x h) (noB _))
  have I4 := Lib.hid (I3.out.later u5); have U4 := Lib.hid (U3.out.then u5)
  clear u5 I3 X3
  go_wp2_with fail
  refine (Pitch_any 48000 14 false _ [] _ (Ints.nil w4) (HG.out.later U4.out)).mono ?_
  rw [aw_p.2.2.1, aw_p.2.2.2]
  rintro e w5 ⟨rfl, u5⟩
  have X5 := Lib.hid (show ∀ j x, (orS true [1, 7])[j]? = some x → w5.cell? ⟨g3, j, none⟩ = some (.int .i64 x) from fun j x h => u5.cell (X4.out j x h) (noB _))
  have I5 := Lib.hid (I4.out.later u5); have U5 := Lib.hid (U4.out.then u5)
  clear u5 I4 X4
  go_wp2_with fail
  refine (Count_any false _ [] _ (Ints.nil w5) (HG.out.later U5.out)).mono ?_
  rw [aw_c.1, aw_c.2]
  rintro e w6 ⟨rfl, u5⟩
  have X6 := Lib.hid (show ∀ j x, (orS true [1, 7])[j]? = some x → w6.cell? ⟨g3, j, none⟩ = some (.int .i64 x) from fun j x h => u5.cell (X5.out j x h) (noB _))
  have I6 := Lib.hid (I5.out.later u5); have U6 := Lib.hid (U5.out.then u5)
  clear u5 I5 X5
  go_wp2_with fail
  have u7 : Upd NoB w6 (w6.alloc (.cells (i64s [2, 2, 4, 8, 14, 14, 28, 56]).toArray 3)) := (Upd.refl _ _).alloc _
  refine (qints_any _ _ [2, 2, 4, 8, 14, 14, 28, 56] [2, 2, 4, 8, 14, 14, 28, 56] _ (I6.out.later u7) (Ints.ofBlock (xs := [2, 2, 4, 8, 14, 14, 28, 56]) (by decide) (heap_alloc_new w6 _))).mono ?_
  rw [intsB_self]
  rintro e w7 ⟨rfl, n7, hw7⟩
  have u8 : Upd NoB w6 w7 := by rw [hw7]; exact upd_drewN u7 _
  have X7 := Lib.hid (show ∀ j x, (orS true [1, 7])[j]? = some x → w7.cell? ⟨g3, j, none⟩ = some (.int .i64 x) from fun j x h => u8.cell (X6.out j x h) (noB _))
  have U7 := Lib.hid (U6.out.then u8)
  clear u7 hw7 u8 I6 X6
  have hc14 : 22 ≤ c3 := by omega
  go_wp2_with fail
  have u9 : Upd NoB w7 (w7.alloc (.cells (i64s [14, 15, 16, 17, 32, 33, 48, 49]).toArray 3)) := (Upd.refl _ _).alloc _
  refine (qints_any _ _ [14, 15, 16, 17, 32, 33, 48, 49] [14, 15, 16, 17, 32, 33, 48, 49] _ ((Ints.cutAt (n := 8) 14 8 X7.out aw_o.2 rfl (by omega) (by decide)).later u9) (Ints.ofBlock (xs := [14, 15, 16, 17, 32, 33, 48, 49]) (by decide) (heap_alloc_new w7 _))).mono ?_
  rw [intsB_self]
  rintro e w8 ⟨rfl, n8, hw8⟩
  have U8 := Lib.hid (show Upd NoB w w8 by rw [hw8]; exact upd_drewN (U7.out.then u9) _)
  clear u9 hw8
  go_wp2_with fail
  go_ret
  exact ⟨rfl, U8.out⟩
end Go.Proofs.YtaplmdkjoijcgaaDoor
