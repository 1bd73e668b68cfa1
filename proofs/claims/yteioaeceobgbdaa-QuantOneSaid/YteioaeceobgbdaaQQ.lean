/- quant: the law's awake -/
import Derived.Test.YteioaeceobgbdaaQP
namespace Go.Proofs.Yteioaeceobgbdaa
open Go.RowKit Go.Shelf

theorem EInts.open {w w' : World} {xs : List Int} {E : Int} {e : Ending} (h : EInts w xs E e w') (hl : xs.length ≤ 1000000) : ∃ a c, e = .returned (.tuple #[.slice a xs.length c, .int .i64 E]) ∧ Ints w' (.slice a xs.length c) xs ∧ Upd NoB w w' := by
  obtain ⟨a, n, c, rfl, r, u⟩ := h
  obtain rfl := (by have := row_form r; obtain ⟨_, _, e⟩ := this; injection e : n = xs.length)
  exact ⟨a, c, rfl, Ints.ofRow r (by omega), u⟩
theorem Ints.ofBlock {w : World} {g : Nat} {t : TypeId} {xs : List Int} (hl : xs.length ≤ 1000000) (h : w.heap[g]? = some (.cells (i64s xs).toArray t (0, 0))) : Ints w (.slice (some ⟨g, 0, none⟩) xs.length xs.length) xs :=
  ⟨by omega, _, _, rfl, ⟨Nat.le_refl _, fun e => by cases e⟩, .inr ⟨g, 0, rfl, fun j x hx => by rw [Nat.zero_add, blk_cell h j, List.getElem?_toArray, i64s_get, hx]; rfl⟩⟩
theorem aw_p : (if pwE 2 = 0 then ((pwN (2 : Int).natAbs : Nat) : Int) else 0) = 40 ∧ pwE 2 = 0 := by decide +kernel
theorem aw_v2 : (if eV 2 0 = 0 then sgV (0 : Int).toNat 2 else 0) = 3 ∧ eV 2 0 = 0 := by decide +kernel
theorem aw_v3 : (if eV 3 0 = 0 then sgV (0 : Int).toNat 3 else 0) = 4 ∧ eV 3 0 = 0 := by decide +kernel
theorem aw_q : (if eQ 2 0 = 0 then sgQ (0 : Int).toNat 2 else 0) = 1 ∧ eQ 2 0 = 0 := by decide +kernel
theorem aw_qs : lQ [2, -3, 0, 1] 0 = [1, -2, 0, 1] ∧ ckS 2097152 [2, -3, 0, 1] 0 = 0 := by decide +kernel
theorem aw_vs : lV [1, -2, 0, 1] 0 = [1, -3, 0, 1] ∧ ckS 1023 [1, -2, 0, 1] 0 = 0 := by decide +kernel
theorem aw_n : nV [2, -3] 0 = 1 ∧ ckS 2097152 [2, -3] 0 = 0 := by decide +kernel
theorem aw_l : lstV [1000] = 0 ∧ ckQ 2097152 [1000] = 0 := by decide +kernel
theorem aw_m : mstV [0] 0 = 95 ∧ mstE [0] 0 = 0 := by decide +kernel
set_option maxRecDepth 100000 in
set_option maxHeartbeats 8000000 in
theorem awake_qu (w : World) : Calls Try.prog 19 #[] w fun e w' => e = .returned (.bool true) ∧ Upd NoB w w' := by
  go_enter Try.func19, Try.ntmps19
  go_wp2_with fail
  refine (Power_any 2 w).mono ?_
  rw [aw_p.1, aw_p.2]
  rintro e w1 ⟨rfl, u1⟩
  have UU1 := Lib.hid ((Upd.refl NoB w).then u1)
  clear u1
  go_wp2_with fail
  refine (pV_any 2 0 _).mono ?_
  rw [aw_v2.1, aw_v2.2]
  rintro e w2 ⟨rfl, u2⟩
  have UU2 := Lib.hid (UU1.out.then u2)
  clear UU1
  clear u2
  go_wp2_with fail
  refine (pV_any 3 0 _).mono ?_
  rw [aw_v3.1, aw_v3.2]
  rintro e w3 ⟨rfl, u3⟩
  have UU3 := Lib.hid (UU2.out.then u3)
  clear UU2
  clear u3
  go_wp2_with fail
  refine (pQ_any 2 0 _).mono ?_
  rw [aw_q.1, aw_q.2]
  rintro e w4 ⟨rfl, u4⟩
  have UU4 := Lib.hid (UU3.out.then u4)
  clear UU3
  clear u4
  go_wp2_with fail
  have y5 : Upd NoB w4 (w4.alloc (.cells (i64s [2, -3, 0, 1]).toArray 3)) := (Upd.refl _ _).alloc _
  have Lt5 := Lib.hid (show Ints (w4.alloc (.cells (i64s [2, -3, 0, 1]).toArray 3)) (.slice (some ⟨w4.heap.size, 0, none⟩) 4 4) [2, -3, 0, 1] from Ints.ofBlock (xs := [2, -3, 0, 1]) (by decide) (heap_alloc_new w4 _))
  have UU5 := Lib.hid (UU4.out.then y5)
  clear UU4
  clear y5
  refine (pQs_any _ [2, -3, 0, 1] 0 _ Lt5.out).mono ?_
  rw [aw_qs.1, aw_qs.2]
  intro e w6 hr
  obtain ⟨a6, c6, rfl, i6, u6⟩ := EInts.open hr (by decide)
  clear Lt5
  have UU6 := Lib.hid (UU5.out.then u6)
  clear UU5
  have QS6 := Lib.hid (i6)
  clear hr i6 u6
  go_wp2_with fail
  refine (pVs_any _ [1, -2, 0, 1] 0 _ QS6.out).mono ?_
  rw [aw_vs.1, aw_vs.2]
  intro e w7 hr
  obtain ⟨a7, c7, rfl, i7, u7⟩ := EInts.open hr (by decide)
  have QS7 := Lib.hid (QS6.out.later u7)
  clear QS6
  have UU7 := Lib.hid (UU6.out.then u7)
  clear UU6
  have VS7 := Lib.hid (i7)
  clear hr i7 u7
  go_wp2_with fail
  have y8 : Upd NoB w7 (w7.alloc (.cells (i64s [2, -3]).toArray 3)) := (Upd.refl _ _).alloc _
  have Lt8 := Lib.hid (show Ints (w7.alloc (.cells (i64s [2, -3]).toArray 3)) (.slice (some ⟨w7.heap.size, 0, none⟩) 2 2) [2, -3] from Ints.ofBlock (xs := [2, -3]) (by decide) (heap_alloc_new w7 _))
  have QS8 := Lib.hid (QS7.out.later y8)
  clear QS7
  have VS8 := Lib.hid (VS7.out.later y8)
  clear VS7
  have UU8 := Lib.hid (UU7.out.then y8)
  clear UU7
  clear y8
  refine (Noise_any _ [2, -3] 0 _ Lt8.out).mono ?_
  rw [aw_n.1, aw_n.2]
  rintro e w9 ⟨rfl, u9⟩
  have QS9 := Lib.hid (QS8.out.later u9)
  clear QS8
  have VS9 := Lib.hid (VS8.out.later u9)
  clear VS8
  clear Lt8
  have UU9 := Lib.hid (UU8.out.then u9)
  clear UU8
  clear u9
  go_wp2_with fail
  have y10 : Upd NoB w9 (w9.alloc (.cells (i64s [1000]).toArray 3)) := (Upd.refl _ _).alloc _
  have Lt10 := Lib.hid (show Ints (w9.alloc (.cells (i64s [1000]).toArray 3)) (.slice (some ⟨w9.heap.size, 0, none⟩) 1 1) [1000] from Ints.ofBlock (xs := [1000]) (by decide) (heap_alloc_new w9 _))
  have QS10 := Lib.hid (QS9.out.later y10)
  clear QS9
  have VS10 := Lib.hid (VS9.out.later y10)
  clear VS9
  have UU10 := Lib.hid (UU9.out.then y10)
  clear UU9
  clear y10
  refine (Least_any _ [1000] _ Lt10.out).mono ?_
  rw [aw_l.1, aw_l.2]
  rintro e w11 ⟨rfl, u11⟩
  have QS11 := Lib.hid (QS10.out.later u11)
  clear QS10
  have VS11 := Lib.hid (VS10.out.later u11)
  clear VS10
  clear Lt10
  have UU11 := Lib.hid (UU10.out.then u11)
  clear UU10
  clear u11
  go_wp2_with fail
  have y12 : Upd NoB w11 (w11.alloc (.cells (i64s [0]).toArray 3)) := (Upd.refl _ _).alloc _
  have Lt12 := Lib.hid (show Ints (w11.alloc (.cells (i64s [0]).toArray 3)) (.slice (some ⟨w11.heap.size, 0, none⟩) 1 1) [0] from Ints.ofBlock (xs := [0]) (by decide) (heap_alloc_new w11 _))
  have QS12 := Lib.hid (QS11.out.later y12)
  clear QS11
  have VS12 := Lib.hid (VS11.out.later y12)
  clear VS11
  have UU12 := Lib.hid (UU11.out.then y12)
  clear UU11
  clear y12
  refine (Most_any _ [0] 0 _ Lt12.out).mono ?_
  rw [aw_m.1, aw_m.2]
  rintro e w13 ⟨rfl, u13⟩
  have QS13 := Lib.hid (QS12.out.later u13)
  clear QS12
  have VS13 := Lib.hid (VS12.out.later u13)
  clear VS12
  clear Lt12
  have UU13 := Lib.hid (UU12.out.then u13)
  clear UU12
  clear u13
  go_wp2_with fail
  have y14 : Upd NoB w13 (w13.alloc (.cells (i64s [1, -2, 0, 1]).toArray 3)) := (Upd.refl _ _).alloc _
  have Lt14 := Lib.hid (show Ints (w13.alloc (.cells (i64s [1, -2, 0, 1]).toArray 3)) (.slice (some ⟨w13.heap.size, 0, none⟩) 4 4) [1, -2, 0, 1] from Ints.ofBlock (xs := [1, -2, 0, 1]) (by decide) (heap_alloc_new w13 _))
  have QS14 := Lib.hid (QS13.out.later y14)
  clear QS13
  have VS14 := Lib.hid (VS13.out.later y14)
  clear VS13
  have UU14 := Lib.hid (UU13.out.then y14)
  clear UU13
  clear y14
  refine (qints_any _ _ [1, -2, 0, 1] [1, -2, 0, 1] _ QS14.out Lt14.out).mono ?_
  rw [intsB_self]
  rintro e w15 ⟨rfl, m15, hw15⟩
  have u15 : Upd NoB (w13.alloc (.cells (i64s [1, -2, 0, 1]).toArray 3)) w15 := by rw [hw15]; exact upd_drewN (Upd.refl _ _) _
  clear QS14
  have VS15 := Lib.hid (VS14.out.later u15)
  clear VS14
  clear Lt14
  have UU15 := Lib.hid (UU14.out.then u15)
  clear UU14
  clear u15 hw15
  go_wp2_with fail
  have y16 : Upd NoB w15 (w15.alloc (.cells (i64s [1, -3, 0, 1]).toArray 3)) := (Upd.refl _ _).alloc _
  have Lt16 := Lib.hid (show Ints (w15.alloc (.cells (i64s [1, -3, 0, 1]).toArray 3)) (.slice (some ⟨w15.heap.size, 0, none⟩) 4 4) [1, -3, 0, 1] from Ints.ofBlock (xs := [1, -3, 0, 1]) (by decide) (heap_alloc_new w15 _))
  have VS16 := Lib.hid (VS15.out.later y16)
  clear VS15
  have UU16 := Lib.hid (UU15.out.then y16)
  clear UU15
  clear y16
  refine (qints_any _ _ [1, -3, 0, 1] [1, -3, 0, 1] _ VS16.out Lt16.out).mono ?_
  rw [intsB_self]
  rintro e w17 ⟨rfl, m17, hw17⟩
  have u17 : Upd NoB (w15.alloc (.cells (i64s [1, -3, 0, 1]).toArray 3)) w17 := by rw [hw17]; exact upd_drewN (Upd.refl _ _) _
  clear VS16
  clear Lt16
  have UU17 := Lib.hid (UU16.out.then u17)
  clear UU16
  clear u17 hw17
  go_wp2_with fail
  go_ret
  exact ⟨rfl, UU17.out⟩
end Go.Proofs.Yteioaeceobgbdaa
