/- linear: Reflect; the law's awake -/
import Derived.Test.YtopjjdfnnjgnlaaTP
namespace Go.Proofs.Ytopjjdfnnjgnlaa
open Go.RowKit Go.Shelf

theorem Ints.ofBlock {w : World} {g : Nat} {t : TypeId} {xs : List Int} (hl : xs.length ≤ 1000000) (h : w.heap[g]? = some (.cells (i64s xs).toArray t (0, 0))) : Ints w (.slice (some ⟨g, 0, none⟩) xs.length xs.length) xs :=
  ⟨by omega, _, _, rfl, ⟨Nat.le_refl _, fun e => by cases e⟩, .inr ⟨g, 0, rfl, fun j x hx => by rw [Nat.zero_add, blk_cell h j, List.getElem?_toArray, i64s_get, hx]; rfl⟩⟩
theorem EInts.open {w w' : World} {xs : List Int} {E : Int} {e : Ending} (h : EInts w xs E e w') (hl : xs.length ≤ 1000000) : ∃ a c, e = .returned (.tuple #[.slice a xs.length c, .int .i64 E]) ∧ Ints w' (.slice a xs.length c) xs ∧ Upd NoB w w' := by
  obtain ⟨a, n, c, rfl, r, u⟩ := h
  obtain rfl := (by have := row_form r; obtain ⟨_, _, e⟩ := this; injection e : n = xs.length)
  exact ⟨a, c, rfl, Ints.ofRow r (by omega), u⟩
def rfE (x : List Int) (k : Int) : Int := if k < 0 ∨ 12 < k then 1 else ckE 2097152 x
def rfS (x : List Int) (k : Int) : List Int := if rfE x k = 0 then flG k.toNat ((likL x k.toNat).drop 1) ((likL x k.toNat).take k.toNat) else []
set_option maxRecDepth 100000 in
set_option maxHeartbeats 4000000 in
theorem Reflect_any (sv : Value) (xs : List Int) (k : Int) (w : World) (h : Ints w sv xs) : Calls Try.prog 38 #[sv, .int .i64 k] w (EInts w (rfS xs k) (rfE xs k)) := by
  have HC := Lib.hid (checkList_any sv xs 2097152 w (by decide) h)
  by_cases hk : k < 0 ∨ 12 < k
  · have HE := Lib.hid (show rfE xs k = 1 from if_pos hk)
    have HS := Lib.hid (show rfS xs k = [] from if_neg (by rw [HE.out]; decide))
    rw [HE.out, HS.out]
    obtain ⟨a, cap, rfl⟩ := h.form
    generalize xs.length = L at *
    by_cases h1 : k < 0
    · have t1 : decide (k < 0) = true := decide_eq_true h1
      clear h hk
      go_enter Try.func38, Try.ntmps38
      go_wp2_with fail
      go_ret2
      exact ⟨none, 0, 0, rfl, World.ownsRow_nil _ _ _ _, Upd.refl _ _⟩
    · have t1 : decide (k < 0) = false := decide_eq_false h1
      have t2 : decide (12 < k) = true := decide_eq_true (by omega)
      clear h hk
      go_enter Try.func38, Try.ntmps38
      go_wp2_with fail
      go_ret2
      exact ⟨none, 0, 0, rfl, World.ownsRow_nil _ _ _ _, Upd.refl _ _⟩
  · have HE := Lib.hid (show rfE xs k = ckE 2097152 xs from if_neg hk)
    have t1 : decide (k < 0) = false := decide_eq_false (by omega)
    have t2 : decide (12 < k) = false := decide_eq_false (by omega)
    by_cases hE : ckE 2097152 xs = 0
    · obtain ⟨hl, hin⟩ := ckE_ok hE
      obtain ⟨n, rfl⟩ : ∃ n : Nat, k = (n : Int) := ⟨k.toNat, by omega⟩
      have HS := Lib.hid (show rfS xs (n : Int) = flG n ((likL xs n).drop 1) ((likL xs n).take n) by
        have e : rfS xs (n : Int) = flG (n : Int).toNat ((likL xs (n : Int).toNat).drop 1) ((likL xs (n : Int).toNat).take (n : Int).toNat) := if_pos (by rw [HE.out, hE])
        rw [e, Int.toNat_natCast])
      have HFl := Lib.hid (flG_len n ((likL xs n).drop 1) ((likL xs n).take n))
      have HLk := Lib.hid (fun w' (u : Upd NoB w w') => likenesses_any sv xs n w' (h.later u) (by omega) hl hin)
      have HFo := Lib.hid (fun V v (hv : Ints V v (likL xs n)) => filterOf_any v (likL xs n) n V hv (likL_len xs n) (by omega) (likL_in hin hl n))
      have HLl := Lib.hid (likL_len xs n)
      have hn12 : n ≤ 12 := by omega
      rw [HE.out, hE, HS.out]
      rw [hE] at HC
      obtain ⟨a, cap, rfl⟩ := h.form
      generalize likL xs n = LK at *
      generalize flG n (LK.drop 1) (LK.take n) = FL at *
      generalize xs.length = L at *
      clear h hk hE hin hl
      go_enter Try.func38, Try.ntmps38
      go_wp2_with fail
      refine HC.out.mono ?_
      rintro e w1 ⟨rfl, u1⟩
      have U1 := Lib.hid u1
      clear u1
      go_wp2_with fail
      refine (HLk.out w1 U1.out).mono ?_
      rintro e w2 ⟨v2, rfl, r2, u2⟩
      rw [HLl.out] at r2
      obtain ⟨a2, c2, rfl⟩ := row_form r2
      have I2 := Lib.hid (row_ints r2 HLl.out (by omega)); have U2 := Lib.hid (U1.out.then u2)
      clear r2 u2
      go_wp2_with fail
      refine (HFo.out w2 _ I2.out).mono ?_
      rintro e w3 ⟨v3, rfl, r3, u3⟩
      rw [HFl.out] at r3
      obtain ⟨a3, c3, rfl⟩ := row_form r3
      have R3 := Lib.hid (row_base r3 U2.out.size); have U3 := Lib.hid (U2.out.then u3)
      clear r3 u3
      go_wp2_with fail
      go_ret2
      exact ⟨_, _, _, rfl, by rw [HFl.out]; exact R3.out, U3.out⟩
    · have HS := Lib.hid (show rfS xs k = [] from if_neg (by rw [HE.out]; exact hE))
      rw [HS.out, HE.out]
      have t3 : (ckE 2097152 xs != 0) = true := by rw [bne_iff_ne]; exact hE
      obtain ⟨a, cap, rfl⟩ := h.form
      generalize ckE 2097152 xs = E at *
      generalize xs.length = L at *
      clear h hk hE
      go_enter Try.func38, Try.ntmps38
      go_wp2_with fail
      refine HC.out.mono ?_
      rintro e w1 ⟨rfl, u1⟩
      have U1 := Lib.hid u1
      clear u1
      go_wp2_with fail
      go_ret2
      exact ⟨none, 0, 0, rfl, World.ownsRow_nil _ _ _ _, U1.out⟩
theorem aw_k : rfS [1, 1, 1, 1] 1 = [-96] ∧ rfE [1, 1, 1, 1] 1 = 0 := by decide +kernel
theorem aw_w : weS [-96] = [-3072] ∧ weE [-96] = 0 := by decide +kernel
theorem aw_d : reS [1, 1, 1, 1] [-96] = [1, 0, 0, 0] ∧ reE 2097152 [1, 1, 1, 1] [-96] = 0 := by decide +kernel
theorem aw_y : rsS [1, 0, 0, 0] [-96] = [1, 1, 1, 1] ∧ rsE [1, 0, 0, 0] [-96] = 0 := by decide +kernel
theorem aw_a : diS [1, 4, 9, 16] 2 = [1, 2, 2, 2] ∧ diE [1, 4, 9, 16] 2 = 0 := by decide +kernel
theorem aw_b : adS [1, 2, 2, 2] 2 = [1, 4, 9, 16] ∧ adE [1, 2, 2, 2] 2 = 0 := by decide +kernel
theorem aw_t : tmS [5, 0, -7, 0, 0] = [5, 0, -7] ∧ tmE [5, 0, -7, 0, 0] = 0 := by decide +kernel
set_option maxRecDepth 100000 in
set_option maxHeartbeats 8000000 in
theorem awake_lin (w : World) : Calls Try.prog 33 #[] w fun e w' => e = .returned (.bool true) ∧ Upd NoB w w' := by
  go_enter Try.func33, Try.ntmps33
  have x0 : Upd NoB w (w.alloc (.cells (i64s [1, 1, 1, 1]).toArray 3)) := (Upd.refl _ _).alloc _
  have HX := Lib.hid (show Ints (w.alloc (.cells (i64s [1, 1, 1, 1]).toArray 3)) (.slice (some ⟨w.heap.size, 0, none⟩) 4 4) [1, 1, 1, 1] from Ints.ofBlock (xs := [1, 1, 1, 1]) (by decide) (heap_alloc_new w _))
  have HX0 := Lib.hid x0
  clear x0
  go_wp2_with fail
  refine (Reflect_any _ [1, 1, 1, 1] 1 _ HX.out).mono ?_
  rw [aw_k.1, aw_k.2]
  intro e w1 hr1
  obtain ⟨a1, c1, rfl, i1, u1⟩ := EInts.open hr1 (by decide)
  have HI1 := Lib.hid (show Ints w1 (.slice a1 1 c1) [-96] from i1)
  have HX1 := Lib.hid (HX.out.later u1)
  have HU1 := Lib.hid (HX0.out.then u1)
  clear hr1 i1 u1
  go_wp2_with fail
  refine (Weights_any _ [-96] w1 HI1.out).mono ?_
  rw [aw_w.1, aw_w.2]
  intro e w2 hr2
  obtain ⟨a2, c2, rfl, i2, u2⟩ := EInts.open hr2 (by decide)
  have HI2 := Lib.hid (show Ints w2 (.slice a2 1 c2) [-3072] from i2)
  have HX2 := Lib.hid (HX1.out.later u2)
  have HK2 := Lib.hid (HI1.out.later u2)
  have HU2 := Lib.hid (HU1.out.then u2)
  clear hr2 i2 u2
  go_wp2_with fail
  refine (Residual_any _ _ [1, 1, 1, 1] [-96] w2 HX2.out HK2.out).mono ?_
  rw [aw_d.1, aw_d.2]
  intro e w3 hr3
  obtain ⟨a3, c3, rfl, i3, u3⟩ := EInts.open hr3 (by decide)
  have HI3 := Lib.hid (show Ints w3 (.slice a3 4 c3) [1, 0, 0, 0] from i3)
  have HX3 := Lib.hid (HX2.out.later u3)
  have HK3 := Lib.hid (HK2.out.later u3)
  have HW3 := Lib.hid (HI2.out.later u3)
  have HU3 := Lib.hid (HU2.out.then u3)
  clear hr3 i3 u3
  go_wp2_with fail
  refine (Restore_any _ _ [1, 0, 0, 0] [-96] w3 HI3.out HK3.out).mono ?_
  rw [aw_y.1, aw_y.2]
  intro e w4 hr4
  obtain ⟨a4, c4, rfl, i4, u4⟩ := EInts.open hr4 (by decide)
  have HI4 := Lib.hid (show Ints w4 (.slice a4 4 c4) [1, 1, 1, 1] from i4)
  have HX4 := Lib.hid (HX3.out.later u4)
  have HK4 := Lib.hid (HK3.out.later u4)
  have HW4 := Lib.hid (HW3.out.later u4)
  have HD4 := Lib.hid (HI3.out.later u4)
  have HU4 := Lib.hid (HU3.out.then u4)
  clear hr4 i4 u4
  go_wp2_with fail
  have y5 : Upd NoB w4 (w4.alloc (.cells (i64s [1, 4, 9, 16]).toArray 3)) := (Upd.refl _ _).alloc _
  have HA5 := Lib.hid (show Ints (w4.alloc (.cells (i64s [1, 4, 9, 16]).toArray 3)) (.slice (some ⟨w4.heap.size, 0, none⟩) 4 4) [1, 4, 9, 16] from Ints.ofBlock (xs := [1, 4, 9, 16]) (by decide) (heap_alloc_new w4 _))
  refine (Differ_any _ [1, 4, 9, 16] 2 _ HA5.out).mono ?_
  rw [aw_a.1, aw_a.2]
  intro e w5 hr5
  obtain ⟨a5, c5, rfl, i5, u5⟩ := EInts.open hr5 (by decide)
  have u5 := y5.then u5
  have HI5 := Lib.hid (show Ints w5 (.slice a5 4 c5) [1, 2, 2, 2] from i5)
  have HX5 := Lib.hid (HX4.out.later u5)
  have HK5 := Lib.hid (HK4.out.later u5)
  have HW5 := Lib.hid (HW4.out.later u5)
  have HD5 := Lib.hid (HD4.out.later u5)
  have HY5 := Lib.hid (HI4.out.later u5)
  have HU5 := Lib.hid (HU4.out.then u5)
  clear hr5 i5 u5 y5
  go_wp2_with fail
  refine (Add_any _ [1, 2, 2, 2] 2 w5 HI5.out).mono ?_
  rw [aw_b.1, aw_b.2]
  intro e w6 hr6
  obtain ⟨a6, c6, rfl, i6, u6⟩ := EInts.open hr6 (by decide)
  have HI6 := Lib.hid (show Ints w6 (.slice a6 4 c6) [1, 4, 9, 16] from i6)
  have HX6 := Lib.hid (HX5.out.later u6)
  have HK6 := Lib.hid (HK5.out.later u6)
  have HW6 := Lib.hid (HW5.out.later u6)
  have HD6 := Lib.hid (HD5.out.later u6)
  have HY6 := Lib.hid (HY5.out.later u6)
  have HA6 := Lib.hid (HI5.out.later u6)
  have HU6 := Lib.hid (HU5.out.then u6)
  clear hr6 i6 u6
  go_wp2_with fail
  have y7 : Upd NoB w6 (w6.alloc (.cells (i64s [5, 0, -7, 0, 0]).toArray 3)) := (Upd.refl _ _).alloc _
  have HA7 := Lib.hid (show Ints (w6.alloc (.cells (i64s [5, 0, -7, 0, 0]).toArray 3)) (.slice (some ⟨w6.heap.size, 0, none⟩) 5 5) [5, 0, -7, 0, 0] from Ints.ofBlock (xs := [5, 0, -7, 0, 0]) (by decide) (heap_alloc_new w6 _))
  refine (Trim_any _ [5, 0, -7, 0, 0] _ HA7.out).mono ?_
  rw [aw_t.1, aw_t.2]
  intro e w7 hr7
  obtain ⟨a7, c7, rfl, i7, u7⟩ := EInts.open hr7 (by decide)
  have u7 := y7.then u7
  have HI7 := Lib.hid (show Ints w7 (.slice a7 3 c7) [5, 0, -7] from i7)
  have HX7 := Lib.hid (HX6.out.later u7)
  have HK7 := Lib.hid (HK6.out.later u7)
  have HW7 := Lib.hid (HW6.out.later u7)
  have HD7 := Lib.hid (HD6.out.later u7)
  have HY7 := Lib.hid (HY6.out.later u7)
  have HA7 := Lib.hid (HA6.out.later u7)
  have HB7 := Lib.hid (HI6.out.later u7)
  have HU7 := Lib.hid (HU6.out.then u7)
  clear hr7 i7 u7 y7
  go_wp2_with fail
  have y8 : Upd NoB w7 (w7.alloc (.cells (i64s [-96]).toArray 3)) := (Upd.refl _ _).alloc _
  refine (qints_any _ _ [-96] [-96] _ (HK7.out.later y8) (Ints.ofBlock (xs := [-96]) (by decide) (heap_alloc_new w7 _))).mono ?_
  rw [intsB_self]
  rintro e w8 ⟨rfl, m8, hw8⟩
  have u8 : Upd NoB w7 w8 := by rw [hw8]; exact upd_drewN y8 _
  have HX8 := Lib.hid (HX7.out.later u8)
  have HW8 := Lib.hid (HW7.out.later u8)
  have HD8 := Lib.hid (HD7.out.later u8)
  have HY8 := Lib.hid (HY7.out.later u8)
  have HA8 := Lib.hid (HA7.out.later u8)
  have HB8 := Lib.hid (HB7.out.later u8)
  have HT8 := Lib.hid (HI7.out.later u8)
  have HU8 := Lib.hid (HU7.out.then u8)
  clear u8 hw8 y8
  go_wp2_with fail
  have y9 : Upd NoB w8 (w8.alloc (.cells (i64s [-3072]).toArray 3)) := (Upd.refl _ _).alloc _
  refine (qints_any _ _ [-3072] [-3072] _ (HW8.out.later y9) (Ints.ofBlock (xs := [-3072]) (by decide) (heap_alloc_new w8 _))).mono ?_
  rw [intsB_self]
  rintro e w9 ⟨rfl, m9, hw9⟩
  have u9 : Upd NoB w8 w9 := by rw [hw9]; exact upd_drewN y9 _
  have HX9 := Lib.hid (HX8.out.later u9)
  have HD9 := Lib.hid (HD8.out.later u9)
  have HY9 := Lib.hid (HY8.out.later u9)
  have HA9 := Lib.hid (HA8.out.later u9)
  have HB9 := Lib.hid (HB8.out.later u9)
  have HT9 := Lib.hid (HT8.out.later u9)
  have HU9 := Lib.hid (HU8.out.then u9)
  clear u9 hw9 y9
  go_wp2_with fail
  have y10 : Upd NoB w9 (w9.alloc (.cells (i64s [1, 0, 0, 0]).toArray 3)) := (Upd.refl _ _).alloc _
  refine (qints_any _ _ [1, 0, 0, 0] [1, 0, 0, 0] _ (HD9.out.later y10) (Ints.ofBlock (xs := [1, 0, 0, 0]) (by decide) (heap_alloc_new w9 _))).mono ?_
  rw [intsB_self]
  rintro e w10 ⟨rfl, m10, hw10⟩
  have u10 : Upd NoB w9 w10 := by rw [hw10]; exact upd_drewN y10 _
  have HX10 := Lib.hid (HX9.out.later u10)
  have HY10 := Lib.hid (HY9.out.later u10)
  have HA10 := Lib.hid (HA9.out.later u10)
  have HB10 := Lib.hid (HB9.out.later u10)
  have HT10 := Lib.hid (HT9.out.later u10)
  have HU10 := Lib.hid (HU9.out.then u10)
  clear u10 hw10 y10
  go_wp2_with fail
  refine (qints_any _ _ [1, 1, 1, 1] [1, 1, 1, 1] w10 HY10.out HX10.out).mono ?_
  rw [intsB_self]
  rintro e w11 ⟨rfl, m11, hw11⟩
  have u11 : Upd NoB w10 w11 := by rw [hw11]; exact upd_drewN (Upd.refl _ _) _
  have HX11 := Lib.hid (HX10.out.later u11)
  have HA11 := Lib.hid (HA10.out.later u11)
  have HB11 := Lib.hid (HB10.out.later u11)
  have HT11 := Lib.hid (HT10.out.later u11)
  have HU11 := Lib.hid (HU10.out.then u11)
  clear u11 hw11
  go_wp2_with fail
  have y12 : Upd NoB w11 (w11.alloc (.cells (i64s [1, 2, 2, 2]).toArray 3)) := (Upd.refl _ _).alloc _
  refine (qints_any _ _ [1, 2, 2, 2] [1, 2, 2, 2] _ (HA11.out.later y12) (Ints.ofBlock (xs := [1, 2, 2, 2]) (by decide) (heap_alloc_new w11 _))).mono ?_
  rw [intsB_self]
  rintro e w12 ⟨rfl, m12, hw12⟩
  have u12 : Upd NoB w11 w12 := by rw [hw12]; exact upd_drewN y12 _
  have HX12 := Lib.hid (HX11.out.later u12)
  have HB12 := Lib.hid (HB11.out.later u12)
  have HT12 := Lib.hid (HT11.out.later u12)
  have HU12 := Lib.hid (HU11.out.then u12)
  clear u12 hw12 y12
  go_wp2_with fail
  have y13 : Upd NoB w12 (w12.alloc (.cells (i64s [1, 4, 9, 16]).toArray 3)) := (Upd.refl _ _).alloc _
  refine (qints_any _ _ [1, 4, 9, 16] [1, 4, 9, 16] _ (HB12.out.later y13) (Ints.ofBlock (xs := [1, 4, 9, 16]) (by decide) (heap_alloc_new w12 _))).mono ?_
  rw [intsB_self]
  rintro e w13 ⟨rfl, m13, hw13⟩
  have u13 : Upd NoB w12 w13 := by rw [hw13]; exact upd_drewN y13 _
  have HX13 := Lib.hid (HX12.out.later u13)
  have HT13 := Lib.hid (HT12.out.later u13)
  have HU13 := Lib.hid (HU12.out.then u13)
  clear u13 hw13 y13
  go_wp2_with fail
  have y14 : Upd NoB w13 (w13.alloc (.cells (i64s [5, 0, -7]).toArray 3)) := (Upd.refl _ _).alloc _
  refine (qints_any _ _ [5, 0, -7] [5, 0, -7] _ (HT13.out.later y14) (Ints.ofBlock (xs := [5, 0, -7]) (by decide) (heap_alloc_new w13 _))).mono ?_
  rw [intsB_self]
  rintro e w14 ⟨rfl, m14, hw14⟩
  have u14 : Upd NoB w13 w14 := by rw [hw14]; exact upd_drewN y14 _
  have HX14 := Lib.hid (HX13.out.later u14)
  have HU14 := Lib.hid (HU13.out.then u14)
  clear u14 hw14 y14
  go_wp2_with fail
  go_ret
  exact ⟨rfl, HU14.out⟩
end Go.Proofs.Ytopjjdfnnjgnlaa
