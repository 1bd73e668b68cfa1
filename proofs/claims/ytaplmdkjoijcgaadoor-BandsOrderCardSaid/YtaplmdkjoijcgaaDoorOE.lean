/- bands: the laws that compare -/
import Derived.Test.YtaplmdkjoijcgaaDoorOD
import Derived.Test.YtaplmdkjoijcgaaDoorNQ
namespace Go.Proofs.YtaplmdkjoijcgaaDoor
open Go.RowKit Go.Shelf

theorem Upd.draw {S : Nat → Prop} {a w : World} (h : Upd S a w) (n : Nat) : Upd S a (w.drewN n) := ⟨h.os, h.tape, h.output, h.size, h.block⟩
theorem eints_ints {w w' : World} {xs : List Int} {a : Option Addr} {n c : Nat} (h : w'.ownsRow w.heap.size 3 1 (.slice a n c) xs.length (i64s xs)) (hl : xs.length ≤ 1000000) : Ints w' (.slice a n c) xs := Ints.ofRow h (by omega)
theorem wdS_len (s : Bool) (gs : List Int) : (wdS s gs).length ≤ 1000000 := by
  unfold wdS
  split
  · rename_i h
    have h1 := ctN_bands s gs
    have h2 := ctN_le h
    omega
  · simp
theorem orS_len (s : Bool) (gs : List Int) : (orS s gs).length ≤ 1000000 := by
  unfold orS
  split
  · rename_i h; rw [(plI_perm h).1]; omega
  · simp
theorem gaS_len (c : List Int) (s : Bool) (gs : List Int) : (gaS c s gs).length ≤ 1000000 := by
  unfold gaS
  split
  · rename_i h
    unfold gaL
    rw [List.length_map, (plI_perm (dfE_ok h).1).1]; omega
  · simp
theorem scS_len (c : List Int) (s : Bool) (gs : List Int) : (scS c s gs).length ≤ 1000000 := by
  unfold scS
  split
  · unfold sc0; rw [scL_len, List.length_replicate]; omega
  · simp
set_option maxRecDepth 100000 in
set_option maxHeartbeats 4000000 in
theorem widths_law (s : Bool) (v : Value) (gs : List Int) (w : World) (h : Ints w v gs) (hg : Gv w) :
    Calls Tryd.prog 3 #[.bool s, v] w fun e w' => e = .returned (.bool true) ∧ Upd NoB w w' := by
  obtain ⟨a, cap, rfl⟩ := h.form
  have HX := Lib.hid h; have HG := Lib.hid hg
  obtain ⟨L, hL⟩ : ∃ L, gs.length = L := ⟨_, rfl⟩
  rw [hL] at HX ⊢
  clear h hg hL
  by_cases hf : 100 < L
  · have t1 : decide ((100 : Int) < (L : Int)) = true := decide_eq_true (by omega)
    have t1n : decide (100 < L) = true := decide_eq_true hf
    clear hf
    go_enter Tryd.func3, Tryd.ntmps3
    go_wp2_with fail
    refine (awake_any _ (HG.out.later (Upd.refl NoB w))).mono ?_
    rintro e w' ⟨rfl, u1⟩
    have U1 := Lib.hid ((Upd.refl NoB w).then u1)
    clear u1
    go_wp2_with fail
    go_ret
    exact ⟨rfl, U1.out⟩
  · have t1 : decide ((100 : Int) < (L : Int)) = false := decide_eq_false (by omega)
    have t1n : decide (100 < L) = false := decide_eq_false hf
    clear hf
    go_enter Tryd.func3, Tryd.ntmps3
    go_wp2_with fail
    refine (Widths_any s _ gs w (HX.out.later (Upd.refl NoB w)) (HG.out.later (Upd.refl NoB w))).mono ?_
    rintro e w2 ⟨a0, n0, c0, rfl, r0, u0⟩
    have I0_0 := Lib.hid (eints_ints r0 (wdS_len s gs)); have U0 := Lib.hid ((Upd.refl NoB w).then u0)
    clear r0 u0
    go_wp2_with fail
    refine (rWidths_any s _ gs w2 (HX.out.later U0.out)).mono ?_
    rintro e w3 ⟨a1, n1, c1, rfl, r1, u1⟩
    have I1_1 := Lib.hid (eints_ints r1 (wdS_len s gs)); have U1 := Lib.hid (U0.out.then u1)
    have I0_1 := Lib.hid (I0_0.out.later u1)
    clear r1 u1 I0_0
    go_wp2_with fail
    refine (Order_any s _ gs w3 (HX.out.later U1.out) (HG.out.later U1.out)).mono ?_
    rintro e w4 ⟨a2, n2, c2, rfl, r2, u2⟩
    have I2_2 := Lib.hid (eints_ints r2 (orS_len s gs)); have U2 := Lib.hid (U1.out.then u2)
    have I0_2 := Lib.hid (I0_1.out.later u2)
    have I1_2 := Lib.hid (I1_1.out.later u2)
    clear r2 u2 I0_1 I1_1
    go_wp2_with fail
    refine (rOrder_any s _ gs w4 (HX.out.later U2.out)).mono ?_
    rintro e w5 ⟨a3, n3, c3, rfl, r3, u3⟩
    have I3_3 := Lib.hid (eints_ints r3 (orS_len s gs)); have U3 := Lib.hid (U2.out.then u3)
    have I0_3 := Lib.hid (I0_2.out.later u3)
    have I1_3 := Lib.hid (I1_2.out.later u3)
    have I2_3 := Lib.hid (I2_2.out.later u3)
    clear r3 u3 I0_2 I1_2 I2_2
    go_wp2_with fail
    refine (Count_any s _ gs w5 (HX.out.later U3.out) (HG.out.later U3.out)).mono ?_
    rintro e w6 ⟨rfl, u4⟩
    have U4 := Lib.hid (U3.out.then u4)
    have I0_4 := Lib.hid (I0_3.out.later u4)
    have I1_4 := Lib.hid (I1_3.out.later u4)
    have I2_4 := Lib.hid (I2_3.out.later u4)
    have I3_4 := Lib.hid (I3_3.out.later u4)
    clear u4 I0_3 I1_3 I2_3 I3_3
    go_wp2_with fail
    refine (rCount_any s _ gs w6 (HX.out.later U4.out)).mono ?_
    rintro e w7 ⟨rfl, u5⟩
    have U5 := Lib.hid (U4.out.then u5)
    have I0_5 := Lib.hid (I0_4.out.later u5)
    have I1_5 := Lib.hid (I1_4.out.later u5)
    have I2_5 := Lib.hid (I2_4.out.later u5)
    have I3_5 := Lib.hid (I3_4.out.later u5)
    clear u5 I0_4 I1_4 I2_4 I3_4
    go_wp2_with fail
    refine (qints_any _ _ (wdS s gs) (wdS s gs) w7 I0_5.out I1_5.out).mono ?_
    rw [intsB_self]
    rintro e w8 ⟨rfl, m8, hm8⟩
    have um8 : Upd NoB w7 w8 := by rw [hm8]; exact (Upd.refl _ _).draw _
    have U8 := Lib.hid (U5.out.then um8)
    have I2_8 := Lib.hid (I2_5.out.later um8)
    have I3_8 := Lib.hid (I3_5.out.later um8)
    clear I0_5 I1_5 hm8 um8 I2_5 I3_5
    go_wp2_with fail
    refine (qints_any _ _ (orS s gs) (orS s gs) w8 I2_8.out I3_8.out).mono ?_
    rw [intsB_self]
    rintro e w9 ⟨rfl, m9, hm9⟩
    have um9 : Upd NoB w8 w9 := by rw [hm9]; exact (Upd.refl _ _).draw _
    have U9 := Lib.hid (U8.out.then um9)
    clear I2_8 I3_8 hm9 um9
    go_wp2_with fail
    refine (awake_any _ (HG.out.later U9.out)).mono ?_
    rintro e w10 ⟨rfl, u10⟩
    have U10 := Lib.hid (U9.out.then u10)
    clear u10
    go_wp2_with fail
    go_ret
    exact ⟨rfl, U10.out⟩
set_option maxRecDepth 100000 in
set_option maxHeartbeats 4000000 in
theorem gathers_law (cv : Value) (c : List Int) (s : Bool) (v : Value) (gs : List Int) (w : World) (hc : Ints w cv c) (h : Ints w v gs) (hg : Gv w) :
    Calls Tryd.prog 4 #[cv, .bool s, v] w fun e w' => e = .returned (.bool true) ∧ Upd NoB w w' := by
  obtain ⟨ca, cc, rfl⟩ := hc.form
  have HC := Lib.hid hc
  obtain ⟨n, hn⟩ : ∃ n, c.length = n := ⟨_, rfl⟩
  rw [hn] at HC ⊢
  clear hc hn
  obtain ⟨a, cap, rfl⟩ := h.form
  have HX := Lib.hid h; have HG := Lib.hid hg
  obtain ⟨L, hL⟩ : ∃ L, gs.length = L := ⟨_, rfl⟩
  rw [hL] at HX ⊢
  clear h hg hL
  by_cases hf : 300 < n ∨ 100 < L
  · by_cases h3 : 300 < n
    · have t0 : decide ((300 : Int) < (n : Int)) = true := decide_eq_true (by omega)
      have t0n : decide (300 < n) = true := decide_eq_true h3
      clear hf h3
      go_enter Tryd.func4, Tryd.ntmps4
      go_wp2_with fail
      refine (awake_any _ (HG.out.later (Upd.refl NoB w))).mono ?_
      rintro e w' ⟨rfl, u1⟩
      have U1 := Lib.hid ((Upd.refl NoB w).then u1)
      clear u1
      go_wp2_with fail
      go_ret
      exact ⟨rfl, U1.out⟩
    · have t0 : decide ((300 : Int) < (n : Int)) = false := decide_eq_false (by omega)
      have t0n : decide (300 < n) = false := decide_eq_false h3
      have t1 : decide ((100 : Int) < (L : Int)) = true := decide_eq_true (by omega)
      have t1n : decide (100 < L) = true := decide_eq_true (by omega)
      clear hf h3
      go_enter Tryd.func4, Tryd.ntmps4
      go_wp2_with fail
      refine (awake_any _ (HG.out.later (Upd.refl NoB w))).mono ?_
      rintro e w' ⟨rfl, u1⟩
      have U1 := Lib.hid ((Upd.refl NoB w).then u1)
      clear u1
      go_wp2_with fail
      go_ret
      exact ⟨rfl, U1.out⟩
  · have t0 : decide ((300 : Int) < (n : Int)) = false := decide_eq_false (by omega)
    have t0n : decide (300 < n) = false := decide_eq_false (by omega)
    have t1 : decide ((100 : Int) < (L : Int)) = false := decide_eq_false (by omega)
    have t1n : decide (100 < L) = false := decide_eq_false (by omega)
    clear hf
    go_enter Tryd.func4, Tryd.ntmps4
    go_wp2_with fail
    refine (Gather_any _ c s _ gs w (HC.out.later (Upd.refl NoB w)) (HX.out.later (Upd.refl NoB w)) (HG.out.later (Upd.refl NoB w))).mono ?_
    rintro e w2 ⟨a0, n0, c0, rfl, r0, u0⟩
    have I0_0 := Lib.hid (eints_ints r0 (gaS_len c s gs)); have U0 := Lib.hid ((Upd.refl NoB w).then u0)
    clear r0 u0
    go_wp2_with fail
    refine (rGather_any _ c s _ gs w2 (HC.out.later U0.out) (HX.out.later U0.out)).mono ?_
    rintro e w3 ⟨a1, n1, c1, rfl, r1, u1⟩
    have I1_1 := Lib.hid (eints_ints r1 (gaS_len c s gs)); have U1 := Lib.hid (U0.out.then u1)
    have I0_1 := Lib.hid (I0_0.out.later u1)
    clear r1 u1 I0_0
    go_wp2_with fail
    refine (Scatter_any _ c s _ gs w3 (HC.out.later U1.out) (HX.out.later U1.out) (HG.out.later U1.out)).mono ?_
    rintro e w4 ⟨a2, n2, c2, rfl, r2, u2⟩
    have I2_2 := Lib.hid (eints_ints r2 (scS_len c s gs)); have U2 := Lib.hid (U1.out.then u2)
    have I0_2 := Lib.hid (I0_1.out.later u2)
    have I1_2 := Lib.hid (I1_1.out.later u2)
    clear r2 u2 I0_1 I1_1
    go_wp2_with fail
    refine (rScatter_any _ c s _ gs w4 (HC.out.later U2.out) (HX.out.later U2.out)).mono ?_
    rintro e w5 ⟨a3, n3, c3, rfl, r3, u3⟩
    have I3_3 := Lib.hid (eints_ints r3 (scS_len c s gs)); have U3 := Lib.hid (U2.out.then u3)
    have I0_3 := Lib.hid (I0_2.out.later u3)
    have I1_3 := Lib.hid (I1_2.out.later u3)
    have I2_3 := Lib.hid (I2_2.out.later u3)
    clear r3 u3 I0_2 I1_2 I2_2
    go_wp2_with fail
    refine (qints_any _ _ (gaS c s gs) (gaS c s gs) w5 I0_3.out I1_3.out).mono ?_
    rw [intsB_self]
    rintro e w6 ⟨rfl, m6, hm6⟩
    have um6 : Upd NoB w5 w6 := by rw [hm6]; exact (Upd.refl _ _).draw _
    have U6 := Lib.hid (U3.out.then um6)
    have I2_6 := Lib.hid (I2_3.out.later um6)
    have I3_6 := Lib.hid (I3_3.out.later um6)
    clear I0_3 I1_3 hm6 um6 I2_3 I3_3
    go_wp2_with fail
    refine (qints_any _ _ (scS c s gs) (scS c s gs) w6 I2_6.out I3_6.out).mono ?_
    rw [intsB_self]
    rintro e w7 ⟨rfl, m7, hm7⟩
    have um7 : Upd NoB w6 w7 := by rw [hm7]; exact (Upd.refl _ _).draw _
    have U7 := Lib.hid (U6.out.then um7)
    clear I2_6 I3_6 hm7 um7
    go_wp2_with fail
    refine (awake_any _ (HG.out.later U7.out)).mono ?_
    rintro e w8 ⟨rfl, u8⟩
    have U8 := Lib.hid (U7.out.then u8)
    clear u8
    go_wp2_with fail
    go_ret
    exact ⟨rfl, U8.out⟩
set_option maxRecDepth 100000 in
set_option maxHeartbeats 4000000 in
theorem ranges_law (i : Int) (s : Bool) (v : Value) (gs : List Int) (w : World) (h : Ints w v gs) (hg : Gv w) :
    Calls Tryd.prog 5 #[.int .i64 i, .bool s, v] w fun e w' => e = .returned (.bool true) ∧ Upd NoB w w' := by
  obtain ⟨a, cap, rfl⟩ := h.form
  have HX := Lib.hid h; have HG := Lib.hid hg
  obtain ⟨L, hL⟩ : ∃ L, gs.length = L := ⟨_, rfl⟩
  rw [hL] at HX ⊢
  clear h hg hL
  by_cases hf : 100 < L
  · have t1 : decide ((100 : Int) < (L : Int)) = true := decide_eq_true (by omega)
    have t1n : decide (100 < L) = true := decide_eq_true hf
    clear hf
    go_enter Tryd.func5, Tryd.ntmps5
    go_wp2_with fail
    refine (awake_any _ (HG.out.later (Upd.refl NoB w))).mono ?_
    rintro e w' ⟨rfl, u1⟩
    have U1 := Lib.hid ((Upd.refl NoB w).then u1)
    clear u1
    go_wp2_with fail
    go_ret
    exact ⟨rfl, U1.out⟩
  · have t1 : decide ((100 : Int) < (L : Int)) = false := decide_eq_false (by omega)
    have t1n : decide (100 < L) = false := decide_eq_false hf
    clear hf
    go_enter Tryd.func5, Tryd.ntmps5
    go_wp2_with fail
    refine (Band_any i s _ gs w (HX.out.later (Upd.refl NoB w)) (HG.out.later (Upd.refl NoB w))).mono ?_
    rintro e w2 ⟨rfl, u0⟩
    have U0 := Lib.hid ((Upd.refl NoB w).then u0)
    clear u0
    go_wp2_with fail
    refine (rBand_any i s _ gs w2 (HX.out.later U0.out)).mono ?_
    rintro e w3 ⟨rfl, u1⟩
    have U1 := Lib.hid (U0.out.then u1)
    clear u1
    go_wp2_with fail
    refine (Range_any i s _ gs w3 (HX.out.later U1.out) (HG.out.later U1.out)).mono ?_
    rintro e w4 ⟨rfl, u2⟩
    have U2 := Lib.hid (U1.out.then u2)
    clear u2
    go_wp2_with fail
    refine (rRange_any i s _ gs w4 (HX.out.later U2.out)).mono ?_
    rintro e w5 ⟨rfl, u3⟩
    have U3 := Lib.hid (U2.out.then u3)
    clear u3
    go_wp2_with fail
    refine (awake_any _ (HG.out.later U3.out)).mono ?_
    rintro e w6 ⟨rfl, u6⟩
    have U6 := Lib.hid (U3.out.then u6)
    clear u6
    go_wp2_with fail
    go_ret
    exact ⟨rfl, U6.out⟩
set_option maxRecDepth 100000 in
set_option maxHeartbeats 4000000 in
theorem pitch_law (r b : Int) (s : Bool) (v : Value) (gs : List Int) (w : World) (h : Ints w v gs) (hg : Gv w) :
    Calls Tryd.prog 6 #[.agg #[.int .i64 r, .int .i64 b], .bool s, v] w fun e w' => e = .returned (.bool true) ∧ Upd NoB w w' := by
  have ub : Upd NoB w (w.alloc (.cells #[.int .i64 r, .int .i64 b] 37)) := (Upd.refl _ _).alloc _
  have NB := Lib.hid (heap_alloc_new w (.cells #[.int .i64 r, .int .i64 b] 37))
  have UB := Lib.hid ub
  clear ub
  obtain ⟨a, cap, rfl⟩ := h.form
  have HX := Lib.hid h; have HG := Lib.hid hg
  obtain ⟨L, hL⟩ : ∃ L, gs.length = L := ⟨_, rfl⟩
  rw [hL] at HX ⊢
  clear h hg hL
  by_cases hf : 100 < L
  · have t1 : decide ((100 : Int) < (L : Int)) = true := decide_eq_true (by omega)
    have t1n : decide (100 < L) = true := decide_eq_true hf
    clear hf
    go_enter Tryd.func6, Tryd.ntmps6
    go_wp2_with fail
    refine (awake_any _ (HG.out.later UB.out)).mono ?_
    rintro e w' ⟨rfl, u1⟩
    have U1 := Lib.hid (UB.out.then u1)
    clear u1
    go_wp2_with fail
    go_ret
    exact ⟨rfl, U1.out⟩
  · have t1 : decide ((100 : Int) < (L : Int)) = false := decide_eq_false (by omega)
    have t1n : decide (100 < L) = false := decide_eq_false hf
    clear hf
    go_enter Tryd.func6, Tryd.ntmps6
    go_wp2_with fail
    refine (Pitch_any r b s _ gs (w.alloc (.cells #[.int .i64 r, .int .i64 b] 37)) (HX.out.later UB.out) (HG.out.later UB.out)).mono ?_
    rintro e w2 ⟨rfl, u0⟩
    have U0 := Lib.hid (UB.out.then u0)
    have e0 := blk_cell (u0.heap NB.out (noB _)) 0
    have e1 := blk_cell (u0.heap NB.out (noB _)) 1
    clear u0
    go_wp2_with fail
    refine (rPitch_any r b s _ gs w2 (HX.out.later U0.out)).mono ?_
    rintro e w3 ⟨rfl, u1⟩
    have U1 := Lib.hid (U0.out.then u1)
    clear u1
    go_wp2_with fail
    refine (awake_any _ (HG.out.later U1.out)).mono ?_
    rintro e w4 ⟨rfl, u4⟩
    have U4 := Lib.hid (U1.out.then u4)
    clear u4
    go_wp2_with fail
    go_ret
    exact ⟨rfl, U4.out⟩
end Go.Proofs.YtaplmdkjoijcgaaDoor
