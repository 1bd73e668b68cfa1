/- energy: the laws Energies, Levels and Spread -/
import Derived.Test.YtgdndcbcdoogpaaDoorED
namespace Go.Proofs.YtgdndcbcdoogpaaDoor
open Go.RowKit Go.Shelf

theorem EInts.open {w w' : World} {xs : List Int} {E : Int} {e : Ending} (h : EInts w xs E e w') (hl : xs.length ≤ 1000000) : ∃ a c, e = .returned (.tuple #[.slice a xs.length c, .int .i64 E]) ∧ Ints w' (.slice a xs.length c) xs ∧ Upd NoB w w' := by
  obtain ⟨a, n, c, rfl, r, u⟩ := h
  obtain rfl := (by have := row_form r; obtain ⟨_, _, e⟩ := this; injection e : n = xs.length)
  exact ⟨a, c, rfl, Ints.ofRow r (by omega), u⟩
theorem sd_le (xs : List Int) (n : Int) : (sdS xs n).length ≤ 1000000 := by
  by_cases h : sdE xs n = 0
  · obtain ⟨_, _, _, _, h32, _⟩ := sd_at h
    rw [sd_len h]; omega
  · have : sdS xs n = [] := if_neg h
    rw [this]; decide
theorem en_le (c : List Int) (s : Bool) (gs : List Int) : (enS c s gs).length ≤ 1000000 := by
  by_cases h : spE c s gs = 0
  · have := (en_sum h).2.1; omega
  · have : enS c s gs = [] := if_neg h
    rw [this]; decide
theorem to_le (c : List Int) (s : Bool) (gs : List Int) : (toS c s gs).length ≤ 1000000 := by
  by_cases h : spE c s gs = 0
  · have e : toS c s gs = (cutL c s gs).map tnV := if_pos h
    have := (cutL_len (c := c) (spE_ok h).1).1
    rw [e, List.length_map]; omega
  · have : toS c s gs = [] := if_neg h
    rw [this]; decide
theorem lv_le (xs : List Int) : (lvS xs).length ≤ 1000000 := by
  by_cases h : lvE xs = 0
  · have e : lvS xs = xs.map lv := if_pos h
    have : xs.length ≤ 32 := by
      unfold lvE at h
      by_cases h2 : 32 < xs.length
      · rw [if_pos h2] at h; cases h
      · omega
    rw [e, List.length_map]; omega
  · have : lvS xs = [] := if_neg h
    rw [this]; decide
theorem bl_le (c : List Int) : (blS c).length ≤ 1000000 := by
  by_cases h : blE c = 0
  · rw [(bl_sum h).2.1]; decide
  · have : blS c = [] := if_neg h
    rw [this]; decide
set_option maxRecDepth 100000 in
set_option maxHeartbeats 4000000 in
theorem spread_law (sv : Value) (xs : List Int) (n : Int) (w : World) (h : Ints w sv xs) (hg : Gv w) : Calls Tryd.prog 11 #[sv, .int .i64 n] w fun e w' => e = .returned (.bool true) ∧ Upd NoB w w' := by
  have HG := Lib.hid hg; have HX := Lib.hid h
  have HF := Lib.hid (few_any sv _ xs [] w h (Ints.nil w))
  obtain ⟨a, cap, rfl⟩ := h.form
  cases hf : fewB xs [] with
  | false =>
    rw [hf] at HF
    generalize xs.length = L at *
    clear h hg hf
    go_enter Tryd.func11, Tryd.ntmps11
    go_wp2_with fail
    refine HF.out.mono ?_
    rintro e w1 ⟨rfl, rfl⟩
    go_wp2_with fail
    refine (awake_en _ HG.out).mono ?_
    rintro e w2 ⟨rfl, u2⟩
    have U2 := Lib.hid u2
    clear u2
    go_wp2_with fail
    go_ret
    exact ⟨rfl, U2.out⟩
  | true =>
    rw [hf] at HF
    have HP := Lib.hid (Spread_any _ xs n w h)
    have HR := Lib.hid (fun w' (u : Upd NoB w w') => rSpread_any _ xs n w' (h.later u))
    have hle := sd_le xs n
    obtain ⟨A, hA⟩ : ∃ A, sdS xs n = A := ⟨_, rfl⟩
    obtain ⟨E, hE⟩ : ∃ E, sdE xs n = E := ⟨_, rfl⟩
    rw [hA, hE] at HP HR
    rw [hA] at hle
    obtain ⟨AL, hAL⟩ : ∃ AL, A.length = AL := ⟨_, rfl⟩
    have hEE : (E == E) = true := by simp
    generalize xs.length = L at *
    clear h hg hf hA hE
    go_enter Tryd.func11, Tryd.ntmps11
    go_wp2_with fail
    refine HF.out.mono ?_
    rintro e w1 ⟨rfl, rfl⟩
    go_wp2_with fail
    refine (HP.out).mono ?_
    intro e w1 hr
    obtain ⟨a1, c1, rfl, i1, u1⟩ := EInts.open hr hle
    clear hr
    rw [hAL] at i1 ⊢
    have I1 := Lib.hid i1; have U1 := Lib.hid (u1)
    clear i1 u1
    go_wp2_with fail
    refine (HR.out _ U1.out).mono ?_
    intro e w2 hr
    obtain ⟨a2, c2, rfl, i2, u2⟩ := EInts.open hr hle
    clear hr
    rw [hAL] at i2 ⊢
    have I2 := Lib.hid i2; have U2 := Lib.hid (U1.out.then u2)
    have J1 := Lib.hid (I1.out.later u2)
    clear i2 u2
    go_wp2_with fail
    refine (qints_any _ _ A A _ J1.out I2.out).mono ?_
    rw [intsB_self]
    rintro e w3 ⟨rfl, m3, hw3⟩
    have U3 := Lib.hid (show Upd NoB w w3 by rw [hw3]; exact upd_drewN U2.out _)
    clear hw3
    go_wp2_with fail
    refine (awake_en _ (HG.out.later U3.out)).mono ?_
    rintro e w4 ⟨rfl, u4⟩
    have U4 := Lib.hid (U3.out.then u4)
    clear u4
    go_wp2_with fail
    go_ret
    exact ⟨rfl, U4.out⟩
set_option maxRecDepth 100000 in
set_option maxHeartbeats 8000000 in
theorem energies_law (cv : Value) (c : List Int) (s : Bool) (v : Value) (gs : List Int) (w : World) (hc : Ints w cv c) (h : Ints w v gs) (hg : Gv w) : Calls Tryd.prog 9 #[cv, .bool s, v] w fun e w' => e = .returned (.bool true) ∧ Upd NoB w w' := by
  have HG := Lib.hid hg; have HX := Lib.hid hc; have HV := Lib.hid h
  have HF := Lib.hid (few_any cv v c gs w hc h)
  have P1 := Lib.hid (Energies_any cv c s v gs w hc h hg)
  have P2 := Lib.hid (fun w' (u : Upd NoB w w') => rEnergies_any cv c s v gs w' (hc.later u) (h.later u))
  have P3 := Lib.hid (fun w' (u : Upd NoB w w') => Total_any cv c s v gs w' (hc.later u) (h.later u) (hg.later u))
  have P4 := Lib.hid (fun w' (u : Upd NoB w w') => rTotal_any cv c s v gs w' (hc.later u) (h.later u))
  have P5 := Lib.hid (fun w' (u : Upd NoB w w') => Tones_any cv c s v gs w' (hc.later u) (h.later u) (hg.later u))
  have P6 := Lib.hid (fun w' (u : Upd NoB w w') => rTones_any cv c s v gs w' (hc.later u) (h.later u))
  obtain ⟨ca, cc, rfl⟩ := hc.form
  obtain ⟨a, cap, rfl⟩ := h.form
  cases hf : fewB c gs with
  | false =>
    rw [hf] at HF
    generalize c.length = L at *
    generalize gs.length = M at *
    clear hc h hg P1 P2 P3 P4 P5 P6 hf
    go_enter Tryd.func9, Tryd.ntmps9
    go_wp2_with fail
    refine HF.out.mono ?_
    rintro e w1 ⟨rfl, rfl⟩
    go_wp2_with fail
    refine (awake_en _ HG.out).mono ?_
    rintro e w2 ⟨rfl, u2⟩
    have U2 := Lib.hid u2
    clear u2
    go_wp2_with fail
    go_ret
    exact ⟨rfl, U2.out⟩
  | true =>
    rw [hf] at HF
    have hle := en_le c s gs
    have hle2 := to_le c s gs
    obtain ⟨A, hA⟩ : ∃ A, enS c s gs = A := ⟨_, rfl⟩
    obtain ⟨T, hT⟩ : ∃ T, toS c s gs = T := ⟨_, rfl⟩
    obtain ⟨Z, hZ⟩ : ∃ Z, ttS c s gs = Z := ⟨_, rfl⟩
    obtain ⟨E, hE⟩ : ∃ E, spE c s gs = E := ⟨_, rfl⟩
    rw [hA, hE] at P1 P2
    rw [hZ, hE] at P3 P4
    rw [hT, hE] at P5 P6
    rw [hA] at hle
    rw [hT] at hle2
    obtain ⟨AL, hAL⟩ : ∃ AL, A.length = AL := ⟨_, rfl⟩
    obtain ⟨TL, hTL⟩ : ∃ TL, T.length = TL := ⟨_, rfl⟩
    have hEE : (E == E) = true := by simp
    have hZZ : (Z == Z) = true := by simp
    generalize c.length = L at *
    generalize gs.length = M at *
    clear hc h hg hf hA hE hT hZ
    go_enter Tryd.func9, Tryd.ntmps9
    go_wp2_with fail
    refine HF.out.mono ?_
    rintro e w1 ⟨rfl, rfl⟩
    go_wp2_with fail
    refine (P1.out).mono ?_
    intro e w1 hr
    obtain ⟨a1, c1, rfl, i1, u1⟩ := EInts.open hr hle
    clear hr
    rw [hAL] at i1 ⊢
    have I1 := Lib.hid i1; have U1 := Lib.hid (u1)
    clear i1 u1
    go_wp2_with fail
    refine (P2.out _ U1.out).mono ?_
    intro e w2 hr
    obtain ⟨a2, c2, rfl, i2, u2⟩ := EInts.open hr hle
    clear hr
    rw [hAL] at i2 ⊢
    have I2 := Lib.hid i2; have U2 := Lib.hid (U1.out.then u2)
    have J1 := Lib.hid (I1.out.later u2)
    clear i2 u2
    go_wp2_with fail
    refine (P3.out _ U2.out).mono ?_
    rintro e w3 ⟨rfl, u3⟩
    have U3 := Lib.hid (U2.out.then u3); have J3 := Lib.hid (J1.out.later u3); have K3 := Lib.hid (I2.out.later u3)
    clear u3
    go_wp2_with fail
    refine (P4.out _ U3.out).mono ?_
    rintro e w3' ⟨rfl, rfl⟩
    go_wp2_with fail
    refine (P5.out _ U3.out).mono ?_
    intro e w5 hr
    obtain ⟨a5, c5, rfl, i5, u5⟩ := EInts.open hr hle2
    clear hr
    rw [hTL] at i5 ⊢
    have I5 := Lib.hid i5; have U5 := Lib.hid (U3.out.then u5)
    have J5 := Lib.hid (J3.out.later u5)
    have K5 := Lib.hid (K3.out.later u5)
    clear i5 u5
    go_wp2_with fail
    refine (P6.out _ U5.out).mono ?_
    intro e w6 hr
    obtain ⟨a6, c6, rfl, i6, u6⟩ := EInts.open hr hle2
    clear hr
    rw [hTL] at i6 ⊢
    have I6 := Lib.hid i6; have U6 := Lib.hid (U5.out.then u6)
    have J6 := Lib.hid (J5.out.later u6)
    have K6 := Lib.hid (K5.out.later u6)
    have L6 := Lib.hid (I5.out.later u6)
    clear i6 u6
    go_wp2_with fail
    refine (qints_any _ _ A A _ J6.out K6.out).mono ?_
    rw [intsB_self]
    rintro e w7 ⟨rfl, m7, hw7⟩
    have u7 : Upd NoB w6 w7 := by rw [hw7]; exact upd_drewN (Upd.refl _ _) _
    have U7 := Lib.hid (U6.out.then u7); have J7 := Lib.hid (L6.out.later u7); have K7 := Lib.hid (I6.out.later u7)
    clear hw7 u7
    go_wp2_with fail
    refine (qints_any _ _ T T _ J7.out K7.out).mono ?_
    rw [intsB_self]
    rintro e w8 ⟨rfl, m8, hw8⟩
    have U8 := Lib.hid (show Upd NoB w w8 by rw [hw8]; exact upd_drewN U7.out _)
    clear hw8
    go_wp2_with fail
    refine (awake_en _ (HG.out.later U8.out)).mono ?_
    rintro e w9 ⟨rfl, u9⟩
    have U9 := Lib.hid (U8.out.then u9)
    clear u9
    go_wp2_with fail
    go_ret
    exact ⟨rfl, U9.out⟩
set_option maxRecDepth 100000 in
set_option maxHeartbeats 8000000 in
theorem levels_law (ev cv : Value) (es c : List Int) (w : World) (he : Ints w ev es) (hc : Ints w cv c) (hg : Gv w) : Calls Tryd.prog 10 #[ev, cv] w fun e w' => e = .returned (.bool true) ∧ Upd NoB w w' := by
  have HG := Lib.hid hg
  have HF := Lib.hid (few_any ev _ es [] w he (Ints.nil w))
  have HF2 := Lib.hid (few_any cv _ c [] w hc (Ints.nil w))
  have P1 := Lib.hid (Levels_any ev es w he)
  have P2 := Lib.hid (fun w' (u : Upd NoB w w') => rLevels_any ev es w' (he.later u))
  have P3 := Lib.hid (fun w' (u : Upd NoB w w') => Blocks_any cv c w' (hc.later u))
  have P4 := Lib.hid (fun w' (u : Upd NoB w w') => rBlocks_any cv c w' (hc.later u))
  obtain ⟨ea, ec, rfl⟩ := he.form
  obtain ⟨ca, cc, rfl⟩ := hc.form
  cases hf : fewB es [] with
  | false =>
    rw [hf] at HF
    generalize es.length = L at *
    generalize c.length = M at *
    clear hc he hg P1 P2 P3 P4 HF2 hf
    go_enter Tryd.func10, Tryd.ntmps10
    go_wp2_with fail
    refine HF.out.mono ?_
    rintro e w1 ⟨rfl, rfl⟩
    go_wp2_with fail
    refine (awake_en _ HG.out).mono ?_
    rintro e w2 ⟨rfl, u2⟩
    have U2 := Lib.hid u2
    clear u2
    go_wp2_with fail
    go_ret
    exact ⟨rfl, U2.out⟩
  | true =>
    rw [hf] at HF
    cases hf2 : fewB c [] with
    | false =>
      rw [hf2] at HF2
      generalize es.length = L at *
      generalize c.length = M at *
      clear hc he hg P1 P2 P3 P4 hf hf2
      go_enter Tryd.func10, Tryd.ntmps10
      go_wp2_with fail
      refine HF.out.mono ?_
      rintro e w1 ⟨rfl, rfl⟩
      go_wp2_with fail
      refine HF2.out.mono ?_
      rintro e w1 ⟨rfl, rfl⟩
      go_wp2_with fail
      refine (awake_en _ HG.out).mono ?_
      rintro e w2 ⟨rfl, u2⟩
      have U2 := Lib.hid u2
      clear u2
      go_wp2_with fail
      go_ret
      exact ⟨rfl, U2.out⟩
    | true =>
      rw [hf2] at HF2
      have hle := lv_le es
      have hle2 := bl_le c
      obtain ⟨A, hA⟩ : ∃ A, lvS es = A := ⟨_, rfl⟩
      obtain ⟨T, hT⟩ : ∃ T, blS c = T := ⟨_, rfl⟩
      obtain ⟨E, hE⟩ : ∃ E, lvE es = E := ⟨_, rfl⟩
      obtain ⟨D, hD⟩ : ∃ D, blE c = D := ⟨_, rfl⟩
      rw [hA, hE] at P1 P2
      rw [hT, hD] at P3 P4
      rw [hA] at hle
      rw [hT] at hle2
      obtain ⟨AL, hAL⟩ : ∃ AL, A.length = AL := ⟨_, rfl⟩
      obtain ⟨TL, hTL⟩ : ∃ TL, T.length = TL := ⟨_, rfl⟩
      have hEE : (E == E) = true := by simp
      have hDD : (D == D) = true := by simp
      generalize es.length = L at *
      generalize c.length = M at *
      clear hc he hg hf hf2 hA hE hT hD
      go_enter Tryd.func10, Tryd.ntmps10
      go_wp2_with fail
      refine HF.out.mono ?_
      rintro e w1 ⟨rfl, rfl⟩
      go_wp2_with fail
      refine HF2.out.mono ?_
      rintro e w1 ⟨rfl, rfl⟩
      go_wp2_with fail
      refine (P1.out).mono ?_
      intro e w1 hr
      obtain ⟨a1, c1, rfl, i1, u1⟩ := EInts.open hr hle
      clear hr
      rw [hAL] at i1 ⊢
      have I1 := Lib.hid i1; have U1 := Lib.hid (u1)
      clear i1 u1
      go_wp2_with fail
      refine (P2.out _ U1.out).mono ?_
      intro e w2 hr
      obtain ⟨a2, c2, rfl, i2, u2⟩ := EInts.open hr hle
      clear hr
      rw [hAL] at i2 ⊢
      have I2 := Lib.hid i2; have U2 := Lib.hid (U1.out.then u2)
      have J2 := Lib.hid (I1.out.later u2)
      clear i2 u2
      go_wp2_with fail
      refine (P3.out _ U2.out).mono ?_
      intro e w5 hr
      obtain ⟨a5, c5, rfl, i5, u5⟩ := EInts.open hr hle2
      clear hr
      rw [hTL] at i5 ⊢
      have I5 := Lib.hid i5; have U5 := Lib.hid (U2.out.then u5)
      have J5 := Lib.hid (J2.out.later u5)
      have K5 := Lib.hid (I2.out.later u5)
      clear i5 u5
      go_wp2_with fail
      refine (P4.out _ U5.out).mono ?_
      intro e w6 hr
      obtain ⟨a6, c6, rfl, i6, u6⟩ := EInts.open hr hle2
      clear hr
      rw [hTL] at i6 ⊢
      have I6 := Lib.hid i6; have U6 := Lib.hid (U5.out.then u6)
      have J6 := Lib.hid (J5.out.later u6)
      have K6 := Lib.hid (K5.out.later u6)
      have L6 := Lib.hid (I5.out.later u6)
      clear i6 u6
      go_wp2_with fail
      refine (qints_any _ _ A A _ J6.out K6.out).mono ?_
      rw [intsB_self]
      rintro e w7 ⟨rfl, m7, hw7⟩
      have u7 : Upd NoB w6 w7 := by rw [hw7]; exact upd_drewN (Upd.refl _ _) _
      have U7 := Lib.hid (U6.out.then u7); have J7 := Lib.hid (L6.out.later u7); have K7 := Lib.hid (I6.out.later u7)
      clear hw7 u7
      go_wp2_with fail
      refine (qints_any _ _ T T _ J7.out K7.out).mono ?_
      rw [intsB_self]
      rintro e w8 ⟨rfl, m8, hw8⟩
      have U8 := Lib.hid (show Upd NoB w w8 by rw [hw8]; exact upd_drewN U7.out _)
      clear hw8
      go_wp2_with fail
      refine (awake_en _ (HG.out.later U8.out)).mono ?_
      rintro e w9 ⟨rfl, u9⟩
      have U9 := Lib.hid (U8.out.then u9)
      clear u9
      go_wp2_with fail
      go_ret
      exact ⟨rfl, U9.out⟩
end Go.Proofs.YtgdndcbcdoogpaaDoor
