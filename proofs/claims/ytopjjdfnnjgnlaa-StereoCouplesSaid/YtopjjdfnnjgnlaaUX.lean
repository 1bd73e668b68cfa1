/- stereo: the law Chooses -/
import Derived.Test.YtopjjdfnnjgnlaaUXb
namespace Go.Proofs.Ytopjjdfnnjgnlaa
open Go.RowKit Go.Shelf

theorem gnS_le (l r ws : List Int) : (gnS l r ws).length ≤ 1000000 := by
  unfold gnS
  split
  · rename_i h
    have := (isW_ok (chE_ok h).1).1
    rw [gnL_len]; omega
  · decide
theorem chS_le (l r ws : List Int) : (chS l r ws).length ≤ 1000000 := by
  unfold chS
  split
  · rename_i h
    have := (isW_ok (chE_ok h).1).1
    rw [posL_len, gnL_len]; omega
  · decide
set_option maxRecDepth 100000 in
set_option maxHeartbeats 8000000 in
theorem chooses_st (lv rv wv : Value) (l r ws : List Int) (w : World) (hl : Ints w lv l) (hr : Ints w rv r) (hw : Ints w wv ws) : Calls Try.prog 3 #[.agg #[lv, rv], wv] w fun e w' => e = .returned (.bool true) ∧ Upd NoB w w' := by
  have HL := Lib.hid hl; have HR := Lib.hid hr; have HW := Lib.hid hw
  have P1 := Lib.hid (fun Z (h1 : Ints Z lv l) (h2 : Ints Z rv r) (h3 : Ints Z wv ws) => Choose_any lv rv wv l r ws Z h1 h2 h3)
  have P2 := Lib.hid (fun Z (h1 : Ints Z lv l) (h2 : Ints Z rv r) (h3 : Ints Z wv ws) => rChoose_any lv rv wv l r ws Z h1 h2 h3)
  have P3 := Lib.hid (fun Z (h1 : Ints Z lv l) (h2 : Ints Z rv r) (h3 : Ints Z wv ws) => Gains_any lv rv wv l r ws Z h1 h2 h3)
  have P4 := Lib.hid (fun Z (h1 : Ints Z lv l) (h2 : Ints Z rv r) (h3 : Ints Z wv ws) => rGains_any lv rv wv l r ws Z h1 h2 h3)
  have P5 := Lib.hid (fun Z (h1 : Ints Z lv l) (h2 : Ints Z rv r) (h3 : Ints Z wv ws) => Cross_any lv rv wv l r ws Z h1 h2 h3)
  have P6 := Lib.hid (fun Z (h1 : Ints Z lv l) (h2 : Ints Z rv r) (h3 : Ints Z wv ws) => rCross_any lv rv wv l r ws Z h1 h2 h3)
  have L1 := Lib.hid (chS_le l r ws); have L3 := Lib.hid (gnS_le l r ws); have L5 := Lib.hid (crS_le l r ws)
  obtain ⟨la, lc, rfl⟩ := hl.form
  obtain ⟨ra, rc, rfl⟩ := hr.form
  obtain ⟨wa, wc, rfl⟩ := hw.form
  generalize l.length = L at *
  generalize r.length = R at *
  generalize ws.length = N at *
  generalize chS l r ws = C at *
  generalize gnS l r ws = G at *
  generalize crS l r ws = X at *
  generalize chE l r ws 2097152 = E at *
  have HF := Lib.hid (fun Z => few_any la ra wa none L R N 0 lc rc wc 0 Z)
  have hEE : (E == E) = true := by simp
  clear hl hr hw
  cases hf : fewB L R N 0 with
  | false =>
    rw [hf] at HF
    clear hf P1 P2 P3 P4 P5 P6
    go_enter Try.func3, Try.ntmps3
    have d0 := cell_of_block0 (heap_alloc_new w (.cells #[.slice la L lc, .slice ra R rc] 24))
    have d1 := cell_of_block1 (heap_alloc_new w (.cells #[.slice la L lc, .slice ra R rc] 24))
    have HC := Lib.hid (fun Z (u : Upd NoB (w.alloc (.cells #[.slice la L lc, .slice ra R rc] 24)) Z) => And.intro (u.cell d0 (noB _)) (u.cell d1 (noB _)))
    have b0 : Upd NoB w (w.alloc (.cells #[.slice la L lc, .slice ra R rc] 24)) := (Upd.refl _ _).alloc _
    have B0 := Lib.hid b0
    clear d0 d1 b0
    obtain ⟨d0, d1⟩ := HC.out _ (Upd.refl NoB (w.alloc (.cells #[.slice la L lc, .slice ra R rc] 24)))
    go_wp2_with fail
    clear d0 d1
    refine (HF.out _).mono ?_
    rintro e w1 ⟨rfl, u1⟩
    have UU1 := Lib.hid ((Upd.refl NoB (w.alloc (.cells #[.slice la L lc, .slice ra R rc] 24))).then u1)
    clear u1
    go_wp2_with fail
    refine (awake_st _).mono ?_
    rintro e w2 ⟨rfl, u2⟩
    have UU2 := Lib.hid (UU1.out.then u2)
    clear UU1
    clear u2
    go_wp2_with fail
    go_ret
    exact ⟨rfl, B0.out.then UU2.out⟩
  | true =>
    rw [hf] at HF
    clear hf
    go_enter Try.func3, Try.ntmps3
    have d0 := cell_of_block0 (heap_alloc_new w (.cells #[.slice la L lc, .slice ra R rc] 24))
    have d1 := cell_of_block1 (heap_alloc_new w (.cells #[.slice la L lc, .slice ra R rc] 24))
    have HC := Lib.hid (fun Z (u : Upd NoB (w.alloc (.cells #[.slice la L lc, .slice ra R rc] 24)) Z) => And.intro (u.cell d0 (noB _)) (u.cell d1 (noB _)))
    have b0 : Upd NoB w (w.alloc (.cells #[.slice la L lc, .slice ra R rc] 24)) := (Upd.refl _ _).alloc _
    have B0 := Lib.hid b0
    have HL0 := Lib.hid (HL.out.later b0)
    clear HL
    have HR0 := Lib.hid (HR.out.later b0)
    clear HR
    have HW0 := Lib.hid (HW.out.later b0)
    clear HW
    clear d0 d1 b0
    obtain ⟨d0, d1⟩ := HC.out _ (Upd.refl NoB (w.alloc (.cells #[.slice la L lc, .slice ra R rc] 24)))
    go_wp2_with fail
    clear d0 d1
    refine (HF.out _).mono ?_
    rintro e w1 ⟨rfl, u1⟩
    have HL1 := Lib.hid (HL0.out.later u1)
    clear HL0
    have HR1 := Lib.hid (HR0.out.later u1)
    clear HR0
    have HW1 := Lib.hid (HW0.out.later u1)
    clear HW0
    have UU1 := Lib.hid ((Upd.refl NoB (w.alloc (.cells #[.slice la L lc, .slice ra R rc] 24))).then u1)
    clear u1
    obtain ⟨d0, d1⟩ := HC.out _ UU1.out
    go_wp2_with fail
    clear d0 d1
    refine (P1.out _ HL1.out HR1.out HW1.out).mono ?_
    intro e w2 hr
    obtain ⟨a2, c2, rfl, i2, u2⟩ := EBls.open hr L1.out
    have HL2 := Lib.hid (HL1.out.later u2)
    clear HL1
    have HR2 := Lib.hid (HR1.out.later u2)
    clear HR1
    have HW2 := Lib.hid (HW1.out.later u2)
    clear HW1
    have UU2 := Lib.hid (UU1.out.then u2)
    clear UU1
    have CA2 := Lib.hid (i2)
    clear u2
    clear hr i2 P1
    obtain ⟨CN, hCN⟩ : ∃ n, C.length = n := ⟨_, rfl⟩
    have HCN := Lib.hid hCN
    rw [hCN] at CA2 ⊢
    clear hCN
    obtain ⟨d0, d1⟩ := HC.out _ UU2.out
    go_wp2_with fail
    clear d0 d1
    refine (P2.out _ HL2.out HR2.out HW2.out).mono ?_
    intro e w3 hr
    obtain ⟨a3, c3, rfl, i3, u3⟩ := EBls.open hr L1.out
    have HL3 := Lib.hid (HL2.out.later u3)
    clear HL2
    have HR3 := Lib.hid (HR2.out.later u3)
    clear HR2
    have HW3 := Lib.hid (HW2.out.later u3)
    clear HW2
    have CA3 := Lib.hid (CA2.out.later u3)
    clear CA2
    have UU3 := Lib.hid (UU2.out.then u3)
    clear UU2
    have CB3 := Lib.hid (i3)
    clear u3
    clear hr i3 P2
    rw [HCN.out] at CB3 ⊢
    obtain ⟨d0, d1⟩ := HC.out _ UU3.out
    go_wp2_with fail
    clear d0 d1
    refine (P3.out _ HL3.out HR3.out HW3.out).mono ?_
    intro e w4 hr
    obtain ⟨a4, c4, rfl, i4, u4⟩ := EInts.open hr L3.out
    have HL4 := Lib.hid (HL3.out.later u4)
    clear HL3
    have HR4 := Lib.hid (HR3.out.later u4)
    clear HR3
    have HW4 := Lib.hid (HW3.out.later u4)
    clear HW3
    have CA4 := Lib.hid (CA3.out.later u4)
    clear CA3
    have CB4 := Lib.hid (CB3.out.later u4)
    clear CB3
    have UU4 := Lib.hid (UU3.out.then u4)
    clear UU3
    have GA4 := Lib.hid (i4)
    clear u4
    clear hr i4 P3
    obtain ⟨GN, hGN⟩ : ∃ n, G.length = n := ⟨_, rfl⟩
    have HGN := Lib.hid hGN
    rw [hGN] at GA4 ⊢
    clear hGN
    obtain ⟨d0, d1⟩ := HC.out _ UU4.out
    go_wp2_with fail
    clear d0 d1
    refine (P4.out _ HL4.out HR4.out HW4.out).mono ?_
    intro e w5 hr
    obtain ⟨a5, c5, rfl, i5, u5⟩ := EInts.open hr L3.out
    have HL5 := Lib.hid (HL4.out.later u5)
    clear HL4
    have HR5 := Lib.hid (HR4.out.later u5)
    clear HR4
    have HW5 := Lib.hid (HW4.out.later u5)
    clear HW4
    have CA5 := Lib.hid (CA4.out.later u5)
    clear CA4
    have CB5 := Lib.hid (CB4.out.later u5)
    clear CB4
    have GA5 := Lib.hid (GA4.out.later u5)
    clear GA4
    have UU5 := Lib.hid (UU4.out.then u5)
    clear UU4
    have GB5 := Lib.hid (i5)
    clear u5
    clear hr i5 P4
    rw [HGN.out] at GB5 ⊢
    obtain ⟨d0, d1⟩ := HC.out _ UU5.out
    go_wp2_with fail
    clear d0 d1
    refine (P5.out _ HL5.out HR5.out HW5.out).mono ?_
    intro e w6 hr
    obtain ⟨a6, c6, rfl, i6, u6⟩ := EInts.open hr L5.out
    have HL6 := Lib.hid (HL5.out.later u6)
    clear HL5
    have HR6 := Lib.hid (HR5.out.later u6)
    clear HR5
    have HW6 := Lib.hid (HW5.out.later u6)
    clear HW5
    have CA6 := Lib.hid (CA5.out.later u6)
    clear CA5
    have CB6 := Lib.hid (CB5.out.later u6)
    clear CB5
    have GA6 := Lib.hid (GA5.out.later u6)
    clear GA5
    have GB6 := Lib.hid (GB5.out.later u6)
    clear GB5
    have UU6 := Lib.hid (UU5.out.then u6)
    clear UU5
    have XA6 := Lib.hid (i6)
    clear u6
    clear hr i6 P5
    obtain ⟨XN, hXN⟩ : ∃ n, X.length = n := ⟨_, rfl⟩
    have HXN := Lib.hid hXN
    rw [hXN] at XA6 ⊢
    clear hXN
    obtain ⟨d0, d1⟩ := HC.out _ UU6.out
    go_wp2_with fail
    clear d0 d1
    refine (P6.out _ HL6.out HR6.out HW6.out).mono ?_
    intro e w7 hr
    obtain ⟨a7, c7, rfl, i7, u7⟩ := EInts.open hr L5.out
    clear HL6
    clear HR6
    clear HW6
    have CA7 := Lib.hid (CA6.out.later u7)
    clear CA6
    have CB7 := Lib.hid (CB6.out.later u7)
    clear CB6
    have GA7 := Lib.hid (GA6.out.later u7)
    clear GA6
    have GB7 := Lib.hid (GB6.out.later u7)
    clear GB6
    have XA7 := Lib.hid (XA6.out.later u7)
    clear XA6
    have UU7 := Lib.hid (UU6.out.then u7)
    clear UU6
    have XB7 := Lib.hid (i7)
    clear u7
    clear hr i7 P6
    rw [HXN.out] at XB7 ⊢
    go_wp2_with fail
    refine (rBools_any _ _ C C _ CA7.out CB7.out).mono ?_
    rw [blsB_self]
    rintro e w8 ⟨rfl, m8, hw8⟩
    have u8 : Upd NoB w7 w8 := by rw [hw8]; exact upd_drewN (Upd.refl _ _) _
    clear CA7
    clear CB7
    have GA8 := Lib.hid (GA7.out.later u8)
    clear GA7
    have GB8 := Lib.hid (GB7.out.later u8)
    clear GB7
    have XA8 := Lib.hid (XA7.out.later u8)
    clear XA7
    have XB8 := Lib.hid (XB7.out.later u8)
    clear XB7
    have UU8 := Lib.hid (UU7.out.then u8)
    clear UU7
    clear u8 hw8
    go_wp2_with fail
    refine (qints_any _ _ G G _ GA8.out GB8.out).mono ?_
    rw [intsB_self]
    rintro e w9 ⟨rfl, m9, hw9⟩
    have u9 : Upd NoB w8 w9 := by rw [hw9]; exact upd_drewN (Upd.refl _ _) _
    clear GA8
    clear GB8
    have XA9 := Lib.hid (XA8.out.later u9)
    clear XA8
    have XB9 := Lib.hid (XB8.out.later u9)
    clear XB8
    have UU9 := Lib.hid (UU8.out.then u9)
    clear UU8
    clear u9 hw9
    go_wp2_with fail
    refine (qints_any _ _ X X _ XA9.out XB9.out).mono ?_
    rw [intsB_self]
    rintro e w10 ⟨rfl, m10, hw10⟩
    have u10 : Upd NoB w9 w10 := by rw [hw10]; exact upd_drewN (Upd.refl _ _) _
    clear XA9
    clear XB9
    have UU10 := Lib.hid (UU9.out.then u10)
    clear UU9
    clear u10 hw10
    go_wp2_with fail
    refine (awake_st _).mono ?_
    rintro e w11 ⟨rfl, u11⟩
    have UU11 := Lib.hid (UU10.out.then u11)
    clear UU10
    clear u11
    go_wp2_with fail
    go_ret
    exact ⟨rfl, B0.out.then UU11.out⟩
end Go.Proofs.Ytopjjdfnnjgnlaa
