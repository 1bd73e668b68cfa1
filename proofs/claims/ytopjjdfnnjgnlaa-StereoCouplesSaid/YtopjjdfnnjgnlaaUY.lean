/- stereo: the law Couples -/
import Derived.Test.YtopjjdfnnjgnlaaUYa
namespace Go.Proofs.Ytopjjdfnnjgnlaa
open Go.RowKit Go.Shelf

set_option maxRecDepth 100000 in
set_option maxHeartbeats 8000000 in
theorem couples_st (lv rv wv mv : Value) (l r ws : List Int) (mid : List Bool) (w : World) (hl : Ints w lv l) (hr : Ints w rv r) (hw : Ints w wv ws) (hm : Bls w mv mid) : Calls Try.prog 4 #[.agg #[lv, rv], wv, mv] w fun e w' => e = .returned (.bool true) ∧ Upd NoB w w' := by
  have HL := Lib.hid hl; have HR := Lib.hid hr; have HW := Lib.hid hw; have HM := Lib.hid hm
  have P1 := Lib.hid (fun Z (h1 : Ints Z lv l) (h2 : Ints Z rv r) (h3 : Ints Z wv ws) (h4 : Bls Z mv mid) => Couple_any lv rv wv mv l r ws mid Z h1 h2 h3 h4)
  have P2 := Lib.hid (fun Z (h1 : Ints Z lv l) (h2 : Ints Z rv r) (h3 : Ints Z wv ws) (h4 : Bls Z mv mid) => rCouple_any lv rv wv mv l r ws mid Z h1 h2 h3 h4)
  have P3 := Lib.hid (fun Z (h1 : Ints Z lv l) (h2 : Ints Z rv r) (h3 : Ints Z wv ws) (h4 : Bls Z mv mid) => Part_any lv rv wv mv l r ws mid Z h1 h2 h3 h4)
  have P4 := Lib.hid (fun Z (h1 : Ints Z lv l) (h2 : Ints Z rv r) (h3 : Ints Z wv ws) (h4 : Bls Z mv mid) => rPart_any lv rv wv mv l r ws mid Z h1 h2 h3 h4)
  have A9 := Lib.hid (couA_le midP 2097152 l r ws mid); have B9 := Lib.hid (couB_le midP 2097152 l r ws mid)
  have C9 := Lib.hid (couA_le sidP 8388608 l r ws mid); have D9 := Lib.hid (couB_le sidP 8388608 l r ws mid)
  obtain ⟨la, lc, rfl⟩ := hl.form
  obtain ⟨ra, rc, rfl⟩ := hr.form
  obtain ⟨wa, wc, rfl⟩ := hw.form
  obtain ⟨ma, mc, rfl⟩ := hm.form
  generalize l.length = L at *
  generalize r.length = R at *
  generalize ws.length = N at *
  generalize mid.length = K at *
  generalize couA midP 2097152 l r ws mid = A at *
  generalize couB midP 2097152 l r ws mid = B at *
  generalize couA sidP 8388608 l r ws mid = C at *
  generalize couB sidP 8388608 l r ws mid = D at *
  generalize cpE l r ws mid 2097152 = E at *
  generalize cpE l r ws mid 8388608 = G at *
  have HF := Lib.hid (fun Z => few_any la ra wa ma L R N K lc rc wc mc Z)
  have hEE : (E == E) = true := by simp
  have hGG : (G == G) = true := by simp
  clear hl hr hw hm
  cases hf : fewB L R N K with
  | false =>
    rw [hf] at HF
    clear hf P1 P2 P3 P4
    go_enter Try.func4, Try.ntmps4
    have d0 := cell_of_block0 (heap_alloc_new w (.cells #[.slice la L lc, .slice ra R rc] 24))
    have d1 := cell_of_block1 (heap_alloc_new w (.cells #[.slice la L lc, .slice ra R rc] 24))
    have HC := Lib.hid (fun Z (u : Upd NoB (w.alloc (.cells #[.slice la L lc, .slice ra R rc] 24)) Z) => And.intro (u.cell d0 (noB _)) (u.cell d1 (noB _)))
    have b0 : Upd NoB w (w.alloc (.cells #[.slice la L lc, .slice ra R rc] 24)) := (Upd.refl _ _).alloc _
    have B0 := Lib.hid b0
    clear d0 d1 b0
    obtain ⟨d0, d1⟩ := HC.out _ (Upd.refl NoB (w.alloc (.cells #[.slice la L lc, .slice ra R rc] 24)))
    go_wp2_with fail
    clear d0 d1
    refine (HF.out _).mono ?_
    rintro e w1 ⟨rfl, u1⟩
    have UU1 := Lib.hid ((Upd.refl NoB (w.alloc (.cells #[.slice la L lc, .slice ra R rc] 24))).then u1)
    clear u1
    go_wp2_with fail
    refine (awake_st _).mono ?_
    rintro e w2 ⟨rfl, u2⟩
    have UU2 := Lib.hid (UU1.out.then u2)
    clear UU1
    clear u2
    go_wp2_with fail
    go_ret
    exact ⟨rfl, B0.out.then UU2.out⟩
  | true =>
    rw [hf] at HF
    clear hf
    go_enter Try.func4, Try.ntmps4
    have d0 := cell_of_block0 (heap_alloc_new w (.cells #[.slice la L lc, .slice ra R rc] 24))
    have d1 := cell_of_block1 (heap_alloc_new w (.cells #[.slice la L lc, .slice ra R rc] 24))
    have HC := Lib.hid (fun Z (u : Upd NoB (w.alloc (.cells #[.slice la L lc, .slice ra R rc] 24)) Z) => And.intro (u.cell d0 (noB _)) (u.cell d1 (noB _)))
    have b0 : Upd NoB w (w.alloc (.cells #[.slice la L lc, .slice ra R rc] 24)) := (Upd.refl _ _).alloc _
    have B0 := Lib.hid b0
    have HL0 := Lib.hid (HL.out.later b0)
    clear HL
    have HR0 := Lib.hid (HR.out.later b0)
    clear HR
    have HW0 := Lib.hid (HW.out.later b0)
    clear HW
    have HM0 := Lib.hid (HM.out.later b0)
    clear HM
    clear d0 d1 b0
    obtain ⟨d0, d1⟩ := HC.out _ (Upd.refl NoB (w.alloc (.cells #[.slice la L lc, .slice ra R rc] 24)))
    go_wp2_with fail
    clear d0 d1
    refine (HF.out _).mono ?_
    rintro e w1 ⟨rfl, u1⟩
    have HL1 := Lib.hid (HL0.out.later u1)
    clear HL0
    have HR1 := Lib.hid (HR0.out.later u1)
    clear HR0
    have HW1 := Lib.hid (HW0.out.later u1)
    clear HW0
    have HM1 := Lib.hid (HM0.out.later u1)
    clear HM0
    have UU1 := Lib.hid ((Upd.refl NoB (w.alloc (.cells #[.slice la L lc, .slice ra R rc] 24))).then u1)
    clear u1
    obtain ⟨d0, d1⟩ := HC.out _ UU1.out
    go_wp2_with fail
    clear d0 d1
    refine (P1.out _ HL1.out HR1.out HW1.out HM1.out).mono ?_
    intro e w2 hr
    obtain ⟨a2, c2, b2, d2, rfl, i2, j2, u2⟩ := ETwo.open hr A9.out B9.out
    have HL2 := Lib.hid (HL1.out.later u2)
    clear HL1
    have HR2 := Lib.hid (HR1.out.later u2)
    clear HR1
    have HW2 := Lib.hid (HW1.out.later u2)
    clear HW1
    have HM2 := Lib.hid (HM1.out.later u2)
    clear HM1
    have UU2 := Lib.hid (UU1.out.then u2)
    clear UU1
    have X0v2 := Lib.hid (i2)
    have Y0v2 := Lib.hid (j2)
    clear u2
    clear hr i2 j2 P1
    obtain ⟨AN, hAN⟩ : ∃ n, A.length = n := ⟨_, rfl⟩
    have HAN := Lib.hid hAN
    rw [hAN] at X0v2 ⊢
    clear hAN
    obtain ⟨BN, hBN⟩ : ∃ n, B.length = n := ⟨_, rfl⟩
    have HBN := Lib.hid hBN
    rw [hBN] at Y0v2 ⊢
    clear hBN
    obtain ⟨d0, d1⟩ := HC.out _ UU2.out
    go_wp2_with fail
    clear d0 d1
    refine (P2.out _ HL2.out HR2.out HW2.out HM2.out).mono ?_
    intro e w3 hr
    obtain ⟨a3, c3, b3, d3, rfl, i3, j3, u3⟩ := ETwo.open hr A9.out B9.out
    have HL3 := Lib.hid (HL2.out.later u3)
    clear HL2
    have HR3 := Lib.hid (HR2.out.later u3)
    clear HR2
    have HW3 := Lib.hid (HW2.out.later u3)
    clear HW2
    have HM3 := Lib.hid (HM2.out.later u3)
    clear HM2
    have X0v3 := Lib.hid (X0v2.out.later u3)
    clear X0v2
    have Y0v3 := Lib.hid (Y0v2.out.later u3)
    clear Y0v2
    have UU3 := Lib.hid (UU2.out.then u3)
    clear UU2
    have X1v3 := Lib.hid (i3)
    have Y1v3 := Lib.hid (j3)
    clear u3
    clear hr i3 j3 P2
    rw [HAN.out] at X1v3 ⊢
    rw [HBN.out] at Y1v3 ⊢
    obtain ⟨d0, d1⟩ := HC.out _ UU3.out
    go_wp2_with fail
    clear d0 d1
    refine (P3.out _ HL3.out HR3.out HW3.out HM3.out).mono ?_
    intro e w4 hr
    obtain ⟨a4, c4, b4, d4, rfl, i4, j4, u4⟩ := ETwo.open hr C9.out D9.out
    have HL4 := Lib.hid (HL3.out.later u4)
    clear HL3
    have HR4 := Lib.hid (HR3.out.later u4)
    clear HR3
    have HW4 := Lib.hid (HW3.out.later u4)
    clear HW3
    have HM4 := Lib.hid (HM3.out.later u4)
    clear HM3
    have X0v4 := Lib.hid (X0v3.out.later u4)
    clear X0v3
    have Y0v4 := Lib.hid (Y0v3.out.later u4)
    clear Y0v3
    have X1v4 := Lib.hid (X1v3.out.later u4)
    clear X1v3
    have Y1v4 := Lib.hid (Y1v3.out.later u4)
    clear Y1v3
    have UU4 := Lib.hid (UU3.out.then u4)
    clear UU3
    have X2v4 := Lib.hid (i4)
    have Y2v4 := Lib.hid (j4)
    clear u4
    clear hr i4 j4 P3
    obtain ⟨CN, hCN⟩ : ∃ n, C.length = n := ⟨_, rfl⟩
    have HCN := Lib.hid hCN
    rw [hCN] at X2v4 ⊢
    clear hCN
    obtain ⟨DN, hDN⟩ : ∃ n, D.length = n := ⟨_, rfl⟩
    have HDN := Lib.hid hDN
    rw [hDN] at Y2v4 ⊢
    clear hDN
    obtain ⟨d0, d1⟩ := HC.out _ UU4.out
    go_wp2_with fail
    clear d0 d1
    refine (P4.out _ HL4.out HR4.out HW4.out HM4.out).mono ?_
    intro e w5 hr
    obtain ⟨a5, c5, b5, d5, rfl, i5, j5, u5⟩ := ETwo.open hr C9.out D9.out
    clear HL4
    clear HR4
    clear HW4
    clear HM4
    have X0v5 := Lib.hid (X0v4.out.later u5)
    clear X0v4
    have Y0v5 := Lib.hid (Y0v4.out.later u5)
    clear Y0v4
    have X1v5 := Lib.hid (X1v4.out.later u5)
    clear X1v4
    have Y1v5 := Lib.hid (Y1v4.out.later u5)
    clear Y1v4
    have X2v5 := Lib.hid (X2v4.out.later u5)
    clear X2v4
    have Y2v5 := Lib.hid (Y2v4.out.later u5)
    clear Y2v4
    have UU5 := Lib.hid (UU4.out.then u5)
    clear UU4
    have X3v5 := Lib.hid (i5)
    have Y3v5 := Lib.hid (j5)
    clear u5
    clear hr i5 j5 P4
    rw [HCN.out] at X3v5 ⊢
    rw [HDN.out] at Y3v5 ⊢
    go_wp2_with fail
    refine (qints_any _ _ A A _ X0v5.out X1v5.out).mono ?_
    rw [intsB_self]
    rintro e w6 ⟨rfl, m6, hw6⟩
    have u6 : Upd NoB w5 w6 := by rw [hw6]; exact upd_drewN (Upd.refl _ _) _
    clear X0v5
    have Y0v6 := Lib.hid (Y0v5.out.later u6)
    clear Y0v5
    clear X1v5
    have Y1v6 := Lib.hid (Y1v5.out.later u6)
    clear Y1v5
    have X2v6 := Lib.hid (X2v5.out.later u6)
    clear X2v5
    have Y2v6 := Lib.hid (Y2v5.out.later u6)
    clear Y2v5
    have X3v6 := Lib.hid (X3v5.out.later u6)
    clear X3v5
    have Y3v6 := Lib.hid (Y3v5.out.later u6)
    clear Y3v5
    have UU6 := Lib.hid (UU5.out.then u6)
    clear UU5
    clear u6 hw6
    go_wp2_with fail
    refine (qints_any _ _ B B _ Y0v6.out Y1v6.out).mono ?_
    rw [intsB_self]
    rintro e w7 ⟨rfl, m7, hw7⟩
    have u7 : Upd NoB w6 w7 := by rw [hw7]; exact upd_drewN (Upd.refl _ _) _
    clear Y0v6
    clear Y1v6
    have X2v7 := Lib.hid (X2v6.out.later u7)
    clear X2v6
    have Y2v7 := Lib.hid (Y2v6.out.later u7)
    clear Y2v6
    have X3v7 := Lib.hid (X3v6.out.later u7)
    clear X3v6
    have Y3v7 := Lib.hid (Y3v6.out.later u7)
    clear Y3v6
    have UU7 := Lib.hid (UU6.out.then u7)
    clear UU6
    clear u7 hw7
    go_wp2_with fail
    refine (qints_any _ _ C C _ X2v7.out X3v7.out).mono ?_
    rw [intsB_self]
    rintro e w8 ⟨rfl, m8, hw8⟩
    have u8 : Upd NoB w7 w8 := by rw [hw8]; exact upd_drewN (Upd.refl _ _) _
    clear X2v7
    have Y2v8 := Lib.hid (Y2v7.out.later u8)
    clear Y2v7
    clear X3v7
    have Y3v8 := Lib.hid (Y3v7.out.later u8)
    clear Y3v7
    have UU8 := Lib.hid (UU7.out.then u8)
    clear UU7
    clear u8 hw8
    go_wp2_with fail
    refine (qints_any _ _ D D _ Y2v8.out Y3v8.out).mono ?_
    rw [intsB_self]
    rintro e w9 ⟨rfl, m9, hw9⟩
    have u9 : Upd NoB w8 w9 := by rw [hw9]; exact upd_drewN (Upd.refl _ _) _
    clear Y2v8
    clear Y3v8
    have UU9 := Lib.hid (UU8.out.then u9)
    clear UU8
    clear u9 hw9
    go_wp2_with fail
    refine (awake_st _).mono ?_
    rintro e w10 ⟨rfl, u10⟩
    have UU10 := Lib.hid (UU9.out.then u10)
    clear UU9
    clear u10
    go_wp2_with fail
    go_ret
    exact ⟨rfl, B0.out.then UU10.out⟩
end Go.Proofs.Ytopjjdfnnjgnlaa
