/- stereo: the law's few; the law Undone -/
import Derived.Test.YtopjjdfnnjgnlaaUQ
namespace Go.Proofs.Ytopjjdfnnjgnlaa
open Go.RowKit Go.Shelf

def fewB (L R N M : Nat) : Bool := decide (L ≤ 300 ∧ R ≤ 300 ∧ N ≤ 200 ∧ M ≤ 200)
set_option maxRecDepth 100000 in
set_option maxHeartbeats 4000000 in
theorem few_any (la ra wa ma : Option Addr) (L R N M lc rc wc mc : Nat) (w : World) : Calls Try.prog 16 #[.agg #[.slice la L lc, .slice ra R rc], .slice wa N wc, .slice ma M mc] w fun e w' => e = .returned (.bool (fewB L R N M)) ∧ Upd NoB w w' := by
  have d0 := cell_of_block0 (heap_alloc_new w (.cells #[.slice la L lc, .slice ra R rc] 24))
  have d1 := cell_of_block1 (heap_alloc_new w (.cells #[.slice la L lc, .slice ra R rc] 24))
  have B0 := Lib.hid (show Upd NoB w (w.alloc (.cells #[.slice la L lc, .slice ra R rc] 24)) from (Upd.refl _ _).alloc _)
  by_cases h0 : L ≤ 300
  rotate_left
  · have t0 : decide ((L : Int) ≤ 300) = false := decide_eq_false (by omega)
    have HF := Lib.hid (show fewB L R N M = false from decide_eq_false (fun h => by omega))
    clear h0
    go_enter Try.func16, Try.ntmps16
    go_wp2_with fail
    go_ret
    exact ⟨by rw [HF.out]; rfl, B0.out⟩
  have t0 : decide ((L : Int) ≤ 300) = true := decide_eq_true (by omega)
  by_cases h1 : R ≤ 300
  rotate_left
  · have t1 : decide ((R : Int) ≤ 300) = false := decide_eq_false (by omega)
    have HF := Lib.hid (show fewB L R N M = false from decide_eq_false (fun h => by omega))
    clear h0 h1
    go_enter Try.func16, Try.ntmps16
    go_wp2_with fail
    go_ret
    exact ⟨by rw [HF.out]; rfl, B0.out⟩
  have t1 : decide ((R : Int) ≤ 300) = true := decide_eq_true (by omega)
  by_cases h2 : N ≤ 200
  rotate_left
  · have t2 : decide ((N : Int) ≤ 200) = false := decide_eq_false (by omega)
    have HF := Lib.hid (show fewB L R N M = false from decide_eq_false (fun h => by omega))
    clear h0 h1 h2
    go_enter Try.func16, Try.ntmps16
    go_wp2_with fail
    go_ret
    exact ⟨by rw [HF.out]; rfl, B0.out⟩
  have t2 : decide ((N : Int) ≤ 200) = true := decide_eq_true (by omega)
  by_cases h3 : M ≤ 200
  rotate_left
  · have t3 : decide ((M : Int) ≤ 200) = false := decide_eq_false (by omega)
    have HF := Lib.hid (show fewB L R N M = false from decide_eq_false (fun h => by omega))
    clear h0 h1 h2 h3
    go_enter Try.func16, Try.ntmps16
    go_wp2_with fail
    go_ret
    exact ⟨by rw [HF.out]; rfl, B0.out⟩
  have t3 : decide ((M : Int) ≤ 200) = true := decide_eq_true (by omega)
  have HF := Lib.hid (show fewB L R N M = true from decide_eq_true (by omega))
  clear h0 h1 h2 h3
  go_enter Try.func16, Try.ntmps16
  go_wp2_with fail
  go_ret
  exact ⟨by rw [HF.out]; rfl, B0.out⟩
theorem ETwo.nil {w w' : World} {E : Int} {e : Ending} (h : ETwo w [] [] E e w') : ∃ a c b d, e = .returned (.tuple #[.slice a 0 c, .slice b 0 d, .int .i64 E]) ∧ Upd NoB w w' := by
  obtain ⟨a, c, b, d, h1, _, _, h4⟩ := h.open (by decide) (by decide)
  exact ⟨a, c, b, d, h1, h4⟩
theorem EInts.nil {w w' : World} {E : Int} {e : Ending} (h : EInts w [] E e w') : ∃ a c, e = .returned (.tuple #[.slice a 0 c, .int .i64 E]) ∧ Upd NoB w w' := by
  obtain ⟨a, c, h1, _, h4⟩ := h.open (by decide)
  exact ⟨a, c, h1, h4⟩
theorem cpA_get {tn : Int × Int → Int × Int} {l r ws : List Int} {mid : List Bool} {i : Nat} (h : i < 128) : P2 (cpA tn l r ws mid 128) (cpB tn l r ws mid 128) i = cpP tn l r ws mid i := by
  unfold P2 cpA cpB
  rw [List.getD_eq_getElem?_getD, List.getD_eq_getElem?_getD, rmap_get _ h, rmap_get _ h]
  rfl
theorem cpP_in {M : Int} (hM : 2097152 ≤ M) {l r ws : List Int} {mid : List Bool} (h : cpE l r ws mid 2097152 = 0) (hM2 : 4194304 ≤ M) (i : Nat) : InP M (cpP midP l r ws mid i) := by
  obtain ⟨_, _, _, h4, h5⟩ := chE_ok (cpE_ok h).2
  have := P2_in (by decide) h4 h5 i
  unfold cpP
  split
  · exact (mid_in this).mono hM2
  · exact this.mono hM
theorem inM_map {M : Int} {f : Nat → Int} {n : Nat} (h : ∀ i, i < n → -M ≤ f i ∧ f i ≤ M) : inM M ((List.range n).map f) = true := inM_all fun x hx => by
  obtain ⟨i, hi, rfl⟩ := List.mem_map.1 hx
  exact h i (List.mem_range.1 hi)
theorem und {l r ws : List Int} {mid : List Bool} (h : cpE l r ws mid 2097152 = 0) : cpE (couA midP 2097152 l r ws mid) (couB midP 2097152 l r ws mid) ws mid 8388608 = 0 ∧
    couA sidP 8388608 (couA midP 2097152 l r ws mid) (couB midP 2097152 l r ws mid) ws mid = l ∧ couB sidP 8388608 (couA midP 2097152 l r ws mid) (couB midP 2097152 l r ws mid) ws mid = r := by
  obtain ⟨h1, h2, h3, _, _⟩ := chE_ok (cpE_ok h).2
  have eA : couA midP 2097152 l r ws mid = cpA midP l r ws mid 128 := if_pos h
  have eB : couB midP 2097152 l r ws mid = cpB midP l r ws mid 128 := if_pos h
  rw [eA, eB]
  have g : cpE (cpA midP l r ws mid 128) (cpB midP l r ws mid 128) ws mid 8388608 = 0 := cpE_of (cpE_ok h).1 (chE_of h1 (cpA_len _ _ _ _ _ _) (cpB_len _ _ _ _ _ _)
    (inM_map fun i _ => (cpP_in (M := 8388608) (by decide) h (by decide) i).1) (inM_map fun i _ => (cpP_in (M := 8388608) (by decide) h (by decide) i).2))
  have e : ∀ i, i < 128 → cpP sidP (cpA midP l r ws mid 128) (cpB midP l r ws mid 128) ws mid i = P2 l r i := by
    intro i hi
    show (if mid.getD (bix ws i) false then _ else _) = _
    rw [cpA_get hi]
    unfold cpP
    by_cases hb : mid.getD (bix ws i) false = true
    · rw [if_pos hb, if_pos hb, sid_mid]
    · rw [if_neg hb, if_neg hb]
  refine ⟨g, ?_, ?_⟩
  · rw [show couA sidP 8388608 _ _ ws mid = _ from if_pos g]
    exact rmap_ext h2 (fun i hi => by rw [e i hi]; rfl)
  · rw [show couB sidP 8388608 _ _ ws mid = _ from if_pos g]
    exact rmap_ext h3 (fun i hi => by rw [e i hi]; rfl)
theorem couA_le (tn : Int × Int → Int × Int) (M : Int) (l r ws : List Int) (mid : List Bool) : (couA tn M l r ws mid).length ≤ 1000000 := by
  unfold couA
  split
  · rw [cpA_len]; decide
  · decide
theorem couB_le (tn : Int × Int → Int × Int) (M : Int) (l r ws : List Int) (mid : List Bool) : (couB tn M l r ws mid).length ≤ 1000000 := by
  unfold couB
  split
  · rw [cpB_len]; decide
  · decide
set_option maxRecDepth 100000 in
set_option maxHeartbeats 8000000 in
theorem undone_st (lv rv wv mv : Value) (l r ws : List Int) (mid : List Bool) (w : World) (hl : Ints w lv l) (hr : Ints w rv r) (hw : Ints w wv ws) (hm : Bls w mv mid) : Calls Try.prog 5 #[.agg #[lv, rv], wv, mv] w fun e w' => e = .returned (.bool true) ∧ Upd NoB w w' := by
  have HL := Lib.hid hl; have HR := Lib.hid hr; have HW := Lib.hid hw; have HM := Lib.hid hm
  have HP := Lib.hid (fun Z (h1 : Ints Z lv l) (h2 : Ints Z rv r) (h3 : Ints Z wv ws) (h4 : Bls Z mv mid) => Couple_any lv rv wv mv l r ws mid Z h1 h2 h3 h4)
  have HQ := Lib.hid (fun (hE : cpE l r ws mid 2097152 = 0) Z v1 v2 (h1 : Ints Z v1 (couA midP 2097152 l r ws mid)) (h2 : Ints Z v2 (couB midP 2097152 l r ws mid)) (h3 : Ints Z wv ws) (h4 : Bls Z mv mid) => (show Calls Try.prog 28 #[v1, v2, wv, mv] Z (ETwo Z l r 0) by
    have := Part_any v1 v2 wv mv _ _ ws mid Z h1 h2 h3 h4
    rw [(und hE).1, (und hE).2.1, (und hE).2.2] at this
    exact this))
  have HA9 := Lib.hid (couA_le midP 2097152 l r ws mid); have HB9 := Lib.hid (couB_le midP 2097152 l r ws mid)
  have HEn := Lib.hid (fun hE : cpE l r ws mid 2097152 ≠ 0 => And.intro (show couA midP 2097152 l r ws mid = [] from if_neg hE) (show couB midP 2097152 l r ws mid = [] from if_neg hE))
  have HLE := Lib.hid (fun hE : cpE l r ws mid 2097152 = 0 => And.intro (chE_ok (cpE_ok hE).2).2.1 (chE_ok (cpE_ok hE).2).2.2.1)
  obtain ⟨la, lc, rfl⟩ := hl.form
  obtain ⟨ra, rc, rfl⟩ := hr.form
  obtain ⟨wa, wc, rfl⟩ := hw.form
  obtain ⟨ma, mc, rfl⟩ := hm.form
  obtain ⟨L, hL⟩ : ∃ L, l.length = L := ⟨_, rfl⟩
  obtain ⟨R, hR⟩ : ∃ R, r.length = R := ⟨_, rfl⟩
  have HLl := Lib.hid hL; have HRl := Lib.hid hR
  rw [hL, hR] at HP ⊢
  rw [hL] at HL
  rw [hR] at HR
  rw [hL, hR] at HLE
  generalize ws.length = N at *
  generalize mid.length = M at *
  obtain ⟨A, hA⟩ : ∃ A, couA midP 2097152 l r ws mid = A := ⟨_, rfl⟩
  obtain ⟨B, hB⟩ : ∃ B, couB midP 2097152 l r ws mid = B := ⟨_, rfl⟩
  obtain ⟨E, hE⟩ : ∃ E, cpE l r ws mid 2097152 = E := ⟨_, rfl⟩
  rw [hA, hB, hE] at HP HQ HEn
  rw [hE] at HLE
  rw [hA] at HA9
  rw [hB] at HB9
  have HF := Lib.hid (fun Z => few_any la ra wa ma L R N M lc rc wc mc Z)
  clear hl hr hw hm hL hR hA hB hE
  cases hf : fewB L R N M with
  | false =>
    rw [hf] at HF
    clear hf HP HQ HEn HA9 HB9 HLE
    go_enter Try.func5, Try.ntmps5
    have d0 := cell_of_block0 (heap_alloc_new w (.cells #[.slice la L lc, .slice ra R rc] 24))
    have d1 := cell_of_block1 (heap_alloc_new w (.cells #[.slice la L lc, .slice ra R rc] 24))
    have HC := Lib.hid (fun Z (u : Upd NoB (w.alloc (.cells #[.slice la L lc, .slice ra R rc] 24)) Z) => And.intro (u.cell d0 (noB _)) (u.cell d1 (noB _)))
    have b0 : Upd NoB w (w.alloc (.cells #[.slice la L lc, .slice ra R rc] 24)) := (Upd.refl _ _).alloc _
    have B0 := Lib.hid b0
    clear d0 d1 b0
    obtain ⟨d0, d1⟩ := HC.out _ (Upd.refl NoB (w.alloc (.cells #[.slice la L lc, .slice ra R rc] 24)))
    go_wp2_with fail
    clear d0 d1
    refine (HF.out _).mono ?_
    rintro e w1 ⟨rfl, u1⟩
    have UU1 := Lib.hid ((Upd.refl NoB (w.alloc (.cells #[.slice la L lc, .slice ra R rc] 24))).then u1)
    clear u1
    go_wp2_with fail
    refine (awake_st _).mono ?_
    rintro e w2 ⟨rfl, u2⟩
    have UU2 := Lib.hid (UU1.out.then u2)
    clear UU1
    clear u2
    go_wp2_with fail
    go_ret
    exact ⟨rfl, B0.out.then UU2.out⟩
  | true =>
    rw [hf] at HF
    clear hf
    by_cases hE : E = 0
    · subst hE
      have HQ1 := Lib.hid (HQ.out rfl)
      obtain ⟨h8, h9⟩ := HLE.out rfl
      have HL9 := Lib.hid (show L ≤ 1000000 by omega)
      have HR9 := Lib.hid (show R ≤ 1000000 by omega)
      clear HQ HEn HLE h8 h9
      go_enter Try.func5, Try.ntmps5
      have d0 := cell_of_block0 (heap_alloc_new w (.cells #[.slice la L lc, .slice ra R rc] 24))
      have d1 := cell_of_block1 (heap_alloc_new w (.cells #[.slice la L lc, .slice ra R rc] 24))
      have HC := Lib.hid (fun Z (u : Upd NoB (w.alloc (.cells #[.slice la L lc, .slice ra R rc] 24)) Z) => And.intro (u.cell d0 (noB _)) (u.cell d1 (noB _)))
      have b0 : Upd NoB w (w.alloc (.cells #[.slice la L lc, .slice ra R rc] 24)) := (Upd.refl _ _).alloc _
      have B0 := Lib.hid b0
      have HL0 := Lib.hid (HL.out.later b0)
      clear HL
      have HR0 := Lib.hid (HR.out.later b0)
      clear HR
      have HW0 := Lib.hid (HW.out.later b0)
      clear HW
      have HM0 := Lib.hid (HM.out.later b0)
      clear HM
      clear d0 d1 b0
      obtain ⟨d0, d1⟩ := HC.out _ (Upd.refl NoB (w.alloc (.cells #[.slice la L lc, .slice ra R rc] 24)))
      go_wp2_with fail
      clear d0 d1
      refine (HF.out _).mono ?_
      rintro e w1 ⟨rfl, u1⟩
      have HL1 := Lib.hid (HL0.out.later u1)
      clear HL0
      have HR1 := Lib.hid (HR0.out.later u1)
      clear HR0
      have HW1 := Lib.hid (HW0.out.later u1)
      clear HW0
      have HM1 := Lib.hid (HM0.out.later u1)
      clear HM0
      have UU1 := Lib.hid ((Upd.refl NoB (w.alloc (.cells #[.slice la L lc, .slice ra R rc] 24))).then u1)
      clear u1
      obtain ⟨d0, d1⟩ := HC.out _ UU1.out
      go_wp2_with fail
      clear d0 d1
      refine (HP.out _ HL1.out HR1.out HW1.out HM1.out).mono ?_
      intro e w2 hr
      obtain ⟨a2, c2, b2, d2, rfl, i2, j2, u2⟩ := ETwo.open hr HA9.out HB9.out
      have HL2 := Lib.hid (HL1.out.later u2)
      clear HL1
      have HR2 := Lib.hid (HR1.out.later u2)
      clear HR1
      have HW2 := Lib.hid (HW1.out.later u2)
      clear HW1
      have HM2 := Lib.hid (HM1.out.later u2)
      clear HM1
      have UU2 := Lib.hid (UU1.out.then u2)
      clear UU1
      have CA2 := Lib.hid (i2)
      have CB2 := Lib.hid (j2)
      clear u2
      clear hr i2 j2
      generalize A.length = AL at *
      generalize B.length = BL at *
      go_wp2_with fail
      refine (HQ1.out _ _ _ CA2.out CB2.out HW2.out HM2.out).mono ?_
      intro e w3 hr
      obtain ⟨a3, c3, b3, d3, rfl, i3, j3, u3⟩ := ETwo.open hr (by rw [HLl.out]; exact HL9.out) (by rw [HRl.out]; exact HR9.out)
      rw [HLl.out] at i3 ⊢
      rw [HRl.out] at j3 ⊢
      have HL3 := Lib.hid (HL2.out.later u3)
      clear HL2
      have HR3 := Lib.hid (HR2.out.later u3)
      clear HR2
      clear HW2
      clear HM2
      clear CA2
      clear CB2
      have UU3 := Lib.hid (UU2.out.then u3)
      clear UU2
      have QA3 := Lib.hid (i3)
      have QB3 := Lib.hid (j3)
      clear u3
      clear hr i3 j3
      obtain ⟨d0, d1⟩ := HC.out _ UU3.out
      go_wp2_with fail
      clear d0 d1
      refine (qints_any _ _ l l _ QA3.out HL3.out).mono ?_
      rw [intsB_self]
      rintro e w4 ⟨rfl, m4, hw4⟩
      have u4 : Upd NoB w3 w4 := by rw [hw4]; exact upd_drewN (Upd.refl _ _) _
      clear HL3
      have HR4 := Lib.hid (HR3.out.later u4)
      clear HR3
      clear QA3
      have QB4 := Lib.hid (QB3.out.later u4)
      clear QB3
      have UU4 := Lib.hid (UU3.out.then u4)
      clear UU3
      clear u4 hw4
      obtain ⟨d0, d1⟩ := HC.out _ UU4.out
      go_wp2_with fail
      clear d0 d1
      refine (qints_any _ _ r r _ QB4.out HR4.out).mono ?_
      rw [intsB_self]
      rintro e w5 ⟨rfl, m5, hw5⟩
      have u5 : Upd NoB w4 w5 := by rw [hw5]; exact upd_drewN (Upd.refl _ _) _
      clear HR4
      clear QB4
      have UU5 := Lib.hid (UU4.out.then u5)
      clear UU4
      clear u5 hw5
      go_wp2_with fail
      refine (awake_st _).mono ?_
      rintro e w6 ⟨rfl, u6⟩
      have UU6 := Lib.hid (UU5.out.then u6)
      clear UU5
      clear u6
      go_wp2_with fail
      go_ret
      exact ⟨rfl, B0.out.then UU6.out⟩
    · have t8 : (E != 0) = true := bne_iff_ne.2 hE
      have t9 : (E == 0) = false := beq_eq_false_iff_ne.2 hE
      obtain ⟨rfl, rfl⟩ := HEn.out hE
      clear hE HQ HEn HLE
      go_enter Try.func5, Try.ntmps5
      have d0 := cell_of_block0 (heap_alloc_new w (.cells #[.slice la L lc, .slice ra R rc] 24))
      have d1 := cell_of_block1 (heap_alloc_new w (.cells #[.slice la L lc, .slice ra R rc] 24))
      have HC := Lib.hid (fun Z (u : Upd NoB (w.alloc (.cells #[.slice la L lc, .slice ra R rc] 24)) Z) => And.intro (u.cell d0 (noB _)) (u.cell d1 (noB _)))
      have b0 : Upd NoB w (w.alloc (.cells #[.slice la L lc, .slice ra R rc] 24)) := (Upd.refl _ _).alloc _
      have B0 := Lib.hid b0
      have HL0 := Lib.hid (HL.out.later b0)
      clear HL
      have HR0 := Lib.hid (HR.out.later b0)
      clear HR
      have HW0 := Lib.hid (HW.out.later b0)
      clear HW
      have HM0 := Lib.hid (HM.out.later b0)
      clear HM
      clear d0 d1 b0
      obtain ⟨d0, d1⟩ := HC.out _ (Upd.refl NoB (w.alloc (.cells #[.slice la L lc, .slice ra R rc] 24)))
      go_wp2_with fail
      clear d0 d1
      refine (HF.out _).mono ?_
      rintro e w1 ⟨rfl, u1⟩
      have HL1 := Lib.hid (HL0.out.later u1)
      clear HL0
      have HR1 := Lib.hid (HR0.out.later u1)
      clear HR0
      have HW1 := Lib.hid (HW0.out.later u1)
      clear HW0
      have HM1 := Lib.hid (HM0.out.later u1)
      clear HM0
      have UU1 := Lib.hid ((Upd.refl NoB (w.alloc (.cells #[.slice la L lc, .slice ra R rc] 24))).then u1)
      clear u1
      obtain ⟨d0, d1⟩ := HC.out _ UU1.out
      go_wp2_with fail
      clear d0 d1
      refine (HP.out _ HL1.out HR1.out HW1.out HM1.out).mono ?_
      intro e w2 hr
      obtain ⟨a2, c2, b2, d2, rfl, u2⟩ := ETwo.nil hr
      clear HL1
      clear HR1
      clear HW1
      clear HM1
      have UU2 := Lib.hid (UU1.out.then u2)
      clear UU1
      clear u2
      clear hr
      go_wp2_with fail
      refine (awake_st _).mono ?_
      rintro e w3 ⟨rfl, u3⟩
      have UU3 := Lib.hid (UU2.out.then u3)
      clear UU2
      clear u3
      go_wp2_with fail
      go_ret
      exact ⟨rfl, B0.out.then UU3.out⟩
end Go.Proofs.Ytopjjdfnnjgnlaa
