/- block: the law that Of takes back Kinds, and of Layout and Laps -/
import Derived.Test.YtmkbpocibpjjaaaMH
import Derived.Deep.QuietTactic
import Derived.BigQuiet
namespace Go.Proofs.Ytmkbpocibpjjaaa
open Go.RowKit Go.Shelf

set_option maxRecDepth 100000 in
set_option maxHeartbeats 8000000 in
theorem back_law (v : Value) (fs : List Bool) (w : World) (h : Bls w v fs) :
    Calls Try.prog 8 #[v] w fun e w' => e = .returned (.bool true) ∧ Upd NoB w w' := by
  obtain ⟨a, cap, rfl⟩ := h.form
  have H := Lib.hid h
  obtain ⟨L, hL⟩ : ∃ L, fs.length = L := ⟨_, rfl⟩
  have HL := Lib.hid hL
  rw [hL] at H ⊢
  clear h hL
  by_cases h1 : 64 < L
  · have t1 : decide ((64 : Int) < (L : Int)) = true := decide_eq_true (by omega)
    clear h1
    go_enter Try.func8, Try.ntmps8
    go_wp2_with (go_at_call 11; refine (awake_any _).mono ?_; rintro e w' ⟨rfl, u9⟩; have U9 := Lib.hid u9; clear u9)
    go_ret
    exact ⟨rfl, U9.out⟩
  have t1 : decide ((64 : Int) < (L : Int)) = false := decide_eq_false (by omega)
  have hl : L ≤ 64 := by omega
  have hkE : knE fs = 0 := if_neg (by rw [HL.out]; exact h1)
  have hkS : knS fs = kds fs := if_neg (by rw [HL.out]; exact h1)
  have hoE := ofE_kds (fs := fs) (by rw [HL.out]; exact hl)
  have hoS := ofS_kds (fs := fs) (by rw [HL.out]; exact hl)
  have hlE : loE fs = 0 := if_neg (by rw [HL.out]; exact h1)
  have hlS : loS fs = loL fs fs.length := if_neg (by rw [HL.out]; exact h1)
  have hpE : laE fs = 0 := if_neg (by rw [HL.out]; exact h1)
  have hpS : laS fs = laL fs (L - 1) := by unfold laS; rw [if_neg (by rw [HL.out]; exact h1), HL.out]
  have HK := Lib.hid (Kinds_any (.slice a L cap) fs w H.out)
  have HO := Lib.hid (fun v' w' (h' : Ints w' v' (kds fs)) => Of_any v' (kds fs) w' h')
  have HLo := Lib.hid (fun w' (u : Upd NoB w w') => Layout_any (.slice a L cap) fs w' (H.out.later u))
  have HLa := Lib.hid (fun w' (u : Upd NoB w w') => Laps_any (.slice a L cap) fs w' (H.out.later u))
  rw [hkE, hkS] at HK
  rw [hoE, hoS] at HO
  rw [hlE, hlS] at HLo
  rw [hpE, hpS] at HLa
  have HIn := Lib.hid (loL_in fs fs.length)
  have hlen := loL_len fs fs.length
  have hsum : (loL fs fs.length).sum = 128 * (L : Int) := by have h1 := loL_sum (fs := fs) fs.length (Nat.le_refl _); have h2 := HL.out; omega
  have HGet := Lib.hid (fun (f r : Nat) (x : Bool) (hx : fs[f]? = some x) (hr : r < (loO x).length) => lo_get hx hr)
  have HLl := Lib.hid (laL_length fs (L - 1))
  have HLg := Lib.hid (fun (k : Nat) (hk : k < L - 1) => laL_get (fs := fs) hk)
  have HMn := Lib.hid (fun (f : Nat) (x y : Bool) (hx : fs[f]? = some x) (hy : fs[f + 1]? = some y) => lap_min hx hy)
  have HSc := Lib.hid (fun (k : Nat) (x : Bool) (hx : fs[k]? = some x) => show (loL fs (k + 1)).length = (loL fs k).length + (loO x).length by rw [loL_succ hx, List.length_append])
  have HLe := Lib.hid (fun f => show f ≤ L → (loL fs f).length ≤ (loL fs fs.length).length from fun hf => loL_mono (by rw [HL.out]; exact hf))
  have HL0 := Lib.hid (show (loL fs 0).length = 0 by rw [loL_zero]; rfl)
  have HEq := Lib.hid (show (loL fs L).length = (loL fs fs.length).length by rw [HL.out])
  have HKl := Lib.hid (show (kds fs).length = L by rw [kds_length, HL.out])
  obtain ⟨N, hN⟩ : ∃ N, (loL fs fs.length).length = N := ⟨_, rfl⟩
  have HN := Lib.hid hN
  rw [hN] at HLe hlen HEq
  rw [HL.out] at hlen
  have HLn := Lib.hid (fun f => show (loL fs f).length = (loL fs f).length from rfl)
  generalize loL fs fs.length = ls at *
  have hmax : max (0 : Int) ((L : Int) - 1) = ((L - 1 : Nat) : Int) := by omega
  obtain ⟨L1, hL1⟩ : ∃ L1, L - 1 = L1 := ⟨_, rfl⟩
  rw [hL1] at HLa HLl HLg hmax
  have HL1 := Lib.hid hL1
  generalize laL fs L1 = ps at *
  have HSum := Lib.hid hsum
  clear h1 hkE hkS hoE hoS hlE hlS hpE hpS hN hL1 hsum HLn
  go_enter Try.func8, Try.ntmps8
  go_wp2_with fail
  (with_reducible refine HK.out.mono ?_)
  rintro e w1 ⟨a1, n1, k1, rfl, r1, u1⟩
  obtain rfl := row_len r1
  have I1 := Lib.hid (Ints.ofRow r1 (by rw [HKl.out]; omega)); have U1 := Lib.hid u1
  clear r1 u1
  go_wp2_with fail
  (with_reducible refine (HO.out _ w1 I1.out).mono ?_)
  rintro e w2 ⟨a2, n2, k2, rfl, r2, u2⟩
  obtain rfl := row_len r2
  have B2 := Lib.hid (Bls.ofRow r2 (by rw [HL.out]; omega)); have U2 := Lib.hid (U1.out.then u2)
  clear r2 u2
  go_wp2_with fail
  (with_reducible refine (HLo.out w2 U2.out).mono ?_)
  rintro e w3 ⟨a3, n3, k3, rfl, r3, u3⟩
  obtain rfl := row_len r3
  have L3 := Lib.hid (Ints.ofRow r3 (by rw [HN.out]; omega)); have B3 := Lib.hid (B2.out.later u3); have U3 := Lib.hid (U2.out.then u3)
  clear r3 u3
  go_wp2_with fail
  (with_reducible refine (HLa.out w3 U3.out).mono ?_)
  rintro e w4 ⟨a4, n4, k4, rfl, r4, u4⟩
  obtain rfl := row_len r4
  have P4 := Lib.hid (Ints.ofRow r4 (by rw [HLl.out]; omega)); have L4 := Lib.hid (L3.out.later u4); have B4 := Lib.hid (B3.out.later u4); have U4 := Lib.hid (U3.out.then u4); have F4 := Lib.hid (H.out.later (U3.out.then u4))
  clear r4 u4
  rw [HL.out] at B4 ⊢
  rw [HN.out] at L4 ⊢
  rw [HLl.out] at P4 ⊢
  go_wp2_with fail
  refine (rBools_any _ _ fs fs w4 B4.out F4.out).mono ?_
  rw [blsB_self]
  rintro e w5 ⟨rfl, m5, rfl⟩
  have P5 := Lib.hid (P4.out.later (upd_drewN (Upd.refl NoB w4) m5)); have L5 := Lib.hid (L4.out.later (upd_drewN (Upd.refl NoB w4) m5)); have U5 := Lib.hid (upd_drewN U4.out m5)
  generalize w4.drewN m5 = w5 at *
  go_wp2_with fail
  refine (is_any _ ls w5 L5.out HIn.out (by rw [HN.out]; omega)).mono ?_
  rintro e w' ⟨rfl, rfl⟩
  go_wp2_with fail
  refine (sum_any _ ls w5 L5.out HIn.out (by rw [HN.out]; omega)).mono ?_
  rw [HSum.out]
  rintro e w' ⟨rfl, rfl⟩
  clear HK HO HLo HLa I1 U1 U2 U3 U4 L3 L4 B2 B3 B4 P4 F4 HSum HIn
  go_wp2_with fail
  go_loopw [11, 12] (fun t i wr => ∃ f r A j : Nat, i = .int .i64 j ∧ t = .int .i64 A ∧ A = 128 * f + 16 * r ∧ j = (loL fs f).length + r ∧ f ≤ L ∧ (r = 0 ∨ r < 8 ∧ fs[f]? = some true) ∧ j ≤ N ∧ Upd NoB w5 wr) (fun _ i _ => N - (intOf i).toNat)
  case atStart => exact ⟨0, 0, 0, 0, rfl, rfl, rfl, by rw [HL0.out], Nat.zero_le _, .inl rfl, Nat.zero_le _, Upd.refl _ _⟩
  case round =>
    obtain ⟨f, r, A, j, rfl, rfl, hA, hj, hf, hr, hjN, hu⟩ := hrel
    have HU := Lib.hid hu; clear hu
    have LX := Lib.hid (L5.out.later HU.out)
    have PX := Lib.hid (P5.out.later HU.out)
    by_cases hlt : j + 1 < N
    · have hfL : f < L := by
        rcases hr with h0 | ⟨_, h0⟩
        · by_cases e : f = L
          · subst e; have := HEq.out; omega
          · omega
        · have := (List.getElem?_eq_some_iff.1 h0).1; rw [HL.out] at this; exact this
      obtain ⟨x, hx⟩ : ∃ x, fs[f]? = some x := ⟨_, List.getElem?_eq_getElem (by rw [HL.out]; exact hfL)⟩
      have hsc := HSc.out f x hx
      have hT : decide ((j : Int) + 1 < (N : Int)) = true := decide_eq_true (by omega)
      cases x with
      | false =>
        have hr0 : r = 0 := by
          rcases hr with h0 | ⟨_, h0⟩
          · exact h0
          · rw [hx] at h0; cases h0
        subst hr0
        rw [show (loO false).length = 1 from rfl] at hsc
        have hf1 : f + 1 < L := by
          by_cases e : f + 1 = L
          · rw [e] at hsc; have := HEq.out; omega
          · omega
        have hxj := HGet.out f 0 false hx (by decide)
        rw [← hj] at hxj
        obtain ⟨y, hy⟩ : ∃ y, fs[f + 1]? = some y := ⟨_, List.getElem?_eq_getElem (by rw [HL.out]; exact hf1)⟩
        have hyj := HGet.out (f + 1) 0 y hy (by cases y <;> decide)
        rw [show (loL fs (f + 1)).length + 0 = j + 1 by omega] at hyj
        have hp := HLg.out f (by have := HL1.out; omega)
        rw [HMn.out f false y hx hy] at hp
        have hxj : ls[j]? = some 128 := hxj
        have hfL1 : f < L1 := by have := HL1.out; omega
        cases y with
        | false =>
          have hyj : ls[j + 1]? = some 128 := hyj
          have hp : ps[f]? = some 128 := hp
          have HRel := Lib.hid (show A + 128 = 128 * (f + 1) + 16 * 0 ∧ j + 1 = (loL fs (f + 1)).length + 0 ∧ f + 1 ≤ L from ⟨by omega, by omega, by omega⟩)
          obtain ⟨b, off, rfl, c0⟩ := LX.out.cellAt hxj
          obtain ⟨b', off', e, c1⟩ := LX.out.cellAt hyj
          cases e
          obtain ⟨pb, po, rfl, c2⟩ := PX.out.cellAt hp
          obtain ⟨Z, hZ⟩ : ∃ Z, A + 128 = Z := ⟨_, rfl⟩
          have hAZ : (A : Int) + 128 = (Z : Int) := by omega
          have HAZ := Lib.hid hAZ
          obtain ⟨q, hq⟩ : ∃ q, f + 1 = q := ⟨_, rfl⟩
          have z0 : (Z : Int).tmod 128 = 0 := by rw [Int.tmod_eq_emod_of_nonneg (by omega)]; omega
          have z1 : (Z : Int).tdiv 128 = (q : Int) := by rw [Int.tdiv_eq_ediv_of_nonneg (by omega)]; omega
          have z0' : (Z : Int) % 128 = 0 := by omega
          have z1' : (Z : Int) / 128 = (q : Int) := by omega
          have z2 : IntKind.i64.wrap ((q : Int) - 1) = (f : Int) := by rw [show (q : Int) - 1 = (f : Int) by omega]; exact IntWalk.i64_in _ (by omega)
          have z3 : (f : Int) < (L1 : Int) := by omega
          have z9 : IntKind.i64.wrap (q : Int) = (q : Int) := IntWalk.i64_in _ (by omega)
          have z4 : IntKind.i64.wrap ((j : Int) + 1) = (j : Int) + 1 := IntWalk.i64_in _ (by omega)
          have z5 : (0 : Int) ≤ (j : Int) + 1 := by omega
          have z6 : (j : Int) + 1 < (N : Int) := by omega
          have z7 : ((j : Int) + 1).toNat = j + 1 := by omega
          have z8 : (j : Int) < (N : Int) := by omega
          have HJ := Lib.hid (show j + 1 ≤ N ∧ N - (j + 1) < N - j from ⟨by omega, by omega⟩)
          have hA1 : A ≤ 100000 := by omega
          clear hxj hyj hp hZ hq hA hj hf hr hsc hfL hx hy hjN hlt hf1
          go_wp2_with fail
          clear hAZ
          go_quiet (fail)
          go_wp2_with fail
          go_roundw
          case rel => exact ⟨f + 1, 0, Z, j + 1, by go_num, rfl, by have := HRel.out.1; have := HAZ.out; omega, HRel.out.2.1, HRel.out.2.2, .inl rfl, HJ.out.1, upd_drewN HU.out nq⟩
          case measure => have := HJ.out.2; simp [intOf]; omega
        | true =>
          have hyj : ls[j + 1]? = some 16 := hyj
          have hp : ps[f]? = some 16 := hp
          have HRel := Lib.hid (show A + 128 = 128 * (f + 1) + 16 * 0 ∧ j + 1 = (loL fs (f + 1)).length + 0 ∧ f + 1 ≤ L from ⟨by omega, by omega, by omega⟩)
          obtain ⟨b, off, rfl, c0⟩ := LX.out.cellAt hxj
          obtain ⟨b', off', e, c1⟩ := LX.out.cellAt hyj
          cases e
          obtain ⟨pb, po, rfl, c2⟩ := PX.out.cellAt hp
          obtain ⟨Z, hZ⟩ : ∃ Z, A + 128 = Z := ⟨_, rfl⟩
          have hAZ : (A : Int) + 128 = (Z : Int) := by omega
          have HAZ := Lib.hid hAZ
          obtain ⟨q, hq⟩ : ∃ q, f + 1 = q := ⟨_, rfl⟩
          have z0 : (Z : Int).tmod 128 = 0 := by rw [Int.tmod_eq_emod_of_nonneg (by omega)]; omega
          have z1 : (Z : Int).tdiv 128 = (q : Int) := by rw [Int.tdiv_eq_ediv_of_nonneg (by omega)]; omega
          have z0' : (Z : Int) % 128 = 0 := by omega
          have z1' : (Z : Int) / 128 = (q : Int) := by omega
          have z2 : IntKind.i64.wrap ((q : Int) - 1) = (f : Int) := by rw [show (q : Int) - 1 = (f : Int) by omega]; exact IntWalk.i64_in _ (by omega)
          have z3 : (f : Int) < (L1 : Int) := by omega
          have z9 : IntKind.i64.wrap (q : Int) = (q : Int) := IntWalk.i64_in _ (by omega)
          have z4 : IntKind.i64.wrap ((j : Int) + 1) = (j : Int) + 1 := IntWalk.i64_in _ (by omega)
          have z5 : (0 : Int) ≤ (j : Int) + 1 := by omega
          have z6 : (j : Int) + 1 < (N : Int) := by omega
          have z7 : ((j : Int) + 1).toNat = j + 1 := by omega
          have z8 : (j : Int) < (N : Int) := by omega
          have HJ := Lib.hid (show j + 1 ≤ N ∧ N - (j + 1) < N - j from ⟨by omega, by omega⟩)
          have hA1 : A ≤ 100000 := by omega
          clear hxj hyj hp hZ hq hA hj hf hr hsc hfL hx hy hjN hlt hf1
          go_wp2_with fail
          clear hAZ
          go_quiet (fail)
          go_wp2_with fail
          go_roundw
          case rel => exact ⟨f + 1, 0, Z, j + 1, by go_num, rfl, by have := HRel.out.1; have := HAZ.out; omega, HRel.out.2.1, HRel.out.2.2, .inl rfl, HJ.out.1, upd_drewN HU.out nq⟩
          case measure => have := HJ.out.2; simp [intOf]; omega
      | true =>
        rw [show (loO true).length = 8 from rfl] at hsc
        have hr8 : r < 8 := by omega
        have hxj := HGet.out f r true hx hr8
        rw [← hj] at hxj
        have hxj : ls[j]? = some 16 := by
          rw [hxj]
          show (List.replicate 8 (16 : Int))[r]? = some 16
          rw [List.getElem?_replicate, if_pos hr8]
        by_cases hr7 : r = 7
        · subst hr7
          have hf1 : f + 1 < L := by
            by_cases e : f + 1 = L
            · rw [e] at hsc; have := HEq.out; omega
            · omega
          obtain ⟨y, hy⟩ : ∃ y, fs[f + 1]? = some y := ⟨_, List.getElem?_eq_getElem (by rw [HL.out]; exact hf1)⟩
          have hyj := HGet.out (f + 1) 0 y hy (by cases y <;> decide)
          rw [show (loL fs (f + 1)).length + 0 = j + 1 by omega] at hyj
          have hp := HLg.out f (by have := HL1.out; omega)
          rw [HMn.out f true y hx hy] at hp
          have hfL1 : f < L1 := by have := HL1.out; omega
          cases y with
          | false =>
            have hyj : ls[j + 1]? = some 128 := hyj
            have hp : ps[f]? = some 16 := hp
            have HRel := Lib.hid (show A + 16 = 128 * (f + 1) + 16 * 0 ∧ j + 1 = (loL fs (f + 1)).length + 0 ∧ f + 1 ≤ L from ⟨by omega, by omega, by omega⟩)
            obtain ⟨b, off, rfl, c0⟩ := LX.out.cellAt hxj
            obtain ⟨b', off', e, c1⟩ := LX.out.cellAt hyj
            cases e
            obtain ⟨pb, po, rfl, c2⟩ := PX.out.cellAt hp
            obtain ⟨Z, hZ⟩ : ∃ Z, A + 16 = Z := ⟨_, rfl⟩
            have hAZ : (A : Int) + 16 = (Z : Int) := by omega
            have HAZ := Lib.hid hAZ
            obtain ⟨q, hq⟩ : ∃ q, f + 1 = q := ⟨_, rfl⟩
            have z0 : (Z : Int).tmod 128 = 0 := by rw [Int.tmod_eq_emod_of_nonneg (by omega)]; omega
            have z1 : (Z : Int).tdiv 128 = (q : Int) := by rw [Int.tdiv_eq_ediv_of_nonneg (by omega)]; omega
            have z0' : (Z : Int) % 128 = 0 := by omega
            have z1' : (Z : Int) / 128 = (q : Int) := by omega
            have z2 : IntKind.i64.wrap ((q : Int) - 1) = (f : Int) := by rw [show (q : Int) - 1 = (f : Int) by omega]; exact IntWalk.i64_in _ (by omega)
            have z3 : (f : Int) < (L1 : Int) := by omega
            have z9 : IntKind.i64.wrap (q : Int) = (q : Int) := IntWalk.i64_in _ (by omega)
            have z4 : IntKind.i64.wrap ((j : Int) + 1) = (j : Int) + 1 := IntWalk.i64_in _ (by omega)
            have z5 : (0 : Int) ≤ (j : Int) + 1 := by omega
            have z6 : (j : Int) + 1 < (N : Int) := by omega
            have z7 : ((j : Int) + 1).toNat = j + 1 := by omega
            have z8 : (j : Int) < (N : Int) := by omega
            have HJ := Lib.hid (show j + 1 ≤ N ∧ N - (j + 1) < N - j from ⟨by omega, by omega⟩)
            have hA1 : A ≤ 100000 := by omega
            clear hxj hyj hp hZ hq hA hj hf hr hsc hfL hx hy hjN hlt hf1
            go_wp2_with fail
            clear hAZ
            go_quiet (fail)
            go_wp2_with fail
            go_roundw
            case rel => exact ⟨f + 1, 0, Z, j + 1, by go_num, rfl, by have := HRel.out.1; have := HAZ.out; omega, HRel.out.2.1, HRel.out.2.2, .inl rfl, HJ.out.1, upd_drewN HU.out nq⟩
            case measure => have := HJ.out.2; simp [intOf]; omega
          | true =>
            have hyj : ls[j + 1]? = some 16 := hyj
            have hp : ps[f]? = some 16 := hp
            have HRel := Lib.hid (show A + 16 = 128 * (f + 1) + 16 * 0 ∧ j + 1 = (loL fs (f + 1)).length + 0 ∧ f + 1 ≤ L from ⟨by omega, by omega, by omega⟩)
            obtain ⟨b, off, rfl, c0⟩ := LX.out.cellAt hxj
            obtain ⟨b', off', e, c1⟩ := LX.out.cellAt hyj
            cases e
            obtain ⟨pb, po, rfl, c2⟩ := PX.out.cellAt hp
            obtain ⟨Z, hZ⟩ : ∃ Z, A + 16 = Z := ⟨_, rfl⟩
            have hAZ : (A : Int) + 16 = (Z : Int) := by omega
            have HAZ := Lib.hid hAZ
            obtain ⟨q, hq⟩ : ∃ q, f + 1 = q := ⟨_, rfl⟩
            have z0 : (Z : Int).tmod 128 = 0 := by rw [Int.tmod_eq_emod_of_nonneg (by omega)]; omega
            have z1 : (Z : Int).tdiv 128 = (q : Int) := by rw [Int.tdiv_eq_ediv_of_nonneg (by omega)]; omega
            have z0' : (Z : Int) % 128 = 0 := by omega
            have z1' : (Z : Int) / 128 = (q : Int) := by omega
            have z2 : IntKind.i64.wrap ((q : Int) - 1) = (f : Int) := by rw [show (q : Int) - 1 = (f : Int) by omega]; exact IntWalk.i64_in _ (by omega)
            have z3 : (f : Int) < (L1 : Int) := by omega
            have z9 : IntKind.i64.wrap (q : Int) = (q : Int) := IntWalk.i64_in _ (by omega)
            have z4 : IntKind.i64.wrap ((j : Int) + 1) = (j : Int) + 1 := IntWalk.i64_in _ (by omega)
            have z5 : (0 : Int) ≤ (j : Int) + 1 := by omega
            have z6 : (j : Int) + 1 < (N : Int) := by omega
            have z7 : ((j : Int) + 1).toNat = j + 1 := by omega
            have z8 : (j : Int) < (N : Int) := by omega
            have HJ := Lib.hid (show j + 1 ≤ N ∧ N - (j + 1) < N - j from ⟨by omega, by omega⟩)
            have hA1 : A ≤ 100000 := by omega
            clear hxj hyj hp hZ hq hA hj hf hr hsc hfL hx hy hjN hlt hf1
            go_wp2_with fail
            clear hAZ
            go_quiet (fail)
            go_wp2_with fail
            go_roundw
            case rel => exact ⟨f + 1, 0, Z, j + 1, by go_num, rfl, by have := HRel.out.1; have := HAZ.out; omega, HRel.out.2.1, HRel.out.2.2, .inl rfl, HJ.out.1, upd_drewN HU.out nq⟩
            case measure => have := HJ.out.2; simp [intOf]; omega
        · have HRel := Lib.hid (show A + 16 = 128 * f + 16 * (r + 1) ∧ j + 1 = (loL fs f).length + (r + 1) ∧ f ≤ L ∧ (r + 1 = 0 ∨ r + 1 < 8 ∧ fs[f]? = some true) from ⟨by omega, by omega, hf, .inr ⟨by omega, hx⟩⟩)
          obtain ⟨b, off, rfl, c0⟩ := LX.out.cellAt hxj
          obtain ⟨Z, hZ⟩ : ∃ Z, A + 16 = Z := ⟨_, rfl⟩
          have hAZ : (A : Int) + 16 = (Z : Int) := by omega
          have HAZ := Lib.hid hAZ
          obtain ⟨R, hR⟩ : ∃ R, 16 * (r + 1) = R := ⟨_, rfl⟩
          have z0 : (Z : Int).tmod 128 = (R : Int) := by rw [Int.tmod_eq_emod_of_nonneg (by omega)]; omega
          have z0' : (Z : Int) % 128 = (R : Int) := by omega
          have z9 : IntKind.i64.wrap (R : Int) = (R : Int) := IntWalk.i64_in _ (by omega)
          have z1 : decide ((R : Int) = 0) = false := decide_eq_false (by omega)
          have z1b : ((R : Int) == 0) = false := by rw [beq_eq_false_iff_ne]; omega
          have z1n : decide (R = 0) = false := decide_eq_false (by omega)
          have z8 : (j : Int) < (N : Int) := by omega
          have HJ := Lib.hid (show j + 1 ≤ N ∧ N - (j + 1) < N - j from ⟨by omega, by omega⟩)
          have hA1 : A ≤ 100000 := by omega
          clear hxj hZ hR hA hj hf hr hsc hfL hx hjN hlt hr8 hr7
          go_wp2_with fail
          clear hAZ
          go_quiet (fail)
          go_wp2_with fail
          go_roundw
          case rel => exact ⟨f, r + 1, Z, j + 1, by go_num, rfl, by have := HRel.out.1; have := HAZ.out; omega, HRel.out.2.1, HRel.out.2.2.1, HRel.out.2.2.2, HJ.out.1, upd_drewN HU.out nq⟩
          case measure => have := HJ.out.2; simp [intOf]; omega
    · have hT : decide ((j : Int) + 1 < (N : Int)) = false := decide_eq_false (by omega)
      clear hA hj hr hf
      go_wp2_with (go_at_call 11; refine (awake_any _).mono ?_; rintro e w' ⟨rfl, u9⟩; have U9 := Lib.hid u9; clear u9)
      go_ret
      exact ⟨rfl, (U5.out.then HU.out).then U9.out⟩
end Go.Proofs.Ytmkbpocibpjjaaa
