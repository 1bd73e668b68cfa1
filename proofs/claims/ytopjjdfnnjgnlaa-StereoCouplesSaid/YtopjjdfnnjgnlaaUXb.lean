/- stereo: the reference's Cross -/
import Derived.Test.YtopjjdfnnjgnlaaUXa
namespace Go.Proofs.Ytopjjdfnnjgnlaa
open Go.RowKit Go.Shelf

@[local go_sem high] theorem run_max3 {P : Program} (w : World) (ts : Array TypeId) (t : TypeId) (k k' k'' : IntKind) (x y z : Int) :
    (Builtin.max_ ts t #[.int k x, .int k' y, .int k'' z]).run P w = .ok (.int k (max (max x y) z)) w := by
  have e : ∀ a b : Int, (if b > a then b else a) = max a b := fun a b => by
    rw [Int.max_def]
    split <;> split <;> omega
  simp [Builtin.max_, Builtin.max2, e]
/-- how like, as the reference reckons it -/
theorem crF_ref {A B X : Int} (hA : 0 ≤ A) (hB : 0 ≤ B) (hz : A = 0 ∨ B = 0 → X = 0) : crF A B X = if 0 < A ∧ 0 < B then (if X < 0 then -((256 * max X (-X)) / max (max A B) (max X (-X))) else (256 * max X (-X)) / max (max A B) (max X (-X))) else 0 := by
  unfold crF
  by_cases h : 0 < A ∧ 0 < B
  · rw [if_pos h]
    by_cases h1 : X < 0
    · rw [if_pos h1, if_pos h1, show max X (-X) = -X by omega]
    · rw [if_neg h1, if_neg h1, show max X (-X) = X by omega]
      by_cases h2 : 0 < X
      · rw [if_pos h2]
      · rw [if_neg h2, show X = 0 by omega]
        show (0 : Int) = 256 * 0 / _
        rw [Int.mul_zero, Int.zero_ediv]
  · have := hz (by omega)
    rw [if_neg h, this]
    rfl
theorem cr_zero {p : Nat → Int × Int} {n : Nat} (h : sqA p n = 0 ∨ sqB p n = 0) : prX p n = 0 := by
  have zz : ∀ {x : Int}, x * x = 0 → x = 0 := fun hx => by rcases Int.mul_eq_zero.1 hx with h | h <;> exact h
  unfold prX
  rcases h with h | h
  · exact sm_null fun i hi => by rw [zz (sm_zeros (g := fun t => (p t).1 * (p t).1) (fun _ _ => sq_nn _) h i hi), Int.zero_mul]
  · exact sm_null fun i hi => by rw [zz (sm_zeros (g := fun t => (p t).2 * (p t).2) (fun _ _ => sq_nn _) h i hi), Int.mul_zero]
theorem mulI {x y : Int} (hx : -2097152 ≤ x ∧ x ≤ 2097152) (hy : -2097152 ≤ y ∧ y ≤ 2097152) : -4398046511104 ≤ x * y ∧ x * y ≤ 4398046511104 := by
  have a := Int.mul_nonneg (show 0 ≤ 2097152 - x by omega) (show 0 ≤ 2097152 - y by omega)
  have b := Int.mul_nonneg (show 0 ≤ 2097152 + x by omega) (show 0 ≤ 2097152 + y by omega)
  have c := Int.mul_nonneg (show 0 ≤ 2097152 - x by omega) (show 0 ≤ 2097152 + y by omega)
  have d := Int.mul_nonneg (show 0 ≤ 2097152 + x by omega) (show 0 ≤ 2097152 - y by omega)
  simp only [Int.sub_mul, Int.mul_sub, Int.add_mul, Int.mul_add] at a b c d
  omega
theorem sums_bd {p : Nat → Int × Int} (hp : ∀ i, InP 2097152 (p i)) (n : Nat) : (0 ≤ sqA p n ∧ sqA p n ≤ 4398046511104 * n) ∧ (0 ≤ sqB p n ∧ sqB p n ≤ 4398046511104 * n) ∧ (-4398046511104 * n ≤ prX p n ∧ prX p n ≤ 4398046511104 * n) := by
  have h1 := sm_bd (A := 0) (B := 4398046511104) (g := fun t => (p t).1 * (p t).1) (n := n) (fun i _ => ⟨sq_nn _, (mulI (hp i).1 (hp i).1).2⟩)
  have h2 := sm_bd (A := 0) (B := 4398046511104) (g := fun t => (p t).2 * (p t).2) (n := n) (fun i _ => ⟨sq_nn _, (mulI (hp i).2 (hp i).2).2⟩)
  have h3 := sm_bd (A := -4398046511104) (B := 4398046511104) (g := fun t => (p t).1 * (p t).2) (n := n) (fun i _ => mulI (hp i).1 (hp i).2)
  unfold sqA sqB prX
  omega
set_option maxRecDepth 100000 in
set_option maxHeartbeats 8000000 in
theorem rCross_any (lv rv wv : Value) (l r ws : List Int) (w : World) (hl : Ints w lv l) (hr : Ints w rv r) (hw : Ints w wv ws) : Calls Try.prog 23 #[lv, rv, wv] w (EInts w (crS l r ws) (chE l r ws 2097152)) := by
  have HC := Lib.hid (rchannels_any lv rv wv l r ws 2097152 w (by decide) (by decide) hl hr hw)
  by_cases hE : chE l r ws 2097152 = 0
  · obtain ⟨h1, h2, h3, h4, h5⟩ := chE_ok hE
    have hN8 := (isW_ok h1).1
    have hIn := P2_in (l := l) (r := r) (M := 2097152) (by decide) h4 h5
    have HS := Lib.hid (show crS l r ws = (List.range ws.length).map fun k => crV (fun t => P2 l r (psN ws k + t)) (wdN ws k) from if_pos hE)
    rw [hE] at HC ⊢
    rw [HS.out]
    have HSu := Lib.hid (fun k => rmap_succ (fun k => crV (fun t => P2 l r (psN ws k + t)) (wdN ws k)) k)
    have HLn := Lib.hid (rmap_len (fun k => crV (fun t => P2 l r (psN ws k + t)) (wdN ws k)) ws.length)
    have HWg := Lib.hid (show ∀ k, k < ws.length → ∃ n : Nat, ws[k]? = some (n : Int) ∧ wdN ws k = n ∧ 1 ≤ n ∧ n ≤ 128 ∧ psN ws (k + 1) = psN ws k + n ∧ psN ws k + n ≤ 128 from fun k hk => by
      obtain ⟨n, a, b, c, d, e⟩ := isW_get h1 hk
      exact ⟨n, a, by unfold wdN; rw [List.getD_eq_getElem?_getD, a]; exact Int.toNat_natCast n, b, c, d, e⟩)
    have HIn := Lib.hid hIn
    have HGe := Lib.hid (show ∀ j, j < 128 → l[j]? = some (P2 l r j).1 ∧ r[j]? = some (P2 l r j).2 from fun j hj => by
      unfold P2
      rw [List.getD_eq_getElem?_getD, List.getD_eq_getElem?_getD, List.getElem?_eq_getElem (by omega), List.getElem?_eq_getElem (by omega)]
      exact ⟨rfl, rfl⟩)
    have HX := Lib.hid hl; have HY := Lib.hid hr; have HW := Lib.hid hw
    obtain ⟨la, lc, rfl⟩ := hl.form
    obtain ⟨ra, rc, rfl⟩ := hr.form
    obtain ⟨wa, wc, rfl⟩ := hw.form
    rw [h2] at HC HX
    rw [h3] at HC HY
    rw [h2, h3]
    have h0 : psN ws 0 = 0 := psN_zero ws
    have HP0 := Lib.hid h0
    obtain ⟨N, hN⟩ : ∃ N, ws.length = N := ⟨_, rfl⟩
    rw [hN] at HC HW HWg HLn hN8 ⊢
    clear hl hr hw hE h1 h2 h3 h4 h5 hIn hN h0
    go_enter Try.func23, Try.ntmps23
    go_wp2_with fail
    refine HC.out.mono ?_
    rintro e w1 ⟨rfl, hw1⟩
    have U1 := Lib.hid (show Upd NoB w w1 by rw [hw1]; exact Upd.refl _ _)
    have HB1 := Lib.hid (show w.heap.size ≤ w1.heap.size from U1.out.size)
    clear hw1 HC
    go_wp2_with fail
    go_loopw [9, 10, 28] (fun v f i wr => ∃ k : Nat, k ≤ N ∧ i = .int .i64 k ∧ f = .int .i64 (psN ws k : Nat) ∧ wr.ownsRow w1.heap.size 3 1 v k (i64s ((List.range k).map fun k => crV (fun t => P2 l r (psN ws k + t)) (wdN ws k))) ∧ Upd NoB w1 wr) (fun _ _ i _ => N - (intOf i).toNat)
    case atStart => exact ⟨0, Nat.zero_le _, rfl, by rw [HP0.out]; rfl, World.ownsRow_nil _ _ _ _, Upd.refl _ _⟩
    case round =>
      obtain ⟨k, hk, rfl, rfl, hown, hu⟩ := hrel
      obtain ⟨va, vc, rfl⟩ := row_form hown
      have hb := hu.size
      by_cases hlt : k < N
      · obtain ⟨n, hx, hwd, hn1, hn8, hps, hs8⟩ := HWg.out k hlt
        obtain ⟨b0, o0, rfl, c0⟩ := ((HW.out.later U1.out).later hu).cellAt hx
        have HSk := Lib.hid (HSu.out k)
        rw [hwd] at HSk
        have HPs := Lib.hid hps
        generalize (List.range k).map (fun k => crV (fun t => P2 l r (psN ws k + t)) (wdN ws k)) = xs at *
        obtain ⟨F, hF⟩ : ∃ F, psN ws k = F := ⟨_, rfl⟩
        rw [hF] at HSk HPs hs8 ⊢
        have HBd := Lib.hid (fun t => sums_bd (p := fun t => P2 l r (F + t)) (fun i => HIn.out _) t)
        have HSa := Lib.hid (fun t => sm_succ (fun t => (P2 l r (F + t)).1 * (P2 l r (F + t)).1) t)
        have HSb := Lib.hid (fun t => sm_succ (fun t => (P2 l r (F + t)).2 * (P2 l r (F + t)).2) t)
        have HSx := Lib.hid (fun t => sm_succ (fun t => (P2 l r (F + t)).1 * (P2 l r (F + t)).2) t)
        have HZ := Lib.hid (cr_zero (p := fun t => P2 l r (F + t)) (n := n))
        have HV := Lib.hid (show crV (fun t => P2 l r (F + t)) n = crF (sqA (fun t => P2 l r (F + t)) n) (sqB (fun t => P2 l r (F + t)) n) (prX (fun t => P2 l r (F + t)) n) from rfl)
        obtain ⟨T, hT⟩ : ∃ T, F + n = T := ⟨_, rfl⟩
        have HT := Lib.hid hT
        have hT8 : T ≤ 128 := by omega
        have z1 : wrap64 ((F : Int) + (n : Int)) = (T : Int) := by rw [← hT]; exact IntWalk.wrap64_in _ (by omega)
        have z2 : IntKind.i64.wrap ((F : Int) + (n : Int)) = (T : Int) := by rw [← hT]; exact IntWalk.i64_in _ (by clear z1; omega)
        have hk1 : k ≤ 1000000 := by clear z1 z2; omega
        rw [hT] at HPs
        have HO := Lib.hid hown; have HU := Lib.hid hu; have HBr := Lib.hid hb
        have HN8 := Lib.hid hn8
        clear hown hu hx hwd hn1 hps hs8 hT hF hb hn8
        obtain ⟨wo, rfl⟩ : ∃ y : World, y = wr := ⟨_, rfl⟩
        go_wp2_with fail
        go_loopw [13, 14, 15, 16] (fun a b x j wv => ∃ t : Nat, t ≤ n ∧ j = .int .i64 (F + t : Nat) ∧ a = .int .i64 (sqA (fun t => P2 l r (F + t)) t) ∧ b = .int .i64 (sqB (fun t => P2 l r (F + t)) t) ∧ x = .int .i64 (prX (fun t => P2 l r (F + t)) t) ∧ Upd NoB wo wv) (fun _ _ _ j _ => T - (intOf j).toNat)
        case atStart => exact ⟨0, Nat.zero_le _, rfl, rfl, rfl, rfl, Upd.refl _ _⟩
        case round =>
          obtain ⟨t, ht, rfl, rfl, rfl, rfl, hv⟩ := hrel
          have HVu := Lib.hid hv
          obtain ⟨J, hJ⟩ : ∃ J, F + t = J := ⟨_, rfl⟩
          have hTt := HT.out
          obtain ⟨⟨a0, a1⟩, ⟨b0', b1'⟩, x0, x1⟩ := HBd.out t
          by_cases htn : t < n
          · have sa := HSa.out t; have sb := HSb.out t; have sx := HSx.out t
            obtain ⟨g1, g2⟩ := HGe.out J (by clear z1 z2; omega)
            have hp := HIn.out J
            rw [hJ] at sa sb sx
            have m1 := mulI hp.1 hp.1
            have m2 := mulI hp.2 hp.2
            have m3 := mulI hp.1 hp.2
            have g0 := ((HX.out.later U1.out).later HU.out).later hv
            have g9 := ((HY.out.later U1.out).later HU.out).later hv
            obtain ⟨b4, o4, rfl, c4⟩ := g0.cellAt g1
            obtain ⟨b5, o5, rfl, c5⟩ := g9.cellAt g2
            clear g0 g9 g1 g2 hp
            obtain ⟨x, hx1⟩ : ∃ x, (P2 l r J).1 = x := ⟨_, rfl⟩
            obtain ⟨y, hy1⟩ : ∃ y, (P2 l r J).2 = y := ⟨_, rfl⟩
            rw [hx1] at sa sx m1 m3 c4
            rw [hy1] at sb sx m2 m3 c5
            have HA' := Lib.hid (show sqA (fun t => P2 l r (F + t)) (t + 1) = sqA (fun t => P2 l r (F + t)) t + x * x from sa)
            have HB' := Lib.hid (show sqB (fun t => P2 l r (F + t)) (t + 1) = sqB (fun t => P2 l r (F + t)) t + y * y from sb)
            have HX' := Lib.hid (show prX (fun t => P2 l r (F + t)) (t + 1) = prX (fun t => P2 l r (F + t)) t + x * y from sx)
            clear sa sb sx hx1 hy1
            generalize sqA (fun t => P2 l r (F + t)) t = A at *
            generalize sqB (fun t => P2 l r (F + t)) t = B at *
            generalize prX (fun t => P2 l r (F + t)) t = X at *
            obtain ⟨q1, hq1⟩ : ∃ q, x * x = q := ⟨_, rfl⟩
            obtain ⟨q2, hq2⟩ : ∃ q, y * y = q := ⟨_, rfl⟩
            obtain ⟨q3, hq3⟩ : ∃ q, x * y = q := ⟨_, rfl⟩
            rw [hq1] at m1 HA'
            rw [hq2] at m2 HB'
            rw [hq3] at m3 HX'
            have hn8 := HN8.out
            have ht8 : (t : Int) ≤ 128 := by clear z1 z2; omega
            have s1 : wrap64 (x * x) = q1 := by rw [hq1]; exact IntWalk.wrap64_in _ (by clear z1 z2; omega)
            have s2 : IntKind.i64.wrap (x * x) = q1 := by rw [hq1]; exact IntWalk.i64_in _ (by clear z1 z2 s1; omega)
            have s3 : wrap64 (y * y) = q2 := by rw [hq2]; exact IntWalk.wrap64_in _ (by clear z1 z2 s1 s2; omega)
            have s4 : IntKind.i64.wrap (y * y) = q2 := by rw [hq2]; exact IntWalk.i64_in _ (by clear z1 z2 s1 s2 s3; omega)
            have s5 : wrap64 (x * y) = q3 := by rw [hq3]; exact IntWalk.wrap64_in _ (by clear z1 z2 s1 s2 s3 s4; omega)
            have s6 : IntKind.i64.wrap (x * y) = q3 := by rw [hq3]; exact IntWalk.i64_in _ (by clear z1 z2 s1 s2 s3 s4 s5; omega)
            have p1 : wrap64 (A + q1) = A + q1 := IntWalk.wrap64_in _ (by clear z1 z2 s1 s2 s3 s4 s5 s6; omega)
            have p2 : IntKind.i64.wrap (A + q1) = A + q1 := IntWalk.i64_in _ (by clear z1 z2 s1 s2 s3 s4 s5 s6 p1; omega)
            have p3 : wrap64 (B + q2) = B + q2 := IntWalk.wrap64_in _ (by clear z1 z2 s1 s2 s3 s4 s5 s6 p1 p2; omega)
            have p4 : IntKind.i64.wrap (B + q2) = B + q2 := IntWalk.i64_in _ (by clear z1 z2 s1 s2 s3 s4 s5 s6 p1 p2 p3; omega)
            have p5 : wrap64 (X + q3) = X + q3 := IntWalk.wrap64_in _ (by clear z1 z2 s1 s2 s3 s4 s5 s6 p1 p2 p3 p4; omega)
            have p6 : IntKind.i64.wrap (X + q3) = X + q3 := IntWalk.i64_in _ (by clear z1 z2 s1 s2 s3 s4 s5 s6 p1 p2 p3 p4 p5; omega)
            have HR := Lib.hid (show ∃ t' : Nat, t' ≤ n ∧ ((J : Int) + 1 = ((F + t' : Nat) : Int)) ∧ sqA (fun t => P2 l r (F + t)) t' = A + q1 ∧ sqB (fun t => P2 l r (F + t)) t' = B + q2 ∧ prX (fun t => P2 l r (F + t)) t' = X + q3 from ⟨t + 1, by clear z1 z2 s1 s2 s3 s4 s5 s6 p1 p2 p3 p4 p5 p6; omega, by clear z1 z2 s1 s2 s3 s4 s5 s6 p1 p2 p3 p4 p5 p6; omega, HA'.out, HB'.out, HX'.out⟩)
            have hlJ : J < T := by clear z1 z2 s1 s2 s3 s4 s5 s6 p1 p2 p3 p4 p5 p6; omega
            have hlJ2 : (J : Int) < (T : Int) := by clear z1 z2 s1 s2 s3 s4 s5 s6 p1 p2 p3 p4 p5 p6; omega
            have hJ8 : J < 128 := by clear z1 z2 s1 s2 s3 s4 s5 s6 p1 p2 p3 p4 p5 p6; omega
            rw [hJ]
            clear hq1 hq2 hq3 m1 m2 m3 a0 a1 b0' b1' x0 x1 hJ hTt htn ht hv hn8 ht8
            go_wp2_with fail
            go_quiet (fail)
            have V1 := Lib.hid (show Upd NoB wr (wr.drewN nq) from upd_drewN (Upd.refl _ _) _)
            obtain ⟨y1, hy1⟩ : ∃ y, wr.drewN nq = y := ⟨_, rfl⟩
            rw [hy1] at V1 ⊢
            have d4 := V1.out.cell c4 (noB _)
            have d5 := V1.out.cell c5 (noB _)
            clear hy1 c4 c5
            go_wp2_with fail
            go_quiet (fail)
            have V2 := Lib.hid (show Upd NoB wr (y1.drewN nq) from upd_drewN V1.out _)
            obtain ⟨y2, hy2⟩ : ∃ y, y1.drewN nq = y := ⟨_, rfl⟩
            have e4 := (show y2.cell? ⟨b4, o4 + J, none⟩ = some (.int .i64 x) by rw [← hy2]; exact d4)
            have e5 := (show y2.cell? ⟨b5, o5 + J, none⟩ = some (.int .i64 y) by rw [← hy2]; exact d5)
            rw [hy2] at V2 ⊢
            clear hy2 d4 d5
            go_wp2_with fail
            go_quiet (fail)
            go_wp2_with fail
            go_roundw
            case rel => obtain ⟨t9, h1, h2, h3, h4, h5⟩ := HR.out; exact ⟨t9, h1, by rw [← h2], by rw [h3], by rw [h4], by rw [h5], HVu.out.then (upd_drewN V2.out _)⟩
            case measure => clear z1 z2 s1 s2 s3 s4 s5 s6 p1 p2 p3 p4 p5 p6; simp [intOf]; omega
          · obtain rfl : t = n := by clear z1 z2; omega
            rw [HT.out]
            have hlJ : ¬ T < T := Nat.lt_irrefl _
            have hR := crF_ref a0 b0' HZ.out
            rw [← HV.out] at hR
            have hV := HV.out
            have ht8 := HN8.out
            generalize sqA (fun t => P2 l r (F + t)) t = A at *
            generalize sqB (fun t => P2 l r (F + t)) t = B at *
            generalize prX (fun t => P2 l r (F + t)) t = X at *
            obtain ⟨g, hg⟩ : ∃ g, crV (fun t => P2 l r (F + t)) t = g := ⟨_, rfl⟩
            rw [hg] at hR HSk
            clear hV
            have hO2 := (HU.out.then HVu.out)
            have O3 := Lib.hid (HVu.out.row HO.out (fun j _ => noB j))
            have hb3 : w1.heap.size ≤ wr.heap.size := hO2.size
            have HU2 := Lib.hid hO2
            have A9 : A ≤ 562949953421312 := by clear z1 z2; omega
            have B9 : B ≤ 562949953421312 := by clear z1 z2; omega
            have X8 : -562949953421312 ≤ X := by clear z1 z2; omega
            have X9 : X ≤ 562949953421312 := by clear z1 z2; omega
            clear hO2 hv hTt hJ htn ht a1 b1' x0 x1 ht8 hg
            by_cases hAB : 0 < A ∧ 0 < B
            · rw [if_pos hAB] at hR
              have t1 : decide (0 < A) = true := decide_eq_true hAB.1
              have t2 : decide (0 < B) = true := decide_eq_true hAB.2
              obtain ⟨m, hm⟩ : ∃ m, max X (-X) = m := ⟨_, rfl⟩
              obtain ⟨D, hD⟩ : ∃ D, max (max A B) m = D := ⟨_, rfl⟩
              have hm0 : 0 ≤ m ∧ m ≤ 562949953421312 := by clear z1 z2 hR; omega
              have hD0 : 1 ≤ D := by clear z1 z2 hR; omega
              have hD1 : D ≤ 562949953421312 := by clear z1 z2 hR; omega
              rw [hm, hD] at hR
              have nx : wrap64 (-X) = -X := IntWalk.wrap64_in _ (by clear z1 z2 hR; omega)
              have nx2 : IntKind.i64.wrap (-X) = -X := IntWalk.i64_in _ (by clear z1 z2 hR nx; omega)
              have mu : wrap64 (256 * m) = 256 * m := IntWalk.wrap64_in _ (by clear z1 z2 hR nx nx2; omega)
              have mu2 : IntKind.i64.wrap (256 * m) = 256 * m := IntWalk.i64_in _ (by clear z1 z2 hR nx nx2 mu; omega)
              have nz : D ≠ 0 := by clear z1 z2 hR nx nx2 mu mu2; omega
              have hq0 : 0 ≤ 256 * m / D ∧ 256 * m / D ≤ 144115188075855872 := by
                clear z1 z2 hR nx nx2 mu mu2
                exact ⟨Int.ediv_nonneg (by omega) (by omega), Int.le_trans (Int.ediv_le_self _ (by omega)) (by omega)⟩
              have qq : (256 * m).tdiv D = 256 * m / D := Int.tdiv_eq_ediv_of_nonneg (by clear z1 z2 hR nx nx2 mu mu2; omega)
              obtain ⟨q, hq⟩ : ∃ q, 256 * m / D = q := ⟨_, rfl⟩
              rw [hq] at hR hq0 qq
              have nq1 : wrap64 (-q) = -q := IntWalk.wrap64_in _ (by clear z1 z2 hR nx nx2 mu mu2; omega)
              have nq2 : IntKind.i64.wrap (-q) = -q := IntWalk.i64_in _ (by clear z1 z2 hR nx nx2 mu mu2 nq1; omega)
              have qw1 : wrap64 q = q := IntWalk.wrap64_in _ (by clear z1 z2 hR nx nx2 mu mu2 nq1 nq2; omega)
              have qw2 : IntKind.i64.wrap q = q := IntWalk.i64_in _ (by clear z1 z2 hR nx nx2 mu mu2 nq1 nq2 qw1; omega)
              clear hAB a0 b0' A9 B9 X8 X9 hq0
              by_cases hX : X < 0
              · have t3 : decide (X < 0) = true := decide_eq_true hX
                rw [if_pos hX] at hR
                rw [hR] at HSk
                clear hX hR
                go_wp2_with (at_builtin; refine wpList_push rfl (.tmp 97) (.tmp 99) rfl w1.heap.size (.slice va k vc) k xs (-q) rfl rfl O3.out hk1 hb3 ?_; intro v' w' hown' u'; have R' := Lib.hid hown'; have U' := Lib.hid u'; clear hown' u')
                go_roundw
                case rel => exact ⟨k + 1, by clear z1 z2 nx nx2 mu mu2 nq1 nq2 qw1 qw2; omega, by go_num, by rw [HPs.out], by rw [HSk.out]; exact R'.out, upd_ge ((upd_ge' HU2.out w1.heap.size).trans U'.out (fun _ _ h => h))⟩
                case measure => clear z1 z2 nx nx2 mu mu2 nq1 nq2 qw1 qw2; simp [intOf]; omega
              · have t3 : decide (X < 0) = false := decide_eq_false hX
                rw [if_neg hX] at hR
                rw [hR] at HSk
                clear hX hR
                go_wp2_with (at_builtin; refine wpList_push rfl (.tmp 97) (.tmp 99) rfl w1.heap.size (.slice va k vc) k xs q rfl rfl O3.out hk1 hb3 ?_; intro v' w' hown' u'; have R' := Lib.hid hown'; have U' := Lib.hid u'; clear hown' u')
                go_roundw
                case rel => exact ⟨k + 1, by clear z1 z2 nx nx2 mu mu2 nq1 nq2 qw1 qw2; omega, by go_num, by rw [HPs.out], by rw [HSk.out]; exact R'.out, upd_ge ((upd_ge' HU2.out w1.heap.size).trans U'.out (fun _ _ h => h))⟩
                case measure => clear z1 z2 nx nx2 mu mu2 nq1 nq2 qw1 qw2; simp [intOf]; omega
            · rw [if_neg hAB] at hR
              rw [hR] at HSk
              clear hR A9 B9 X8 X9
              by_cases hA : 0 < A
              · have t1 : decide (0 < A) = true := decide_eq_true hA
                have t2 : decide (0 < B) = false := decide_eq_false (fun h => hAB ⟨hA, h⟩)
                clear hAB hA a0 b0'
                go_wp2_with (at_builtin; refine wpList_push rfl (.tmp 97) (.tmp 99) rfl w1.heap.size (.slice va k vc) k xs 0 rfl rfl O3.out hk1 hb3 ?_; intro v' w' hown' u'; have R' := Lib.hid hown'; have U' := Lib.hid u'; clear hown' u')
                go_roundw
                case rel => exact ⟨k + 1, by clear z1 z2; omega, by go_num, by rw [HPs.out], by rw [HSk.out]; exact R'.out, upd_ge ((upd_ge' HU2.out w1.heap.size).trans U'.out (fun _ _ h => h))⟩
                case measure => clear z1 z2; simp [intOf]; omega
              · have t1 : decide (0 < A) = false := decide_eq_false hA
                clear hAB hA a0 b0'
                go_wp2_with (at_builtin; refine wpList_push rfl (.tmp 97) (.tmp 99) rfl w1.heap.size (.slice va k vc) k xs 0 rfl rfl O3.out hk1 hb3 ?_; intro v' w' hown' u'; have R' := Lib.hid hown'; have U' := Lib.hid u'; clear hown' u')
                go_roundw
                case rel => exact ⟨k + 1, by clear z1 z2; omega, by go_num, by rw [HPs.out], by rw [HSk.out]; exact R'.out, upd_ge ((upd_ge' HU2.out w1.heap.size).trans U'.out (fun _ _ h => h))⟩
                case measure => clear z1 z2; simp [intOf]; omega
      · obtain rfl : k = N := by omega
        have HO := Lib.hid hown; have HU := Lib.hid hu
        clear hown hu hlt
        go_wp2_with fail
        go_ret2
        exact ⟨_, _, _, rfl, by rw [HLn.out]; exact row_base HO.out HB1.out, U1.out.then HU.out⟩
  · have HS := Lib.hid (show crS l r ws = [] from if_neg hE)
    rw [HS.out]
    generalize chE l r ws 2097152 = E at *
    obtain ⟨la, lc, rfl⟩ := hl.form
    obtain ⟨ra, rc, rfl⟩ := hr.form
    obtain ⟨wa, wc, rfl⟩ := hw.form
    have t1 : (E != 0) = true := bne_iff_ne.2 hE
    generalize l.length = L at *
    generalize r.length = R at *
    generalize ws.length = N at *
    clear hl hr hw hE
    go_enter Try.func23, Try.ntmps23
    go_wp2_with fail
    refine HC.out.mono ?_
    rintro e w2 ⟨rfl, rfl⟩
    go_wp2_with fail
    go_ret2
    exact ⟨none, 0, 0, rfl, World.ownsRow_nil _ _ _ _, Upd.refl _ _⟩
end Go.Proofs.Ytopjjdfnnjgnlaa
