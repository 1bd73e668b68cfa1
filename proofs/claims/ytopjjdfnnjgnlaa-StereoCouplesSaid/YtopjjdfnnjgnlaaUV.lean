/- stereo: the reference's Widths; the law Same -/
import Derived.Test.YtopjjdfnnjgnlaaUT
namespace Go.Proofs.Ytopjjdfnnjgnlaa
open Go.RowKit Go.Shelf

theorem isW_no {ws : List Int} {k : Nat} {x : Int} (h : ws[k]? = some x) (hx : x < 1 ∨ 128 < x) : isW ws = false := by
  cases e : isW ws with
  | false => rfl
  | true =>
    have := (isW_iff.1 e).2.1 x (List.mem_of_getElem? h)
    omega
theorem isW_end {ws : List Int} (h : ∀ (j : Nat) (x : Int), ws[j]? = some x → 1 ≤ x ∧ x ≤ 128) : isW ws = (decide (1 ≤ ws.length) && decide (ws.length ≤ 32) && decide (ws.sum = 128)) := by
  have hm : ∀ x ∈ ws, 1 ≤ x ∧ x ≤ 128 := fun x hx => by
    obtain ⟨j, hj⟩ := List.getElem?_of_mem hx
    exact h j x hj
  rw [Bool.eq_iff_iff, isW_iff, Bool.and_eq_true, Bool.and_eq_true, decide_eq_true_iff, decide_eq_true_iff, decide_eq_true_iff]
  constructor
  · rintro ⟨h1, _, h3⟩
    refine ⟨⟨?_, h1⟩, h3⟩
    cases ws with
    | nil => simp at h3
    | cons a l => simp
  · rintro ⟨⟨_, h1⟩, h3⟩
    exact ⟨h1, hm, h3⟩
theorem sum_take {ws : List Int} {k : Nat} {x : Int} (h : ws[k]? = some x) : (ws.take (k + 1)).sum = (ws.take k).sum + x := by
  rw [List.take_add_one, h]; simp
set_option maxRecDepth 100000 in
set_option maxHeartbeats 4000000 in
theorem rWidths_any (v : Value) (ws : List Int) (w : World) (h : Ints w v ws) : Calls Try.prog 31 #[v] w fun e w' => e = .returned (.bool (isW ws)) ∧ w' = w := by
  have H := Lib.hid h
  have HNo := Lib.hid (fun k x (h : ws[k]? = some x) (hx : x < 1 ∨ 128 < x) => isW_no h hx)
  have HEnd := Lib.hid (isW_end (ws := ws))
  have HSu := Lib.hid (fun k x (h : ws[k]? = some x) => sum_take h)
  have HTk := Lib.hid (show (ws.take ws.length).sum = ws.sum by rw [List.take_length])
  have hb := h.1
  obtain ⟨a, cap, rfl⟩ := h.form
  obtain ⟨L, hL⟩ : ∃ L, ws.length = L := ⟨_, rfl⟩
  have HL := Lib.hid hL
  rw [hL] at H HEnd HTk hb ⊢
  generalize isW ws = z at *
  clear h hL
  go_enter Try.func31, Try.ntmps31
  go_wp2_with fail
  go_loop [3, 8] (fun s i => ∃ k : Nat, k ≤ L ∧ i = .int .i64 k ∧ s = .int .i64 (ws.take k).sum ∧ (0 ≤ (ws.take k).sum ∧ (ws.take k).sum ≤ 128 * (k : Int)) ∧ ∀ j x, j < k → ws[j]? = some x → (1 ≤ x ∧ x ≤ 128)) (fun _ i => L - (intOf i).toNat)
  case atStart => exact ⟨0, Nat.zero_le _, rfl, rfl, by simp, fun j x hj => absurd hj (Nat.not_lt_zero _)⟩
  case round =>
    obtain ⟨k, hk, rfl, rfl, hs, hj⟩ := hrel
    have Hj := Lib.hid hj; clear hj
    by_cases hlt : k < L
    · obtain ⟨x, hx⟩ : ∃ x, ws[k]? = some x := ⟨_, List.getElem?_eq_getElem (by rw [HL.out]; exact hlt)⟩
      obtain ⟨bb, off, rfl, c0⟩ := H.out.cellAt hx
      have HX := Lib.hid hx
      have HS := Lib.hid (HSu.out k x hx)
      generalize (ws.take k).sum = S at *
      clear hx
      by_cases h1 : x < 1
      · have t1 : decide (x < 1) = true := decide_eq_true h1
        have Hr := Lib.hid (HNo.out k x HX.out (.inl h1))
        clear h1 hs
        go_wp2
        go_ret
        rw [Hr.out]
        exact ⟨rfl, rfl⟩
      · have t1 : decide (x < 1) = false := decide_eq_false h1
        by_cases h2 : 128 < x
        · have t2 : decide (128 < x) = true := decide_eq_true h2
          have Hr := Lib.hid (HNo.out k x HX.out (.inr h2))
          clear h1 h2 hs
          go_wp2
          go_ret
          rw [Hr.out]
          exact ⟨rfl, rfl⟩
        · have t2 : decide (128 < x) = false := decide_eq_false h2
          have Hs := Lib.hid (show (1 ≤ x ∧ x ≤ 128) from ⟨by omega, by omega⟩)
          have HB := Lib.hid (show 0 ≤ S + x ∧ S + x ≤ 128 * ((k + 1 : Nat) : Int) by omega)
          have z1 : wrap64 (S + x) = S + x := IntWalk.wrap64_in _ (by omega)
          have z2 : IntKind.i64.wrap (S + x) = S + x := IntWalk.i64_in _ (by clear z1; omega)
          have hk1 : k ≤ 17592186044416 := by clear z1 z2; omega
          clear h1 h2 hs hb
          go_wp2
          go_round
          case rel => exact ⟨k + 1, by clear z1 z2; omega, by go_num, by rw [HS.out], by rw [HS.out]; exact HB.out, fun j y hj hy => by
            by_cases hjk : j < k
            · exact Hj.out j y hjk hy
            · obtain rfl : j = k := by clear z1 z2; omega
              have hx := HX.out
              rw [hx] at hy
              injection hy with hy
              rw [← hy]; exact Hs.out⟩
          case measure => clear z1 z2; simp [intOf]; omega
    · obtain rfl : k = L := by omega
      have hz := HEnd.out (fun j x hx => Hj.out j x (by have := (List.getElem?_eq_some_iff.1 hx).1; rw [HL.out] at this; exact this) hx)
      rw [HTk.out] at hs ⊢
      generalize ws.sum = S at *
      have Hz := Lib.hid hz
      clear hz hs hlt
      by_cases h1 : 1 ≤ k
      · have t1 : decide ((1 : Int) ≤ (k : Int)) = true := decide_eq_true (by omega)
        have t1b : decide (1 ≤ k) = true := decide_eq_true h1
        by_cases h2 : k ≤ 32
        · have t2 : decide ((k : Int) ≤ 32) = true := decide_eq_true (by omega)
          have t2b : decide (k ≤ 32) = true := decide_eq_true h2
          by_cases h3 : S = 128
          · have t3 : decide (S = 128) = true := decide_eq_true h3
            have t4 : (S == 128) = true := beq_iff_eq.2 h3
            have HZ := Lib.hid (show z = true by rw [Hz.out, t1b, t2b, t3]; rfl)
            clear h1 h2 h3 Hz
            go_wp2
            go_ret
            exact ⟨by rw [HZ.out]; rfl, rfl⟩
          · have t3 : decide (S = 128) = false := decide_eq_false h3
            have t4 : (S == 128) = false := beq_eq_false_iff_ne.2 h3
            have HZ := Lib.hid (show z = false by rw [Hz.out, t3]; simp)
            clear h1 h2 h3 Hz
            go_wp2
            go_ret
            exact ⟨by rw [HZ.out]; rfl, rfl⟩
        · have t2 : decide ((k : Int) ≤ 32) = false := decide_eq_false (by omega)
          have t2b : decide (k ≤ 32) = false := decide_eq_false h2
          have HZ := Lib.hid (show z = false by rw [Hz.out, t2b]; simp)
          clear h1 h2 Hz
          go_wp2
          go_ret
          exact ⟨by rw [HZ.out]; rfl, rfl⟩
      · have t1 : decide ((1 : Int) ≤ (k : Int)) = false := decide_eq_false (by omega)
        have t1b : decide (1 ≤ k) = false := decide_eq_false h1
        have HZ := Lib.hid (show z = false by rw [Hz.out, t1b]; simp)
        clear h1 Hz
        go_wp2
        go_ret
        exact ⟨by rw [HZ.out]; rfl, rfl⟩
/-- is one of t elements from f on not 0 -/
def nzB (l : List Int) (f : Nat) : Nat → Bool
  | 0 => false
  | t + 1 => nzB l f t || (l.getD (f + t) 0 != 0)
theorem nzB_no {l : List Int} {f : Nat} : ∀ {n : Nat}, nzB l f n = false → ∀ t, t < n → l.getD (f + t) 0 = 0
  | 0, _, t, ht => by omega
  | n + 1, h, t, ht => by
    have h : (nzB l f n || (l.getD (f + n) 0 != 0)) = false := h
    rw [Bool.or_eq_false_iff] at h
    by_cases e : t = n
    · subst e; simpa using h.2
    · exact nzB_no h.1 t (by omega)
theorem nzB_yes {l : List Int} {f : Nat} : ∀ {n : Nat}, nzB l f n = true → ∃ t, t < n ∧ l.getD (f + t) 0 ≠ 0
  | 0, h => by cases h
  | n + 1, h => by
    have h : (nzB l f n || (l.getD (f + n) 0 != 0)) = true := h
    rw [Bool.or_eq_true] at h
    rcases h with h | h
    · obtain ⟨t, ht, hx⟩ := nzB_yes h
      exact ⟨t, by omega, hx⟩
    · exact ⟨n, by omega, by simpa using h⟩
theorem sm_pos {g : Nat → Int} {n t : Nat} (h : ∀ i, i < n → 0 ≤ g i) (ht : t < n) (hp : 0 < g t) : 0 < sm g n := by
  have h0 := sm_nn h
  rcases Int.lt_or_eq_of_le h0 with h1 | h1
  · exact h1
  · have := sm_zeros h h1.symm t ht
    omega
theorem sm_null {g : Nat → Int} : ∀ {n : Nat}, (∀ i, i < n → g i = 0) → sm g n = 0
  | 0, _ => rfl
  | n + 1, h => by rw [sm_succ, sm_null (fun i hi => h i (by omega)), h n (by omega)]; rfl
theorem lgA_nn {c : Int} : 0 ≤ lgA c := by unfold lgA; omega
theorem gn_same (l : List Int) (f n : Nat) : gnF (fun t => P2 l l (f + t)) n = sm (fun t => lgA (l.getD (f + t) 0)) n := by
  unfold gnF
  rw [← sm_sub]
  refine sm_congr fun t _ => ?_
  unfold P2 csP midP
  simp only [Int.sub_self]
  rw [show (0 : Int) / 2 = 0 from rfl, Int.add_zero, lgA_zero]
  omega
theorem gn_same_pos (l : List Int) (f n : Nat) : decide (0 < gnF (fun t => P2 l l (f + t)) n) = nzB l f n := by
  rw [gn_same]
  cases h : nzB l f n with
  | true =>
    obtain ⟨t, ht, hx⟩ := nzB_yes h
    exact decide_eq_true (sm_pos (fun _ _ => lgA_nn) ht (lgA_pos hx))
  | false =>
    have := sm_null (g := fun t => lgA (l.getD (f + t) 0)) (n := n) (fun t ht => by rw [nzB_no h t ht]; exact lgA_zero)
    exact decide_eq_false (by omega)
theorem sq_nn (x : Int) : 0 ≤ x * x := by
  rcases Int.le_total 0 x with h | h
  · exact Int.mul_nonneg h h
  · exact Int.mul_nonneg_of_nonpos_of_nonpos h h
theorem cr_same (l : List Int) (f n : Nat) : crV (fun t => P2 l l (f + t)) n = if nzB l f n then 256 else 0 := by
  have e : crV (fun t => P2 l l (f + t)) n = crF (sm (fun t => l.getD (f + t) 0 * l.getD (f + t) 0) n) (sm (fun t => l.getD (f + t) 0 * l.getD (f + t) 0) n) (sm (fun t => l.getD (f + t) 0 * l.getD (f + t) 0) n) := rfl
  rw [e]
  cases h : nzB l f n with
  | true =>
    obtain ⟨t, ht, hx⟩ := nzB_yes h
    have hp : 0 < l.getD (f + t) 0 * l.getD (f + t) 0 := by
      rcases Int.lt_or_eq_of_le (sq_nn (l.getD (f + t) 0)) with h1 | h1
      · exact h1
      · rcases Int.mul_eq_zero.1 h1.symm with h2 | h2 <;> exact absurd h2 hx
    have hs := sm_pos (g := fun t => l.getD (f + t) 0 * l.getD (f + t) 0) (n := n) (fun i _ => sq_nn _) ht hp
    generalize sm (fun t => l.getD (f + t) 0 * l.getD (f + t) 0) n = X at *
    unfold crF
    rw [if_neg (by omega), if_pos hs, Int.max_self, Int.max_self]
    show 256 * X / X = 256
    exact Int.mul_ediv_cancel _ (by omega)
  | false =>
    rw [sm_null (fun t ht => by rw [nzB_no h t ht]; rfl)]
    decide
theorem same_at {l ws : List Int} (h : chE l l ws 2097152 = 0) {k : Nat} (hk : k < ws.length) : ∃ n : Nat, ws[k]? = some (n : Int) ∧ 1 ≤ n ∧ psN ws (k + 1) = psN ws k + n ∧ psN ws k + n ≤ 128 ∧
    (posL (gnL l l ws))[k]? = some (nzB l (psN ws k) n) ∧ (crL l l ws)[k]? = some (if nzB l (psN ws k) n then 256 else 0) ∧
    ∀ t, t < n → ∃ b, (cpB midP l l ws (posL (gnL l l ws)) 128)[psN ws k + t]? = some b ∧ (nzB l (psN ws k) n = true → b = 0) := by
  have h1 := (chE_ok h).1
  obtain ⟨n, hn, hn1, _, hs, hs8⟩ := isW_get h1 hk
  have hw : wdN ws k = n := by unfold wdN; rw [List.getD_eq_getElem?_getD, hn]; exact Int.toNat_natCast n
  have hg := gnL_get (l := l) (r := l) hk
  have hm := posL_get hg
  rw [hw, show gnF (bdP l l ws k) n = gnF (fun t => P2 l l (psN ws k + t)) n from rfl, gn_same_pos] at hm
  refine ⟨n, hn, hn1, hs, hs8, hm, ?_, fun t ht => ?_⟩
  · unfold crL
    rw [rmap_get _ hk, hw]
    exact congrArg some (cr_same l (psN ws k) n)
  · refine ⟨(cpP midP l l ws (posL (gnL l l ws)) (psN ws k + t)).2, ?_, fun hz => ?_⟩
    · unfold cpB
      exact rmap_get _ (by omega)
    · rw [cpP_at midP l l (posL (gnL l l ws)) hn ht, List.getD_eq_getElem?_getD, hm, hz]
      show (midP (P2 l l (psN ws k + t))).2 = 0
      unfold midP P2
      omega
theorem same_A {l ws : List Int} (h : chE l l ws 2097152 = 0) (mid : List Bool) : cpA midP l l ws mid 128 = l := by
  have h2 := (chE_ok h).2.1
  refine rmap_ext h2 fun i hi => ?_
  unfold cpP
  split
  · unfold midP P2
    simp only [Int.sub_self]
    rw [show (0 : Int) / 2 = 0 from rfl, Int.add_zero]
  · rfl
set_option maxRecDepth 100000 in
set_option maxHeartbeats 8000000 in
theorem same_st (lv wv : Value) (l ws : List Int) (w : World) (hl : Ints w lv l) (hw : Ints w wv ws) : Calls Try.prog 6 #[lv, wv] w fun e w' => e = .returned (.bool true) ∧ Upd NoB w w' := by
  have HL := Lib.hid hl; have HW := Lib.hid hw
  have HI := Lib.hid (rWithin_any 2097152 lv l w (by decide) (by decide) hl)
  have HV := Lib.hid (rWidths_any wv ws w hw)
  by_cases hE : chE l l ws 2097152 = 0
  · have HP := Lib.hid (fun Z (h1 : Ints Z lv l) (h3 : Ints Z wv ws) => (show Calls Try.prog 18 #[lv, lv, wv] Z (EBls Z (posL (gnL l l ws)) 0) by
      have := Choose_any lv lv wv l l ws Z h1 h1 h3
      rw [hE, show chS l l ws = _ from if_pos hE] at this
      exact this))
    have HG := Lib.hid (fun Z (h1 : Ints Z lv l) (h3 : Ints Z wv ws) => (show Calls Try.prog 22 #[lv, lv, wv] Z (EInts Z (crL l l ws) 0) by
      have := Cross_any lv lv wv l l ws Z h1 h1 h3
      rw [hE, show crS l l ws = _ from if_pos hE] at this
      exact this))
    have hcp : cpE l l ws (posL (gnL l l ws)) 2097152 = 0 := cpE_of (by rw [posL_len, gnL_len]) hE
    have HQ := Lib.hid (fun Z v (h1 : Ints Z lv l) (h3 : Ints Z wv ws) (h4 : Bls Z v (posL (gnL l l ws))) => (show Calls Try.prog 26 #[lv, lv, wv, v] Z (ETwo Z l (cpB midP l l ws (posL (gnL l l ws)) 128) 0) by
      have := Couple_any lv lv wv v l l ws _ Z h1 h1 h3 h4
      rw [hcp, show couA midP 2097152 l l ws (posL (gnL l l ws)) = _ from if_pos hcp, show couB midP 2097152 l l ws (posL (gnL l l ws)) = _ from if_pos hcp, same_A hE] at this
      exact this))
    have HAt := Lib.hid (fun k (hk : k < ws.length) => same_at hE hk)
    have HlB := Lib.hid (cpB_len midP l l ws (posL (gnL l l ws)) 128)
    have HlC := Lib.hid (show (posL (gnL l l ws)).length = ws.length by rw [posL_len, gnL_len])
    have HlX := Lib.hid (crL_len l l ws)
    have HGe := Lib.hid (show ∀ j, j < 128 → l[j]? = some (l.getD j 0) from fun j hj => by rw [List.getD_eq_getElem?_getD, List.getElem?_eq_getElem (by have := (chE_ok hE).2.1; omega)]; rfl)
    generalize cpB midP l l ws (posL (gnL l l ws)) 128 = B at *
    generalize posL (gnL l l ws) = C at *
    generalize crL l l ws = X at *
    obtain ⟨h1, h2, _, h4, _⟩ := chE_ok hE
    have HN32 := Lib.hid (isW_ok h1).1
    rw [h4] at HI
    rw [h1] at HV
    have HL8 := Lib.hid h2
    obtain ⟨la, lc, rfl⟩ := hl.form
    obtain ⟨wa, wc, rfl⟩ := hw.form
    rw [h2] at HL HI HP HG HQ ⊢
    obtain ⟨N, hN⟩ : ∃ N, ws.length = N := ⟨_, rfl⟩
    rw [hN] at HW HV HP HG HQ HAt HlC HlX HN32 ⊢
    clear hl hw h1 h2 h4 hcp hN hE
    go_enter Try.func6, Try.ntmps6
    go_wp2_with fail
    refine HI.out.mono ?_
    rintro e w' ⟨rfl, hw'⟩
    rw [hw']
    clear hw' w'
    go_wp2_with fail
    refine HV.out.mono ?_
    rintro e w' ⟨rfl, hw'⟩
    rw [hw']
    clear hw' w'
    clear HI HV
    go_wp2_with fail
    refine (HP.out _ HL.out HW.out).mono ?_
    intro e w1 hr
    obtain ⟨a1, c1, rfl, i1, u1⟩ := EBls.open hr (by rw [HlC.out]; have := HN32.out; omega)
    rw [HlC.out] at i1 ⊢
    have HL1 := Lib.hid (HL.out.later u1)
    clear HL
    have HW1 := Lib.hid (HW.out.later u1)
    clear HW
    have UU1 := Lib.hid ((Upd.refl NoB w).then u1)
    have CH1 := Lib.hid (i1)
    clear u1
    clear hr i1
    go_wp2_with fail
    refine (HG.out _ HL1.out HW1.out).mono ?_
    intro e w2 hr
    obtain ⟨a2, c2, rfl, i2, u2⟩ := EInts.open hr (by rw [HlX.out]; have := HN32.out; omega)
    rw [HlX.out] at i2 ⊢
    have HL2 := Lib.hid (HL1.out.later u2)
    clear HL1
    have HW2 := Lib.hid (HW1.out.later u2)
    clear HW1
    have CH2 := Lib.hid (CH1.out.later u2)
    clear CH1
    have UU2 := Lib.hid (UU1.out.then u2)
    clear UU1
    have CX2 := Lib.hid (i2)
    clear u2
    clear hr i2
    go_wp2_with fail
    refine (HQ.out _ _ HL2.out HW2.out CH2.out).mono ?_
    intro e w3 hr
    obtain ⟨a3, c3, b3, d3, rfl, i3, j3, u3⟩ := ETwo.open hr (by rw [HL8.out]; decide) (by rw [HlB.out]; decide)
    rw [HL8.out] at i3 ⊢
    rw [HlB.out] at j3 ⊢
    have HL3 := Lib.hid (HL2.out.later u3)
    clear HL2
    have HW3 := Lib.hid (HW2.out.later u3)
    clear HW2
    have CH3 := Lib.hid (CH2.out.later u3)
    clear CH2
    have CX3 := Lib.hid (CX2.out.later u3)
    clear CX2
    have UU3 := Lib.hid (UU2.out.then u3)
    clear UU2
    have CA3 := Lib.hid (i3)
    have CB3 := Lib.hid (j3)
    clear u3
    clear hr i3 j3
    clear HP HG HQ HlB HlC HlX
    go_wp2_with fail
    go_loop [12, 85] (fun f i => ∃ k : Nat, k ≤ N ∧ i = .int .i64 k ∧ f = .int .i64 (psN ws k : Nat)) (fun _ i => N - (intOf i).toNat)
    case atStart => exact ⟨0, Nat.zero_le _, rfl, rfl⟩
    case round =>
      obtain ⟨k, hk, rfl, rfl⟩ := hrel
      by_cases hlt : k < N
      · obtain ⟨n, hx, hn1, hps, hs8, hc, hcr, hcb⟩ := HAt.out k hlt
        have HPs := Lib.hid hps; have HCb := Lib.hid hcb
        have HNz := Lib.hid (show ∀ t, nzB l (psN ws k) (t + 1) = (nzB l (psN ws k) t || (l.getD (psN ws k + t) 0 != 0)) from fun _ => rfl)
        have HN0 := Lib.hid (show nzB l (psN ws k) 0 = false from rfl)
        generalize psN ws k = F at *
        obtain ⟨c, hcv⟩ : ∃ c, nzB l F n = c := ⟨_, rfl⟩
        have HCv := Lib.hid hcv
        rw [hcv] at hc hcr HCb
        obtain ⟨b1, o1, rfl, c1⟩ := HW3.out.cellAt hx
        obtain ⟨b2, o2, rfl, c2⟩ := CH3.out.cellAt hc
        obtain ⟨b3, o3, rfl, c3⟩ := CX3.out.cellAt hcr
        obtain ⟨T, hT⟩ : ∃ T, F + n = T := ⟨_, rfl⟩
        have HT := Lib.hid hT
        rw [hT] at HPs hs8
        have z1 : wrap64 ((F : Int) + (n : Int)) = (T : Int) := by rw [← hT]; exact IntWalk.wrap64_in _ (by omega)
        have z2 : IntKind.i64.wrap ((F : Int) + (n : Int)) = (T : Int) := by rw [← hT]; exact IntWalk.i64_in _ (by clear z1; omega)
        have hk1 : k ≤ 1000000 := by have := HN32.out; clear z1 z2; omega
        clear hx hn1 hps hcb hc hcr hcv hT
        go_wp2_with fail
        go_loop [15, 16] (fun s j => ∃ t : Nat, t ≤ n ∧ j = .int .i64 (F + t : Nat) ∧ s = .bool (nzB l F t)) (fun _ j => T - (intOf j).toNat)
        case atStart => exact ⟨0, Nat.zero_le _, rfl, by rw [HN0.out]⟩
        case round =>
          obtain ⟨t, ht, rfl, rfl⟩ := hrel
          obtain ⟨J, hJ⟩ : ∃ J, F + t = J := ⟨_, rfl⟩
          have HJ := Lib.hid hJ
          have hTt := HT.out
          by_cases htn : t < n
          · obtain ⟨b, hb, hb0⟩ := HCb.out t htn
            have HNt := Lib.hid (HNz.out t)
            rw [hJ] at hb HNt
            have hge := HGe.out J (by clear z1 z2; omega)
            generalize l.getD J 0 = v at *
            obtain ⟨b4, o4, rfl, c4⟩ := HL3.out.cellAt hge
            obtain ⟨b5, o5, rfl, c5⟩ := CB3.out.cellAt hb
            have HR := Lib.hid (show ∃ t' : Nat, t' ≤ n ∧ ((J : Int) + 1 = ((F + t' : Nat) : Int)) ∧ nzB l F t' = (nzB l F t || (v != 0)) from ⟨t + 1, by clear z1 z2; omega, by clear z1 z2; omega, HNt.out⟩)
            have hlJ : J < T := by clear z1 z2; omega
            have hlJ2 : (J : Int) < (T : Int) := by clear z1 z2; omega
            have hJ8 : J < 128 := by clear z1 z2; omega
            rw [hJ]
            generalize nzB l F t = s at *
            clear hge hb hJ hTt htn ht HJ
            have HB0 := Lib.hid hb0
            clear hb0
            by_cases hv : v = 0
            · have t1 : (v != 0) = false := by simp [hv]
              clear hv
              rw [t1] at HR
              cases c with
              | true =>
                obtain rfl := HB0.out rfl
                cases s with
                | true =>
                  go_wp2_with fail
                  go_round
                  case rel => obtain ⟨t9, h1, h2, h3⟩ := HR.out; exact ⟨t9, h1, by rw [← h2], by rw [h3]; rfl⟩
                  case measure => clear z1 z2; simp [intOf]; omega
                | false =>
                  go_wp2_with fail
                  go_round
                  case rel => obtain ⟨t9, h1, h2, h3⟩ := HR.out; exact ⟨t9, h1, by rw [← h2], by rw [h3]; rfl⟩
                  case measure => clear z1 z2; simp [intOf]; omega
              | false =>
                cases s with
                | true =>
                  go_wp2_with fail
                  go_round
                  case rel => obtain ⟨t9, h1, h2, h3⟩ := HR.out; exact ⟨t9, h1, by rw [← h2], by rw [h3]; rfl⟩
                  case measure => clear z1 z2; simp [intOf]; omega
                | false =>
                  go_wp2_with fail
                  go_round
                  case rel => obtain ⟨t9, h1, h2, h3⟩ := HR.out; exact ⟨t9, h1, by rw [← h2], by rw [h3]; rfl⟩
                  case measure => clear z1 z2; simp [intOf]; omega
            · have t1 : (v != 0) = true := by simp [hv]
              clear hv
              rw [t1] at HR
              cases c with
              | true =>
                obtain rfl := HB0.out rfl
                cases s with
                | true =>
                  go_wp2_with fail
                  go_round
                  case rel => obtain ⟨t9, h1, h2, h3⟩ := HR.out; exact ⟨t9, h1, by rw [← h2], by rw [h3]; rfl⟩
                  case measure => clear z1 z2; simp [intOf]; omega
                | false =>
                  go_wp2_with fail
                  go_round
                  case rel => obtain ⟨t9, h1, h2, h3⟩ := HR.out; exact ⟨t9, h1, by rw [← h2], by rw [h3]; rfl⟩
                  case measure => clear z1 z2; simp [intOf]; omega
              | false =>
                cases s with
                | true =>
                  go_wp2_with fail
                  go_round
                  case rel => obtain ⟨t9, h1, h2, h3⟩ := HR.out; exact ⟨t9, h1, by rw [← h2], by rw [h3]; rfl⟩
                  case measure => clear z1 z2; simp [intOf]; omega
                | false =>
                  go_wp2_with fail
                  go_round
                  case rel => obtain ⟨t9, h1, h2, h3⟩ := HR.out; exact ⟨t9, h1, by rw [← h2], by rw [h3]; rfl⟩
                  case measure => clear z1 z2; simp [intOf]; omega
          · obtain rfl : t = n := by clear z1 z2; omega
            rw [HT.out, HCv.out]
            have hlJ : ¬ T < T := Nat.lt_irrefl _
            clear htn ht hJ HJ hTt
            cases c with
            | true =>
              simp only [if_true] at c3
              go_wp2_with fail
              go_round
              case rel => exact ⟨k + 1, by clear z1 z2; omega, by go_num, by rw [HPs.out]⟩
              case measure => clear z1 z2; simp [intOf]; omega
            | false =>
              simp only [if_false, Bool.false_eq_true] at c3
              go_wp2_with fail
              go_round
              case rel => exact ⟨k + 1, by clear z1 z2; omega, by go_num, by rw [HPs.out]⟩
              case measure => clear z1 z2; simp [intOf]; omega
      · obtain rfl : k = N := by omega
        clear hlt
        clear CH3
        clear CX3
        clear CB3
        clear HW3
        go_wp2_with fail
        refine (qints_any _ _ l l _ CA3.out HL3.out).mono ?_
        rw [intsB_self]
        rintro e w4 ⟨rfl, m4, hw4⟩
        have u4 : Upd NoB w3 w4 := by rw [hw4]; exact upd_drewN (Upd.refl _ _) _
        clear HL3
        clear CA3
        have UU4 := Lib.hid (UU3.out.then u4)
        clear UU3
        clear u4 hw4
        go_wp2_with fail
        refine (awake_st _).mono ?_
        rintro e w5 ⟨rfl, u5⟩
        have UU5 := Lib.hid (UU4.out.then u5)
        clear UU4
        clear u5
        go_wp2_with fail
        go_ret
        exact ⟨rfl, UU5.out⟩
  · obtain ⟨la, lc, rfl⟩ := hl.form
    obtain ⟨wa, wc, rfl⟩ := hw.form
    have hG : l.length = 128 → inM 2097152 l = true → isW ws = true → False := fun h1 h2 h3 => hE (chE_of h3 h1 h1 h2 h2)
    generalize l.length = L at *
    generalize ws.length = N at *
    by_cases h1 : L = 128
    · subst h1
      cases h2 : inM 2097152 l with
      | true =>
        cases h3 : isW ws with
        | true => exact (hG rfl h2 h3).elim
        | false =>
          rw [h2] at HI
          rw [h3] at HV
          clear hl hw hE hG h2 h3 HL HW
          go_enter Try.func6, Try.ntmps6
          go_wp2_with fail
          refine HI.out.mono ?_
          rintro e w' ⟨rfl, hw'⟩
          rw [hw']
          clear hw' w'
          go_wp2_with fail
          refine HV.out.mono ?_
          rintro e w' ⟨rfl, hw'⟩
          rw [hw']
          clear hw' w'
          go_wp2_with fail
          refine (awake_st _).mono ?_
          rintro e w1 ⟨rfl, u1⟩
          have UU1 := Lib.hid ((Upd.refl NoB w).then u1)
          clear u1
          go_wp2_with fail
          go_ret
          exact ⟨rfl, UU1.out⟩
      | false =>
        rw [h2] at HI
        clear hl hw hE hG h2 HL HW HV
        go_enter Try.func6, Try.ntmps6
        go_wp2_with fail
        refine HI.out.mono ?_
        rintro e w' ⟨rfl, hw'⟩
        rw [hw']
        clear hw' w'
        go_wp2_with fail
        refine (awake_st _).mono ?_
        rintro e w1 ⟨rfl, u1⟩
        have UU1 := Lib.hid ((Upd.refl NoB w).then u1)
        clear u1
        go_wp2_with fail
        go_ret
        exact ⟨rfl, UU1.out⟩
    · have t1 : ((L : Int) != 128) = true := bne_iff_ne.2 (by omega)
      clear hl hw hE hG h1 HL HW HV HI
      go_enter Try.func6, Try.ntmps6
      go_wp2_with fail
      refine (awake_st _).mono ?_
      rintro e w1 ⟨rfl, u1⟩
      have UU1 := Lib.hid ((Upd.refl NoB w).then u1)
      clear u1
      go_wp2_with fail
      go_ret
      exact ⟨rfl, UU1.out⟩
end Go.Proofs.Ytopjjdfnnjgnlaa
