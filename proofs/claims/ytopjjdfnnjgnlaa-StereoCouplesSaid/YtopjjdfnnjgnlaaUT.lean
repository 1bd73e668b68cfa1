/- stereo: the law's cost; the law Best -/
import Derived.Test.YtopjjdfnnjgnlaaUS
namespace Go.Proofs.Ytopjjdfnnjgnlaa
open Go.RowKit Go.Shelf

set_option maxRecDepth 100000 in
set_option maxHeartbeats 1000000 in
theorem rwithin_any (M : Int) (v : Value) (xs : List Int) (w : World) (hM : 0 ≤ M) (hM2 : M ≤ 4611686018427387904) (h : Ints w v xs) : Calls Try.prog 64 #[.int .i64 M, v] w fun e w' => e = .returned (.bool (inM M xs)) ∧ w' = w := by
  obtain ⟨hb, a, cap, rfl, hc, h3⟩ := h
  have H3 := Lib.hid h3; clear h3
  obtain ⟨L, hL⟩ : ∃ L, L = xs.length := ⟨_, rfl⟩
  have HL := Lib.hid hL
  rw [← hL] at hb ⊢
  clear hL hc
  have wn : IntKind.i64.wrap (-M) = -M := IntWalk.i64_in _ (by omega)
  go_enter Try.func64, Try.ntmps64
  go_wp2
  go_loop [9] (fun i => ∃ k : Nat, k ≤ L ∧ i = .int .i64 k ∧ ∀ j x, j < k → xs[j]? = some x → (-M ≤ x ∧ x ≤ M)) (fun i => L - (intOf i).toNat)
  case atStart => exact ⟨0, Nat.zero_le _, rfl, fun j x hj => absurd hj (Nat.not_lt_zero _)⟩
  case round =>
    obtain ⟨k, hk, rfl, hj⟩ := hrel
    have Hj := Lib.hid hj; clear hj
    by_cases hlt : k < L
    · obtain ⟨x, hx⟩ : ∃ x, xs[k]? = some x := ⟨_, List.getElem?_eq_getElem (by rw [← HL.out]; exact hlt)⟩
      rcases H3.out with h3 | ⟨b, off, rfl, h3⟩
      · rw [h3] at hx; simp at hx
      have hcell := h3 k x hx
      have Hx := Lib.hid hx
      clear h3 hx
      by_cases h1 : x < -M
      · have t1 : decide (x < -M) = true := decide_eq_true h1
        have Hr := Lib.hid (inM_no (m := M) Hx.out (by omega))
        clear h1
        go_wp2
        go_ret
        rw [Hr.out]
        exact ⟨rfl, rfl⟩
      · have t1 : decide (x < -M) = false := decide_eq_false h1
        by_cases h2 : M < x
        · have t2 : decide (M < x) = true := decide_eq_true h2
          have Hr := Lib.hid (inM_no (m := M) Hx.out (by omega))
          clear h1 h2
          go_wp2
          go_ret
          rw [Hr.out]
          exact ⟨rfl, rfl⟩
        · have t2 : decide (M < x) = false := decide_eq_false h2
          have Hs := Lib.hid (show (-M ≤ x ∧ x ≤ M) from ⟨by omega, by omega⟩)
          clear h1 h2
          go_wp2
          go_round
          case rel => exact ⟨k + 1, by omega, by go_num, fun j y hj hy => by
            by_cases hjk : j < k
            · exact Hj.out j y hjk hy
            · obtain rfl : j = k := by omega
              rw [Hx.out] at hy
              injection hy with hy
              rw [← hy]; exact Hs.out⟩
          case measure => simp [intOf]; omega
    · obtain rfl : k = L := by omega
      have Hr := Lib.hid (inM_get (m := M) (xs := xs) (fun j x hx => Hj.out j x (by rw [HL.out]; exact (List.getElem?_eq_some_iff.1 hx).1) hx))
      go_wp2
      go_ret
      rw [Hr.out]
      exact ⟨rfl, rfl⟩
set_option maxRecDepth 100000 in
theorem rWithin_any (M : Int) (v : Value) (xs : List Int) (w : World) (hM : 0 ≤ M) (hM2 : M ≤ 4611686018427387904) (h : Ints w v xs) : Calls Try.prog 30 #[.int .i64 M, v] w fun e w' => e = .returned (.bool (inM M xs)) ∧ w' = w := by
  have H := Lib.hid (rwithin_any M v xs w hM hM2 h)
  clear h
  go_enter Try.func30, Try.ntmps30
  go_wp2_with fail
  refine H.out.mono ?_
  rintro e w' ⟨rfl, rfl⟩
  go_wp2_with fail
  go_ret
  exact ⟨rfl, rfl⟩
set_option maxRecDepth 100000 in
theorem rLevel_any (c : Int) (w : World) (h : -1073741824 ≤ c ∧ c ≤ 1073741824) : Calls Try.prog 65 #[.int .i64 (max c (-c) + 1)] w fun r w' => r = .returned (.int .i64 (lgA c)) ∧ w' = w := by
  have HL := Lib.hid (rLog_any (max c (-c) + 1) w)
  have hE : lgE (max c (-c) + 1) = 0 := by
    rcases lgE_cases (max c (-c) + 1) with h | h | h
    · omega
    · omega
    · exact h.2.2
  rw [hE] at HL
  have HR := Lib.hid (show onOk 0 ((logN (max c (-c) + 1).toNat : Nat) : Int) = lgA c by unfold onOk lgA; rw [if_pos rfl])
  rw [HR.out] at HL
  generalize lgA c = V at *
  clear hE
  generalize max c (-c) + 1 = m at *
  go_enter Try.func65, Try.ntmps65
  go_wp2_with fail
  refine HL.out.mono ?_
  rintro r w' ⟨rfl, rfl⟩
  go_wp2_with fail
  go_ret
  exact ⟨rfl, rfl⟩
def csL (xs : List Int) : Int := sm (fun i => lgA (xs.getD i 0)) xs.length
set_option maxRecDepth 100000 in
set_option maxHeartbeats 4000000 in
theorem cost_any (v : Value) (xs : List Int) (w : World) (h : Ints w v xs) (hl : xs.length ≤ 1000) (hx : ∀ i, -1073741824 ≤ xs.getD i 0 ∧ xs.getD i 0 ≤ 1073741824) : Calls Try.prog 32 #[v] w fun e w' => e = .returned (.int .i64 (csL xs)) ∧ w' = w := by
  have H := Lib.hid h; have HX := Lib.hid hx
  have HB := Lib.hid (fun k => sm_bd (A := 0) (B := 16128) (g := fun i => lgA (xs.getD i 0)) (n := k) (fun i _ => lgA_bd (hx i)))
  have HS := Lib.hid (fun k => sm_succ (fun i => lgA (xs.getD i 0)) k)
  have HE := Lib.hid (show csL xs = sm (fun i => lgA (xs.getD i 0)) xs.length from rfl)
  rw [HE.out]
  obtain ⟨a, cap, rfl⟩ := h.form
  obtain ⟨L, hL⟩ : ∃ L, xs.length = L := ⟨_, rfl⟩
  have HL := Lib.hid hL
  rw [hL] at H hl ⊢
  clear h hx hL HE
  go_enter Try.func32, Try.ntmps32
  go_wp2_with fail
  go_loop [3, 8] (fun s i => ∃ k : Nat, k ≤ L ∧ i = .int .i64 k ∧ s = .int .i64 (sm (fun i => lgA (xs.getD i 0)) k)) (fun _ i => L - (intOf i).toNat)
  case atStart => exact ⟨0, Nat.zero_le _, rfl, rfl⟩
  case round =>
    obtain ⟨k, hk, rfl, rfl⟩ := hrel
    by_cases hlt : k < L
    · obtain ⟨x, hx⟩ : ∃ x, xs[k]? = some x := ⟨_, List.getElem?_eq_getElem (by rw [HL.out]; exact hlt)⟩
      obtain ⟨bb, off, rfl, c0⟩ := H.out.cellAt hx
      have hg : xs.getD k 0 = x := by rw [List.getD_eq_getElem?_getD, hx]; rfl
      have hxi := HX.out k
      have hs := HS.out k
      have hb := HB.out k
      simp only [hg] at hs
      rw [hg] at hxi
      have HLv := Lib.hid (fun w => rLevel_any x w hxi)
      have hq := lgA_bd hxi
      generalize lgA x = q at *
      have HSu := Lib.hid hs
      generalize sm (fun i => lgA (xs.getD i 0)) k = S at *
      have hS1 : S ≤ 16128000 := by omega
      have hS0 : 0 ≤ S := by omega
      have y1 : IntKind.i64.wrap (-x) = -x := IntWalk.i64_in _ (by omega)
      have y2 : wrap64 (-x) = -x := IntWalk.wrap64_in _ (by omega)
      have y3 : IntKind.i64.wrap (max x (-x) + 1) = max x (-x) + 1 := IntWalk.i64_in _ (by omega)
      have y4 : wrap64 (max x (-x) + 1) = max x (-x) + 1 := IntWalk.wrap64_in _ (by omega)
      have z1 : wrap64 (S + q) = S + q := IntWalk.wrap64_in _ (by omega)
      have z2 : IntKind.i64.wrap (S + q) = S + q := IntWalk.i64_in _ (by omega)
      clear hx hg hxi hs hb hq hS1 hS0
      go_wp2_with fail
      refine (HLv.out _).mono ?_
      rintro e w' ⟨rfl, rfl⟩
      go_wp2_with fail
      go_round
      case rel => exact ⟨k + 1, by clear y1 y2 y3 y4 z1 z2; omega, by go_num, by rw [HSu.out]⟩
      case measure => clear y1 y2 y3 y4 z1 z2; simp [intOf]; omega
    · obtain rfl : k = L := by omega
      clear hlt
      go_wp2_with fail
      go_ret
      exact ⟨rfl, rfl⟩
theorem sm_bandsN {ws : List Int} (h : isW ws = true) (g : Nat → Int) : sm (fun j => sm (fun t => g (psN ws j + t)) (wdN ws j)) ws.length = sm g 128 := by
  have := sm_bands ws g ws.length (Nat.le_refl _)
  rw [(isW_ok h).2.2.2] at this
  exact this
theorem gnL_get {l r ws : List Int} {k : Nat} (h : k < ws.length) : (gnL l r ws)[k]? = some (gnF (bdP l r ws k) (wdN ws k)) := by unfold gnL; exact rmap_get _ h
theorem csL_two {A B : List Int} (hA : A.length = 128) (hB : B.length = 128) : csL A + csL B = sm (fun i => csP (P2 A B i)) 128 := by
  unfold csL
  rw [hA, hB, ← sm_add]
  rfl
theorem posL_get {gs : List Int} {k : Nat} {g : Int} (h : gs[k]? = some g) : (posL gs)[k]? = some (decide (0 < g)) := by unfold posL; rw [List.getElem?_map, h]; rfl
theorem posL_len (gs : List Int) : (posL gs).length = gs.length := by simp [posL]
theorem best_math {l r ws : List Int} (h : chE l r ws 2097152 = 0) : csL l + csL r - csL (cpA midP l r ws (posL (gnL l r ws)) 128) - csL (cpB midP l r ws (posL (gnL l r ws)) 128) = sm (fun j => max 0 ((gnL l r ws).getD j 0)) ws.length := by
  obtain ⟨h1, h2, h3, _, _⟩ := chE_ok h
  have e1 := csL_two h2 h3
  have e2 := csL_two (cpA_len midP l r ws (posL (gnL l r ws)) 128) (cpB_len midP l r ws (posL (gnL l r ws)) 128)
  rw [sm_congr (n := 128) (f := fun i => csP (P2 (cpA midP l r ws (posL (gnL l r ws)) 128) (cpB midP l r ws (posL (gnL l r ws)) 128) i)) (g := fun i => csP (cpP midP l r ws (posL (gnL l r ws)) i)) (fun i hi => by rw [cpA_get hi])] at e2
  rw [← sm_bandsN h1] at e1 e2
  have e3 := sm_sub (fun j => sm (fun t => csP (P2 l r (psN ws j + t))) (wdN ws j)) (fun j => sm (fun t => csP (cpP midP l r ws (posL (gnL l r ws)) (psN ws j + t))) (wdN ws j)) ws.length
  rw [← e1, ← e2] at e3
  have e4 : sm (fun j => max 0 ((gnL l r ws).getD j 0)) ws.length = sm (fun j => sm (fun t => csP (P2 l r (psN ws j + t))) (wdN ws j) - sm (fun t => csP (cpP midP l r ws (posL (gnL l r ws)) (psN ws j + t))) (wdN ws j)) ws.length := by
    refine sm_congr fun j hj => ?_
    obtain ⟨n, hn, _, _, _, _⟩ := isW_get h1 hj
    have hw : wdN ws j = n := by unfold wdN; rw [List.getD_eq_getElem?_getD, hn]; exact Int.toNat_natCast n
    have hg := gnL_get (l := l) (r := r) hj
    have hm := posL_get hg
    have hgd : (gnL l r ws).getD j 0 = gnF (bdP l r ws j) (wdN ws j) := by rw [List.getD_eq_getElem?_getD, hg]; rfl
    have hmd : (posL (gnL l r ws)).getD j false = decide (0 < gnF (bdP l r ws j) (wdN ws j)) := by rw [List.getD_eq_getElem?_getD, hm]; rfl
    have hc : sm (fun t => csP (cpP midP l r ws (posL (gnL l r ws)) (psN ws j + t))) (wdN ws j) = sm (fun t => csP (if decide (0 < gnF (bdP l r ws j) (wdN ws j)) then midP (P2 l r (psN ws j + t)) else P2 l r (psN ws j + t))) (wdN ws j) :=
      sm_congr fun t ht => by rw [cpP_at midP l r (posL (gnL l r ws)) hn (by omega), hmd]
    rw [hc, hgd]
    have hgn : gnF (bdP l r ws j) (wdN ws j) = sm (fun t => csP (P2 l r (psN ws j + t))) (wdN ws j) - sm (fun t => csP (midP (P2 l r (psN ws j + t)))) (wdN ws j) := rfl
    by_cases hp : 0 < gnF (bdP l r ws j) (wdN ws j)
    · simp only [decide_eq_true hp, if_true]
      omega
    · simp only [decide_eq_false hp, Bool.false_eq_true, if_false]
      omega
  rw [e4]
  omega
theorem gnF_bd {p : Nat → Int × Int} {n : Nat} (hn : n ≤ 128) (hp : ∀ i, InP 2097152 (p i)) : -4128768 ≤ gnF p n ∧ gnF p n ≤ 4128768 := by
  unfold gnF
  have h1 := sm_bd (A := 0) (B := 32256) (g := fun t => csP (p t)) (n := n) (fun i _ => csP_bd ((hp i).mono (by decide)))
  have h2 := sm_bd (A := 0) (B := 32256) (g := fun t => csP (midP (p t))) (n := n) (fun i _ => csP_bd ((mid_in (hp i)).mono (by decide)))
  omega
theorem best_at {l r ws : List Int} (h : chE l r ws 2097152 = 0) : ws.length ≤ 32 ∧ (gnL l r ws).length = ws.length ∧ ∀ k, k < ws.length → ∃ x, (gnL l r ws)[k]? = some x ∧ (posL (gnL l r ws))[k]? = some (decide (0 < x)) ∧ -4128768 ≤ x ∧ x ≤ 4128768 := by
  obtain ⟨h1, _, _, h4, h5⟩ := chE_ok h
  refine ⟨(isW_ok h1).1, gnL_len _ _ _, fun k hk => ?_⟩
  have hg := gnL_get (l := l) (r := r) hk
  obtain ⟨n, hn, _, _, _, _⟩ := isW_get h1 hk
  have hw : wdN ws k = n := by unfold wdN; rw [List.getD_eq_getElem?_getD, hn]; exact Int.toNat_natCast n
  have := gnF_bd (p := bdP l r ws k) (n := wdN ws k) (by omega) (fun i => P2_in (by decide) h4 h5 _)
  exact ⟨_, hg, posL_get hg, this.1, this.2⟩
theorem gd_in {M : Int} {xs : List Int} (h0 : 0 ≤ M) (hM : M ≤ 1073741824) (h : inM M xs = true) (i : Nat) : -1073741824 ≤ xs.getD i 0 ∧ xs.getD i 0 ≤ 1073741824 := by
  rw [List.getD_eq_getElem?_getD]
  cases e : xs[i]? with
  | none => exact ⟨by decide, by decide⟩
  | some y => have := inM_yes h y (List.mem_of_getElem? e); show _ ≤ y ∧ y ≤ _; omega
theorem csL_bd {xs : List Int} (hl : xs.length = 128) (hx : ∀ i, -1073741824 ≤ xs.getD i 0 ∧ xs.getD i 0 ≤ 1073741824) : 0 ≤ csL xs ∧ csL xs ≤ 2064384 := by
  have := sm_bd (A := 0) (B := 16128) (g := fun i => lgA (xs.getD i 0)) (n := xs.length) (fun i _ => lgA_bd (hx i))
  unfold csL
  omega
set_option maxRecDepth 100000 in
set_option maxHeartbeats 8000000 in
theorem best_st (lv rv wv : Value) (l r ws : List Int) (w : World) (hl : Ints w lv l) (hr : Ints w rv r) (hw : Ints w wv ws) : Calls Try.prog 7 #[.agg #[lv, rv], wv] w fun e w' => e = .returned (.bool true) ∧ Upd NoB w w' := by
  have HL := Lib.hid hl; have HR := Lib.hid hr; have HW := Lib.hid hw
  have HEE := Lib.hid (show (chE l r ws 2097152 == chE l r ws 2097152) = true by simp)
  by_cases hE : chE l r ws 2097152 = 0
  · have HP := Lib.hid (fun Z (h1 : Ints Z lv l) (h2 : Ints Z rv r) (h3 : Ints Z wv ws) => (show Calls Try.prog 18 #[lv, rv, wv] Z (EBls Z (posL (gnL l r ws)) 0) by
      have := Choose_any lv rv wv l r ws Z h1 h2 h3
      rw [hE, show chS l r ws = _ from if_pos hE] at this
      exact this))
    have HG := Lib.hid (fun Z (h1 : Ints Z lv l) (h2 : Ints Z rv r) (h3 : Ints Z wv ws) => (show Calls Try.prog 20 #[lv, rv, wv] Z (EInts Z (gnL l r ws) 0) by
      have := Gains_any lv rv wv l r ws Z h1 h2 h3
      rw [hE, show gnS l r ws = _ from if_pos hE] at this
      exact this))
    have hAt := best_at hE
    have hcp : cpE l r ws (posL (gnL l r ws)) 2097152 = 0 := cpE_of (by rw [posL_len, hAt.2.1]) hE
    have HQ := Lib.hid (fun Z v (h1 : Ints Z lv l) (h2 : Ints Z rv r) (h3 : Ints Z wv ws) (h4 : Bls Z v (posL (gnL l r ws))) => (show Calls Try.prog 26 #[lv, rv, wv, v] Z (ETwo Z (cpA midP l r ws (posL (gnL l r ws)) 128) (cpB midP l r ws (posL (gnL l r ws)) 128) 0) by
      have := Couple_any lv rv wv v l r ws _ Z h1 h2 h3 h4
      rw [hcp, show couA midP 2097152 l r ws (posL (gnL l r ws)) = _ from if_pos hcp, show couB midP 2097152 l r ws (posL (gnL l r ws)) = _ from if_pos hcp] at this
      exact this))
    have hm := best_math hE
    have iA : inM 8388608 (cpA midP l r ws (posL (gnL l r ws)) 128) = true := inM_map fun i _ => (cpP_in (M := 8388608) (by decide) hcp (by decide) i).1
    have iB : inM 8388608 (cpB midP l r ws (posL (gnL l r ws)) 128) = true := inM_map fun i _ => (cpP_in (M := 8388608) (by decide) hcp (by decide) i).2
    have lA := cpA_len midP l r ws (posL (gnL l r ws)) 128
    have lB := cpB_len midP l r ws (posL (gnL l r ws)) 128
    have HPl := Lib.hid (posL_len (gnL l r ws))
    generalize cpA midP l r ws (posL (gnL l r ws)) 128 = A at *
    generalize cpB midP l r ws (posL (gnL l r ws)) 128 = B at *
    obtain ⟨C, hC⟩ : ∃ C, posL (gnL l r ws) = C := ⟨_, rfl⟩
    rw [hC] at HP HQ hAt HPl
    clear hC
    generalize gnL l r ws = gs at *
    obtain ⟨h1, h2, h3, h4, h5⟩ := chE_ok hE
    have gl := gd_in (by decide) (by decide) h4; have gr := gd_in (by decide) (by decide) h5; have ga := gd_in (by decide) (by decide) iA; have gb := gd_in (by decide) (by decide) iB
    have HKl := Lib.hid (fun Z h => cost_any lv l Z h (by omega) gl)
    have HKr := Lib.hid (fun Z h => cost_any rv r Z h (by omega) gr)
    have HKa := Lib.hid (fun Z v h => cost_any v A Z h (by omega) ga)
    have HKb := Lib.hid (fun Z v h => cost_any v B Z h (by omega) gb)
    have HIa := Lib.hid (fun Z v h => (show Calls Try.prog 30 #[.int .i64 8388608, v] Z fun e w' => e = .returned (.bool true) ∧ w' = Z by
      have := rWithin_any 8388608 v A Z (by decide) (by decide) h
      rw [iA] at this
      exact this))
    have HIb := Lib.hid (fun Z v h => (show Calls Try.prog 30 #[.int .i64 8388608, v] Z fun e w' => e = .returned (.bool true) ∧ w' = Z by
      have := rWithin_any 8388608 v B Z (by decide) (by decide) h
      rw [iB] at this
      exact this))
    have bl := csL_bd h2 gl; have br := csL_bd h3 gr; have ba := csL_bd lA ga; have bb := csL_bd lB gb
    generalize csL l = cl at *; generalize csL r = cr at *; generalize csL A = ca at *; generalize csL B = cb at *
    have HCb := Lib.hid (show (0 ≤ cl ∧ cl ≤ 2064384) ∧ (0 ≤ cr ∧ cr ≤ 2064384) ∧ (0 ≤ ca ∧ ca ≤ 2064384) ∧ (0 ≤ cb ∧ cb ≤ 2064384) from ⟨bl, br, ba, bb⟩)
    have HSu := Lib.hid (fun k => sm_succ (fun j => max 0 (gs.getD j 0)) k)
    have HSb := Lib.hid (show ∀ k, k ≤ ws.length → 0 ≤ sm (fun j => max 0 (gs.getD j 0)) k ∧ sm (fun j => max 0 (gs.getD j 0)) k ≤ 132120576 from fun k hk => by
      have h32 := hAt.1
      have := sm_bd (A := 0) (B := 4128768) (g := fun j => max 0 (gs.getD j 0)) (n := k) (fun i hi => by
        obtain ⟨x, hx, _, x1, x2⟩ := hAt.2.2 i (by omega)
        rw [List.getD_eq_getElem?_getD, hx]
        show 0 ≤ max 0 x ∧ max 0 x ≤ 4128768
        omega)
      omega)
    have HMa := Lib.hid hm
    have HN32 := Lib.hid hAt.1; have HGl := Lib.hid hAt.2.1; have HAt := Lib.hid hAt.2.2
    have HlA := Lib.hid lA; have HlB := Lib.hid lB
    obtain ⟨la, lc, rfl⟩ := hl.form
    obtain ⟨ra, rc, rfl⟩ := hr.form
    obtain ⟨wa, wc, rfl⟩ := hw.form
    generalize l.length = L at *
    generalize r.length = R at *
    generalize ws.length = N at *
    have HF := Lib.hid (fun Z => few_any la ra wa none L R N 0 lc rc wc 0 Z)
    clear hl hr hw h1 h2 h3 h4 h5 gl gr ga gb bl br ba bb iA iB hm hcp hAt lA lB HEE hE
    cases hf : fewB L R N 0 with
    | false =>
      rw [hf] at HF
      clear hf HP HG HQ HKl HKr HKa HKb HIa HIb HCb HSu HSb HMa HAt
      go_enter Try.func7, Try.ntmps7
      have d0 := cell_of_block0 (heap_alloc_new w (.cells #[.slice la L lc, .slice ra R rc] 24))
      have d1 := cell_of_block1 (heap_alloc_new w (.cells #[.slice la L lc, .slice ra R rc] 24))
      have HC := Lib.hid (fun Z (u : Upd NoB (w.alloc (.cells #[.slice la L lc, .slice ra R rc] 24)) Z) => And.intro (u.cell d0 (noB _)) (u.cell d1 (noB _)))
      have b0 : Upd NoB w (w.alloc (.cells #[.slice la L lc, .slice ra R rc] 24)) := (Upd.refl _ _).alloc _
      have B0 := Lib.hid b0
      clear d0 d1 b0
      obtain ⟨d0, d1⟩ := HC.out _ (Upd.refl NoB (w.alloc (.cells #[.slice la L lc, .slice ra R rc] 24)))
      go_wp2_with fail
      clear d0 d1
      refine (HF.out _).mono ?_
      rintro e w1 ⟨rfl, u1⟩
      have UU1 := Lib.hid ((Upd.refl NoB (w.alloc (.cells #[.slice la L lc, .slice ra R rc] 24))).then u1)
      clear u1
      go_wp2_with fail
      refine (awake_st _).mono ?_
      rintro e w2 ⟨rfl, u2⟩
      have UU2 := Lib.hid (UU1.out.then u2)
      clear UU1
      clear u2
      go_wp2_with fail
      go_ret
      exact ⟨rfl, B0.out.then UU2.out⟩
    | true =>
      rw [hf] at HF
      clear hf
      go_enter Try.func7, Try.ntmps7
      have d0 := cell_of_block0 (heap_alloc_new w (.cells #[.slice la L lc, .slice ra R rc] 24))
      have d1 := cell_of_block1 (heap_alloc_new w (.cells #[.slice la L lc, .slice ra R rc] 24))
      have HC := Lib.hid (fun Z (u : Upd NoB (w.alloc (.cells #[.slice la L lc, .slice ra R rc] 24)) Z) => And.intro (u.cell d0 (noB _)) (u.cell d1 (noB _)))
      have b0 : Upd NoB w (w.alloc (.cells #[.slice la L lc, .slice ra R rc] 24)) := (Upd.refl _ _).alloc _
      have B0 := Lib.hid b0
      have HL0 := Lib.hid (HL.out.later b0)
      clear HL
      have HR0 := Lib.hid (HR.out.later b0)
      clear HR
      have HW0 := Lib.hid (HW.out.later b0)
      clear HW
      clear d0 d1 b0
      obtain ⟨d0, d1⟩ := HC.out _ (Upd.refl NoB (w.alloc (.cells #[.slice la L lc, .slice ra R rc] 24)))
      go_wp2_with fail
      clear d0 d1
      refine (HF.out _).mono ?_
      rintro e w1 ⟨rfl, u1⟩
      have HL1 := Lib.hid (HL0.out.later u1)
      clear HL0
      have HR1 := Lib.hid (HR0.out.later u1)
      clear HR0
      have HW1 := Lib.hid (HW0.out.later u1)
      clear HW0
      have UU1 := Lib.hid ((Upd.refl NoB (w.alloc (.cells #[.slice la L lc, .slice ra R rc] 24))).then u1)
      clear u1
      obtain ⟨d0, d1⟩ := HC.out _ UU1.out
      go_wp2_with fail
      clear d0 d1
      refine (HP.out _ HL1.out HR1.out HW1.out).mono ?_
      intro e w2 hr
      obtain ⟨a2, c2, rfl, i2, u2⟩ := EBls.open hr (by rw [HPl.out, HGl.out]; have := HN32.out; omega)
      rw [HPl.out, HGl.out] at i2 ⊢
      have HL2 := Lib.hid (HL1.out.later u2)
      clear HL1
      have HR2 := Lib.hid (HR1.out.later u2)
      clear HR1
      have HW2 := Lib.hid (HW1.out.later u2)
      clear HW1
      have UU2 := Lib.hid (UU1.out.then u2)
      clear UU1
      have CH2 := Lib.hid (i2)
      clear u2
      clear hr i2
      obtain ⟨d0, d1⟩ := HC.out _ UU2.out
      go_wp2_with fail
      clear d0 d1
      refine (HG.out _ HL2.out HR2.out HW2.out).mono ?_
      intro e w3 hr
      obtain ⟨a3, c3, rfl, i3, u3⟩ := EInts.open hr (by rw [HGl.out]; have := HN32.out; omega)
      rw [HGl.out] at i3 ⊢
      have HL3 := Lib.hid (HL2.out.later u3)
      clear HL2
      have HR3 := Lib.hid (HR2.out.later u3)
      clear HR2
      have HW3 := Lib.hid (HW2.out.later u3)
      clear HW2
      have CH3 := Lib.hid (CH2.out.later u3)
      clear CH2
      have UU3 := Lib.hid (UU2.out.then u3)
      clear UU2
      have GN3 := Lib.hid (i3)
      clear u3
      clear hr i3
      obtain ⟨d0, d1⟩ := HC.out _ UU3.out
      go_wp2_with fail
      clear d0 d1
      refine (HQ.out _ _ HL3.out HR3.out HW3.out CH3.out).mono ?_
      intro e w4 hr
      obtain ⟨a4, c4, b4, d4, rfl, i4, j4, u4⟩ := ETwo.open hr (by rw [HlA.out]; decide) (by rw [HlB.out]; decide)
      rw [HlA.out] at i4 ⊢
      rw [HlB.out] at j4 ⊢
      have HL4 := Lib.hid (HL3.out.later u4)
      clear HL3
      have HR4 := Lib.hid (HR3.out.later u4)
      clear HR3
      clear HW3
      have CH4 := Lib.hid (CH3.out.later u4)
      clear CH3
      have GN4 := Lib.hid (GN3.out.later u4)
      clear GN3
      have UU4 := Lib.hid (UU3.out.then u4)
      clear UU3
      have CA4 := Lib.hid (i4)
      have CB4 := Lib.hid (j4)
      clear u4
      clear hr i4 j4
      go_wp2_with fail
      refine (HIa.out _ _ CA4.out).mono ?_
      rintro e w5 ⟨rfl, hw5⟩
      have u5 : Upd NoB w4 w5 := by rw [hw5]; exact Upd.refl _ _
      clear hw5
      have HL5 := Lib.hid (HL4.out.later u5)
      clear HL4
      have HR5 := Lib.hid (HR4.out.later u5)
      clear HR4
      have CH5 := Lib.hid (CH4.out.later u5)
      clear CH4
      have GN5 := Lib.hid (GN4.out.later u5)
      clear GN4
      have CA5 := Lib.hid (CA4.out.later u5)
      clear CA4
      have CB5 := Lib.hid (CB4.out.later u5)
      clear CB4
      have UU5 := Lib.hid (UU4.out.then u5)
      clear UU4
      clear u5
      go_wp2_with fail
      refine (HIb.out _ _ CB5.out).mono ?_
      rintro e w6 ⟨rfl, hw6⟩
      have u6 : Upd NoB w5 w6 := by rw [hw6]; exact Upd.refl _ _
      clear hw6
      have HL6 := Lib.hid (HL5.out.later u6)
      clear HL5
      have HR6 := Lib.hid (HR5.out.later u6)
      clear HR5
      have CH6 := Lib.hid (CH5.out.later u6)
      clear CH5
      have GN6 := Lib.hid (GN5.out.later u6)
      clear GN5
      have CA6 := Lib.hid (CA5.out.later u6)
      clear CA5
      have CB6 := Lib.hid (CB5.out.later u6)
      clear CB5
      have UU6 := Lib.hid (UU5.out.then u6)
      clear UU5
      clear u6
      go_wp2_with fail
      go_loopw [12, 82] (fun s i wr => ∃ k : Nat, k ≤ N ∧ i = .int .i64 k ∧ s = .int .i64 (sm (fun j => max 0 (gs.getD j 0)) k) ∧ Upd NoB w6 wr) (fun _ i _ => N - (intOf i).toNat)
      case atStart => exact ⟨0, Nat.zero_le _, rfl, rfl, Upd.refl _ _⟩
      case round =>
        obtain ⟨k, hk, rfl, rfl, hu⟩ := hrel
        have HU := Lib.hid hu
        by_cases hlt : k < N
        · obtain ⟨x, hx, hp, x1, x2⟩ := HAt.out k hlt
          have hgd : gs.getD k 0 = x := by rw [List.getD_eq_getElem?_getD, hx]; rfl
          have hs := HSu.out k
          simp only [hgd] at hs
          obtain ⟨s0, s1⟩ := HSb.out k hk
          have HSk := Lib.hid hs
          obtain ⟨b1, o1, rfl, c1⟩ := (CH6.out.later hu).cellAt hp
          obtain ⟨b2, o2, rfl, c2⟩ := (GN6.out.later hu).cellAt hx
          generalize sm (fun j => max 0 (gs.getD j 0)) k = S at *
          have z1 : wrap64 (S + max 0 x) = S + max 0 x := IntWalk.wrap64_in _ (by omega)
          have z2 : IntKind.i64.wrap (S + max 0 x) = S + max 0 x := IntWalk.i64_in _ (by clear z1; omega)
          have hk1 : k ≤ 1000000 := by have := HN32.out; clear z1 z2; omega
          clear hx hp hgd hs s0 s1 x1 x2 hu
          by_cases hpos : 0 < x
          · have t1 : decide (0 < x) = true := decide_eq_true hpos
            rw [t1] at c1
            clear hpos
            go_wp2_with fail
            go_roundw
            case rel => exact ⟨k + 1, by clear z1 z2; omega, by go_num, by rw [HSk.out], HU.out⟩
            case measure => clear z1 z2; simp [intOf]; omega
          · have t1 : decide (0 < x) = false := decide_eq_false hpos
            rw [t1] at c1
            clear hpos
            go_wp2_with fail
            go_roundw
            case rel => exact ⟨k + 1, by clear z1 z2; omega, by go_num, by rw [HSk.out], HU.out⟩
            case measure => clear z1 z2; simp [intOf]; omega
        · obtain rfl : k = N := by omega
          have u7 := hu
          clear CH6
          clear GN6
          have HL7 := Lib.hid (HL6.out.later u7)
          clear HL6
          have HR7 := Lib.hid (HR6.out.later u7)
          clear HR6
          have CA7 := Lib.hid (CA6.out.later u7)
          clear CA6
          have CB7 := Lib.hid (CB6.out.later u7)
          clear CB6
          have UU7 := Lib.hid (UU6.out.then u7)
          clear UU6
          obtain ⟨bl, br, ba, bb⟩ := HCb.out
          have hm := HMa.out
          generalize sm (fun j => max 0 (gs.getD j 0)) k = S at *
          have z1 : wrap64 (cl + cr) = cl + cr := IntWalk.wrap64_in _ (by omega)
          have z2 : IntKind.i64.wrap (cl + cr) = cl + cr := IntWalk.i64_in _ (by omega)
          have z3 : wrap64 (cl + cr - ca) = cl + cr - ca := IntWalk.wrap64_in _ (by omega)
          have z4 : IntKind.i64.wrap (cl + cr - ca) = cl + cr - ca := IntWalk.i64_in _ (by omega)
          have z5 : wrap64 (cl + cr - ca - cb) = cl + cr - ca - cb := IntWalk.wrap64_in _ (by omega)
          have z6 : IntKind.i64.wrap (cl + cr - ca - cb) = cl + cr - ca - cb := IntWalk.i64_in _ (by omega)
          have t9 : ((cl + cr - ca - cb) == S) = true := beq_iff_eq.2 hm
          have HKL := Lib.hid (fun Z (u : Upd NoB wr Z) => HKl.out Z (HL7.out.later u))
          have HKR := Lib.hid (fun Z (u : Upd NoB wr Z) => HKr.out Z (HR7.out.later u))
          have HKA := Lib.hid (fun Z (u : Upd NoB wr Z) => HKa.out Z _ (CA7.out.later u))
          have HKB := Lib.hid (fun Z (u : Upd NoB wr Z) => HKb.out Z _ (CB7.out.later u))
          clear hu hlt u7 bl br ba bb hm HKl HKr HKa HKb HIa HIb HCb HSu HSb HMa HAt HP HG HQ HF
          have ud : Upd NoB wr wr.drew := (Upd.refl NoB wr).drew
          have UD := Lib.hid ud
          obtain ⟨d0, d1⟩ := HC.out _ (UU7.out.then ud)
          obtain ⟨d2, d3⟩ := HC.out _ UU7.out
          clear ud
          go_wp2_with fail
          go_region_with (first
            | (go_at_call 32; (with_reducible refine (HKL.out _ UD.out).mono ?_); rintro e w4 ⟨rfl, rfl⟩)
            | (go_at_call 32; (with_reducible refine (HKR.out _ UD.out).mono ?_); rintro e w4 ⟨rfl, rfl⟩)
            | (go_at_call 32; (with_reducible refine (HKA.out _ UD.out).mono ?_); rintro e w4 ⟨rfl, rfl⟩)
            | (go_at_call 32; (with_reducible refine (HKB.out _ UD.out).mono ?_); rintro e w4 ⟨rfl, rfl⟩)
            | (go_at_call 17; (with_reducible refine (awake_st _).mono ?_); rintro e w5 ⟨rfl, u5⟩; have U9 := Lib.hid (UD.out.then u5); clear u5))
          all_goals
            go_wp2_with fail
            go_ret
            exact ⟨rfl, B0.out.then (UU7.out.then U9.out)⟩
  · have HP := Lib.hid (fun Z (h1 : Ints Z lv l) (h2 : Ints Z rv r) (h3 : Ints Z wv ws) => Choose_any lv rv wv l r ws Z h1 h2 h3)
    have HG := Lib.hid (fun Z (h1 : Ints Z lv l) (h2 : Ints Z rv r) (h3 : Ints Z wv ws) => Gains_any lv rv wv l r ws Z h1 h2 h3)
    rw [show chS l r ws = [] from if_neg hE] at HP
    rw [show gnS l r ws = [] from if_neg hE] at HG
    obtain ⟨la, lc, rfl⟩ := hl.form
    obtain ⟨ra, rc, rfl⟩ := hr.form
    obtain ⟨wa, wc, rfl⟩ := hw.form
    generalize l.length = L at *
    generalize r.length = R at *
    generalize ws.length = N at *
    generalize chE l r ws 2097152 = E at *
    have HF := Lib.hid (fun Z => few_any la ra wa none L R N 0 lc rc wc 0 Z)
    have t7 := HEE.out
    have t8 : (E != 0) = true := bne_iff_ne.2 hE
    have t9 : (E == 0) = false := beq_eq_false_iff_ne.2 hE
    clear hl hr hw hE HEE
    cases hf : fewB L R N 0 with
    | false =>
      rw [hf] at HF
      clear hf HP HG
      go_enter Try.func7, Try.ntmps7
      have d0 := cell_of_block0 (heap_alloc_new w (.cells #[.slice la L lc, .slice ra R rc] 24))
      have d1 := cell_of_block1 (heap_alloc_new w (.cells #[.slice la L lc, .slice ra R rc] 24))
      have HC := Lib.hid (fun Z (u : Upd NoB (w.alloc (.cells #[.slice la L lc, .slice ra R rc] 24)) Z) => And.intro (u.cell d0 (noB _)) (u.cell d1 (noB _)))
      have b0 : Upd NoB w (w.alloc (.cells #[.slice la L lc, .slice ra R rc] 24)) := (Upd.refl _ _).alloc _
      have B0 := Lib.hid b0
      clear d0 d1 b0
      obtain ⟨d0, d1⟩ := HC.out _ (Upd.refl NoB (w.alloc (.cells #[.slice la L lc, .slice ra R rc] 24)))
      go_wp2_with fail
      clear d0 d1
      refine (HF.out _).mono ?_
      rintro e w1 ⟨rfl, u1⟩
      have UU1 := Lib.hid ((Upd.refl NoB (w.alloc (.cells #[.slice la L lc, .slice ra R rc] 24))).then u1)
      clear u1
      go_wp2_with fail
      refine (awake_st _).mono ?_
      rintro e w2 ⟨rfl, u2⟩
      have UU2 := Lib.hid (UU1.out.then u2)
      clear UU1
      clear u2
      go_wp2_with fail
      go_ret
      exact ⟨rfl, B0.out.then UU2.out⟩
    | true =>
      rw [hf] at HF
      clear hf
      go_enter Try.func7, Try.ntmps7
      have d0 := cell_of_block0 (heap_alloc_new w (.cells #[.slice la L lc, .slice ra R rc] 24))
      have d1 := cell_of_block1 (heap_alloc_new w (.cells #[.slice la L lc, .slice ra R rc] 24))
      have HC := Lib.hid (fun Z (u : Upd NoB (w.alloc (.cells #[.slice la L lc, .slice ra R rc] 24)) Z) => And.intro (u.cell d0 (noB _)) (u.cell d1 (noB _)))
      have b0 : Upd NoB w (w.alloc (.cells #[.slice la L lc, .slice ra R rc] 24)) := (Upd.refl _ _).alloc _
      have B0 := Lib.hid b0
      have HL0 := Lib.hid (HL.out.later b0)
      clear HL
      have HR0 := Lib.hid (HR.out.later b0)
      clear HR
      have HW0 := Lib.hid (HW.out.later b0)
      clear HW
      clear d0 d1 b0
      obtain ⟨d0, d1⟩ := HC.out _ (Upd.refl NoB (w.alloc (.cells #[.slice la L lc, .slice ra R rc] 24)))
      go_wp2_with fail
      clear d0 d1
      refine (HF.out _).mono ?_
      rintro e w1 ⟨rfl, u1⟩
      have HL1 := Lib.hid (HL0.out.later u1)
      clear HL0
      have HR1 := Lib.hid (HR0.out.later u1)
      clear HR0
      have HW1 := Lib.hid (HW0.out.later u1)
      clear HW0
      have UU1 := Lib.hid ((Upd.refl NoB (w.alloc (.cells #[.slice la L lc, .slice ra R rc] 24))).then u1)
      clear u1
      obtain ⟨d0, d1⟩ := HC.out _ UU1.out
      go_wp2_with fail
      clear d0 d1
      refine (HP.out _ HL1.out HR1.out HW1.out).mono ?_
      intro e w2 hr
      obtain ⟨a2, c2, rfl, i2, u2⟩ := EBls.open hr (by decide)
      have HL2 := Lib.hid (HL1.out.later u2)
      clear HL1
      have HR2 := Lib.hid (HR1.out.later u2)
      clear HR1
      have HW2 := Lib.hid (HW1.out.later u2)
      clear HW1
      have UU2 := Lib.hid (UU1.out.then u2)
      clear UU1
      clear u2
      clear hr i2
      obtain ⟨d0, d1⟩ := HC.out _ UU2.out
      go_wp2_with fail
      clear d0 d1
      refine (HG.out _ HL2.out HR2.out HW2.out).mono ?_
      intro e w3 hr
      obtain ⟨a3, c3, rfl, u3⟩ := EInts.nil hr
      clear HL2
      clear HR2
      clear HW2
      have UU3 := Lib.hid (UU2.out.then u3)
      clear UU2
      clear u3
      clear hr
      go_wp2_with fail
      refine (awake_st _).mono ?_
      rintro e w4 ⟨rfl, u4⟩
      have UU4 := Lib.hid (UU3.out.then u4)
      clear UU3
      clear u4
      go_wp2_with fail
      go_ret
      exact ⟨rfl, B0.out.then UU4.out⟩
end Go.Proofs.Ytopjjdfnnjgnlaa
