/- stereo: the reference's each, Couple and Part -/
import Derived.Test.YtopjjdfnnjgnlaaUX
namespace Go.Proofs.Ytopjjdfnnjgnlaa
open Go.RowKit Go.Shelf

/-- the flag of each element's band -/
def eaL (ws : List Int) (mid : List Bool) (n : Nat) : List Bool := (List.range n).map fun i => mid.getD (bix ws i) false
theorem eaL_len (ws : List Int) (mid : List Bool) (n : Nat) : (eaL ws mid n).length = n := by simp [eaL]
theorem eaL_get (ws : List Int) (mid : List Bool) {n k : Nat} (h : k < n) : (eaL ws mid n)[k]? = some (mid.getD (bix ws k) false) := by
  unfold eaL
  rw [List.getElem?_map, List.getElem?_range h]; rfl
theorem eaL_step {ws : List Int} {mid : List Bool} {k n t : Nat} {c : Bool} (hx : ws[k]? = some (n : Int)) (ht : t < n) (hc : mid[k]? = some c) : eaL ws mid (psN ws k + t + 1) = eaL ws mid (psN ws k + t) ++ [c] := by
  unfold eaL
  rw [rmap_succ, bix_at hx (by omega), List.getD_eq_getElem?_getD, hc]
  rfl
theorem eaL_zero (ws : List Int) (mid : List Bool) : eaL ws mid 0 = [] := rfl
set_option maxRecDepth 100000 in
set_option maxHeartbeats 4000000 in
theorem reach_any (wv mv : Value) (ws : List Int) (mid : List Bool) (w : World) (hW : isW ws = true) (hL : mid.length = ws.length) (hw : Ints w wv ws) (hm : Bls w mv mid) : Calls Try.prog 60 #[wv, mv] w fun e w' => ∃ a c, e = .returned (.slice a 128 c) ∧ Bls w' (.slice a 128 c) (eaL ws mid 128) ∧ Upd NoB w w' := by
  have HX := Lib.hid hw; have HM := Lib.hid hm
  have HWg := Lib.hid (show ∀ k, k < ws.length → ∃ (n : Nat) (c : Bool), ws[k]? = some (n : Int) ∧ mid[k]? = some c ∧ 1 ≤ n ∧ n ≤ 128 ∧ psN ws (k + 1) = psN ws k + n ∧ psN ws k + n ≤ 128 ∧ ∀ t, t < n → eaL ws mid (psN ws k + t + 1) = eaL ws mid (psN ws k + t) ++ [c] from fun k hk => by
    obtain ⟨n, a, b, c, d, e⟩ := isW_get hW hk
    obtain ⟨f, hf⟩ : ∃ f, mid[k]? = some f := ⟨_, List.getElem?_eq_getElem (by omega)⟩
    exact ⟨n, f, a, hf, b, c, d, e, fun t ht => eaL_step a ht hf⟩)
  have HAl := Lib.hid (isW_ok hW).2.2.2
  have hN8 := (isW_ok hW).1
  have HP0 := Lib.hid (psN_zero ws)
  have HE0 := Lib.hid (eaL_zero ws mid)
  obtain ⟨wa, wc, rfl⟩ := hw.form
  obtain ⟨ma, mc, rfl⟩ := hm.form
  rw [hL] at HM ⊢
  obtain ⟨N, hN⟩ : ∃ N, ws.length = N := ⟨_, rfl⟩
  rw [hN] at HX HM HWg HAl hN8 ⊢
  clear hw hm hW hL hN
  go_enter Try.func60, Try.ntmps60
  go_wp2_with fail
  go_loopw [5, 10] (fun v i wr => ∃ k : Nat, k ≤ N ∧ i = .int .i64 k ∧ wr.ownsRow w.heap.size 4 1 v (psN ws k) (bls (eaL ws mid (psN ws k))) ∧ Upd NoB w wr) (fun _ i _ => N - (intOf i).toNat)
  case atStart => exact ⟨0, Nat.zero_le _, rfl, by rw [HP0.out, HE0.out]; exact World.ownsRow_nil _ _ _ _, Upd.refl _ _⟩
  case round =>
    obtain ⟨k, hk, rfl, hown, hu⟩ := hrel
    by_cases hlt : k < N
    · obtain ⟨n, c, hx, hc, hn1, hn8, hps, hs8, hst⟩ := HWg.out k hlt
      obtain ⟨va, vc, rfl⟩ := row_form hown
      obtain ⟨b0, o0, rfl, c0⟩ := (HX.out.later hu).cellAt hx
      have hcc := (HM.out.later hu).cellAt hc
      obtain ⟨b1, o1, rfl, c1⟩ := hcc
      have HPs := Lib.hid hps; have HSt := Lib.hid hst
      obtain ⟨F, hF⟩ : ∃ F, psN ws k = F := ⟨_, rfl⟩
      rw [hF] at HPs hs8 hown HSt ⊢
      have HO := Lib.hid hown; have HU := Lib.hid hu; have HC := Lib.hid hc
      have hk1 : k ≤ 1000000 := by omega
      obtain ⟨wo, rfl⟩ : ∃ y : World, y = wr := ⟨_, rfl⟩
      clear hown hu hx hps hst hn1 hF hc
      go_wp2_with fail
      go_loopw [5, 16] (fun v j wv => ∃ t : Nat, t ≤ n ∧ j = .int .i64 t ∧ wv.ownsRow w.heap.size 4 1 v (F + t) (bls (eaL ws mid (F + t))) ∧ Upd NoB w wv) (fun _ j _ => n - (intOf j).toNat)
      case atStart => exact ⟨0, Nat.zero_le _, rfl, HO.out, HU.out⟩
      case round =>
        obtain ⟨t, ht, rfl, hown, hv⟩ := hrel
        obtain ⟨va, vc, rfl⟩ := row_form hown
        have HO2 := Lib.hid hown; have HV := Lib.hid hv
        have hb := hv.size
        by_cases htn : t < n
        · obtain ⟨b2, o2, e2, c2⟩ := (HM.out.later hv).cellAt HC.out
          cases e2
          have HS2 := Lib.hid (HSt.out t htn)
          obtain ⟨J, hJ⟩ : ∃ J, F + t = J := ⟨_, rfl⟩
          have HR := Lib.hid (show F + (t + 1) = J + 1 by omega)
          rw [hJ] at HO2 HS2 ⊢
          have hJ1 : J ≤ 1000000 := by omega
          clear hown hv hJ
          go_wp2_with (at_builtin; refine wpList_pushb rfl (.tmp 18) (.tmp 23) rfl w.heap.size (.slice va J vc) J (eaL ws mid J) c rfl rfl HO2.out hJ1 hb ?_; intro v' w' hown' u'; have R' := Lib.hid hown'; have U' := Lib.hid u'; clear hown' u')
          go_roundw
          case rel => exact ⟨t + 1, by omega, by go_num, by rw [HR.out, HS2.out]; exact R'.out, upd_ge ((upd_ge' HV.out w.heap.size).trans U'.out (fun _ _ h => h))⟩
          case measure => simp [intOf]; omega
        · obtain rfl : t = n := by omega
          have HO3 := Lib.hid (show wr.ownsRow w.heap.size 4 1 (.slice va (F + t) vc) (psN ws (k + 1)) (bls (eaL ws mid (psN ws (k + 1)))) by rw [HPs.out]; exact hown)
          clear hown hv htn
          go_wp2_with fail
          go_roundw
          case rel => exact ⟨k + 1, by omega, by go_num, HO3.out, HV.out⟩
          case measure => simp [intOf]; omega
    · obtain rfl : k = N := by omega
      rw [HAl.out] at hown
      obtain ⟨va, vc, rfl⟩ := row_form hown
      have HB := Lib.hid (show Bls wr (.slice va 128 vc) (eaL ws mid 128) by
        have := Bls.ofRow (w := wr) (base := w.heap.size) (v := .slice va 128 vc) (fs := eaL ws mid 128) (by rw [eaL_len]; exact hown) (by rw [eaL_len]; decide)
        exact this)
      have HU := Lib.hid hu
      clear hown hu hlt
      go_wp2_with fail
      go_ret
      exact ⟨_, _, rfl, HB.out, HU.out⟩
theorem cpE_bad {l r ws : List Int} {mid : List Bool} {M : Int} (h : isW ws = false) : cpE l r ws mid M = 1 := by
  unfold cpE chE
  rw [h]
  rfl
theorem cpE_len {l r ws : List Int} {mid : List Bool} {M : Int} (h : isW ws = true) (h2 : mid.length ≠ ws.length) : cpE l r ws mid M = 4 := by
  unfold cpE
  rw [h, decide_eq_true h2]
  rfl
theorem cpE_eq {l r ws : List Int} {mid : List Bool} {M : Int} (h2 : mid.length = ws.length) : cpE l r ws mid M = chE l r ws M := by
  unfold cpE
  rw [decide_eq_false (fun h => h h2), Bool.and_false]
  rfl

set_option maxRecDepth 100000 in
set_option maxHeartbeats 8000000 in
theorem rCouple_any (lv rv wv mv : Value) (l r ws : List Int) (mid : List Bool) (w : World) (hl : Ints w lv l) (hr : Ints w rv r) (hw : Ints w wv ws) (hm : Bls w mv mid) : Calls Try.prog 27 #[lv, rv, wv, mv] w (ETwo w (couA midP 2097152 l r ws mid) (couB midP 2097152 l r ws mid) (cpE l r ws mid 2097152)) := by
  have HV := Lib.hid (rWidths_any wv ws w hw)
  have HC := Lib.hid (rchannels_any lv rv wv l r ws 2097152 w (by decide) (by decide) hl hr hw)
  cases hz : isW ws with
  | false =>
    rw [hz] at HV
    have hE : cpE l r ws mid 2097152 = 1 := cpE_bad hz
    rw [show couA midP 2097152 l r ws mid = [] from if_neg (by rw [hE]; decide), show couB midP 2097152 l r ws mid = [] from if_neg (by rw [hE]; decide), hE]
    obtain ⟨la, lc, rfl⟩ := hl.form
    obtain ⟨ra, rc, rfl⟩ := hr.form
    obtain ⟨wa, wc, rfl⟩ := hw.form
    obtain ⟨ma, mc, rfl⟩ := hm.form
    generalize l.length = L at *
    generalize r.length = R at *
    generalize ws.length = N at *
    generalize mid.length = K at *
    clear hl hr hw hm hz hE HC
    go_enter Try.func27, Try.ntmps27
    go_wp2_with fail
    refine HV.out.mono ?_
    rintro e w' ⟨rfl, rfl⟩
    go_wp2_with fail
    go_ret3
    exact ⟨none, 0, 0, none, 0, 0, rfl, World.ownsRow_nil _ _ _ _, World.ownsRow_nil _ _ _ _, Upd.refl _ _⟩
  | true =>
    rw [hz] at HV
    by_cases hK : mid.length = ws.length
    · have HEa := Lib.hid (reach_any wv mv ws mid w hz hK hw hm)
      have hE : cpE l r ws mid 2097152 = chE l r ws 2097152 := cpE_eq hK
      by_cases hE0 : chE l r ws 2097152 = 0
      · have hcp : cpE l r ws mid 2097152 = 0 := hE.trans hE0
        rw [show couA midP 2097152 l r ws mid = cpA midP l r ws mid 128 from if_pos hcp, show couB midP 2097152 l r ws mid = cpB midP l r ws mid 128 from if_pos hcp, hcp]
        rw [hE0] at HC
        obtain ⟨h1, h2, h3, h4, h5⟩ := chE_ok hE0
        have hIn := P2_in (l := l) (r := r) (M := 2097152) (by decide) h4 h5
        have HMd := Lib.hid (fun k Z => rMid_any (P2 l r k) Z ((hIn k).mono (by decide)))
        have HSA := Lib.hid (fun k => cpA_succ midP l r ws mid k); have HSB := Lib.hid (fun k => cpB_succ midP l r ws mid k)
        have HPd := Lib.hid (fun k => show cpP midP l r ws mid k = if mid.getD (bix ws k) false then midP (P2 l r k) else P2 l r k from rfl)
        have HFl := Lib.hid (fun k (h : k < 128) => eaL_get ws mid h)
        have HLA := Lib.hid (cpA_len midP l r ws mid 128); have HLB := Lib.hid (cpB_len midP l r ws mid 128)
        have HGe := Lib.hid (show ∀ j, j < 128 → l[j]? = some (P2 l r j).1 ∧ r[j]? = some (P2 l r j).2 from fun j hj => by
          unfold P2
          rw [List.getD_eq_getElem?_getD, List.getD_eq_getElem?_getD, List.getElem?_eq_getElem (by omega), List.getElem?_eq_getElem (by omega)]
          exact ⟨rfl, rfl⟩)
        have H00 := Lib.hid (And.intro (show cpA midP l r ws mid 0 = [] from rfl) (show cpB midP l r ws mid 0 = [] from rfl))
        have HX := Lib.hid hl; have HY := Lib.hid hr
        obtain ⟨la, lc, rfl⟩ := hl.form
        obtain ⟨ra, rc, rfl⟩ := hr.form
        obtain ⟨wa, wc, rfl⟩ := hw.form
        obtain ⟨ma, mc, rfl⟩ := hm.form
        rw [h2] at HC HX
        rw [h3] at HC HY
        rw [h2, h3]
        rw [hK] at HEa ⊢
        generalize ws.length = N at *
        clear hl hr hw hm hz hE hcp hE0 h1 h2 h3 h4 h5 hIn hK
        go_enter Try.func27, Try.ntmps27
        go_wp2_with fail
        refine HV.out.mono ?_
        rintro e w' ⟨rfl, hw'⟩
        rw [hw']
        clear hw'
        go_wp2_with fail
        refine HC.out.mono ?_
        rintro e w' ⟨rfl, hw'⟩
        rw [hw']
        clear hw'
        go_wp2_with fail
        refine HEa.out.mono ?_
        rintro e w2 ⟨ea, ec, rfl, hfl, hu2⟩
        have U2 := Lib.hid hu2; have HF2 := Lib.hid hfl; have HB2 := Lib.hid hu2.size
        clear hfl hu2 HV HC HEa
        go_wp2_with fail
        go_loopw [8, 9, 35] (fun va vb i wr => ∃ k : Nat, k ≤ 128 ∧ i = .int .i64 k ∧ TwoR wr w2.heap.size va k (cpA midP l r ws mid k) vb k (cpB midP l r ws mid k) ∧ Upd NoB w2 wr) (fun _ _ i _ => 128 - (intOf i).toNat)
        case atStart => exact ⟨0, Nat.zero_le _, rfl, by rw [H00.out.1, H00.out.2]; exact TwoR.nil _ _, Upd.refl _ _⟩
        case round =>
          obtain ⟨k, hk, rfl, ht, hu⟩ := hrel
          obtain ⟨va, vc, vb, vd, rfl, rfl⟩ := ht.form
          by_cases hlt : k < 128
          · obtain ⟨gA, gB⟩ := HGe.out k hlt
            obtain ⟨b1, o1, rfl, c1⟩ := ((HX.out.later U2.out).later hu).cellAt gA
            obtain ⟨b2, o2, rfl, c2⟩ := ((HY.out.later U2.out).later hu).cellAt gB
            obtain ⟨b3, o3, rfl, c3⟩ := (HF2.out.later hu).cellAt (HFl.out k hlt)
            have HMk := Lib.hid (HMd.out k)
            have SA := Lib.hid (HSA.out k); have SB := Lib.hid (HSB.out k)
            have PD := Lib.hid (HPd.out k)
            have hk1 : k ≤ 1000000 := by omega
            have HT := Lib.hid ht; have HU := Lib.hid hu
            have kl : (k : Int) < 128 := by omega
            clear gA gB ht hu
            generalize mid.getD (bix ws k) false = c at *
            cases c with
            | true =>
              rw [show cpP midP l r ws mid k = midP (P2 l r k) from PD.out] at SA SB
              clear PD
              generalize (midP (P2 l r k)).1 = p at *
              generalize (midP (P2 l r k)).2 = q at *
              generalize (P2 l r k).1 = x at *
              generalize (P2 l r k).2 = y at *
              go_wp2_with fail
              go_quiet (fail)
              have W3 := Lib.hid (show Upd NoB wr (wr.drewN nq) from upd_drewN (Upd.refl _ _) _)
              obtain ⟨w3, hw3⟩ : ∃ y, wr.drewN nq = y := ⟨_, rfl⟩
              rw [hw3] at W3 ⊢
              clear hw3 c1 c2 c3
              go_wp2_with fail
              refine (HMk.out _).mono ?_
              rintro e w4 ⟨rfl, u4⟩
              have W4 := Lib.hid (W3.out.then u4)
              have U4 := Lib.hid (HU.out.then W4.out); have T4 := Lib.hid (HT.out.later W4.out); have hb4 := U4.out.size
              clear u4
              go_wp2_with (at_builtin; first
                | (refine wpList_pushF rfl (.tmp 56) (.tmp 58) rfl w2.heap.size (.slice va k vc) k (cpA midP l r ws mid k) p rfl rfl T4.out.1 hk1 hb4 ?_; intro v5 w5 o5 u5 hat5; have T5 := Lib.hid (T4.out.step o5 u5 hat5); have U5 := Lib.hid (T4.out.out U4.out u5); have hb5 := U5.out.size; obtain ⟨a5, c5, rfl⟩ := row_form o5; clear o5 u5 hat5)
                | (refine wpList_pushF rfl (.tmp 60) (.tmp 62) rfl w2.heap.size (.slice vb k vd) k (cpB midP l r ws mid k) q rfl rfl T5.out.2.1 hk1 hb5 ?_; intro v6 w6 o6 u6 hat6; have T6 := Lib.hid (T5.out.swap.step o6 u6 hat6).swap; have U6 := Lib.hid (T5.out.swap.out U5.out u6); obtain ⟨a6, c6, rfl⟩ := row_form o6; clear o6 u6 hat6))
              go_roundw
              case rel => exact ⟨k + 1, by omega, by go_num, by rw [SA.out, SB.out]; exact T6.out, U6.out⟩
              case measure => simp [intOf]; omega
            | false =>
              rw [show cpP midP l r ws mid k = P2 l r k from PD.out] at SA SB
              clear PD HMk
              generalize (P2 l r k).1 = x at *
              generalize (P2 l r k).2 = y at *
              go_wp2_with fail
              go_quiet (fail)
              have W4 := Lib.hid (show Upd NoB wr (wr.drewN nq) from upd_drewN (Upd.refl _ _) _)
              obtain ⟨w4, hw4⟩ : ∃ y, wr.drewN nq = y := ⟨_, rfl⟩
              rw [hw4] at W4 ⊢
              clear hw4 c1 c2 c3
              have U4 := Lib.hid (HU.out.then W4.out); have T4 := Lib.hid (HT.out.later W4.out); have hb4 := U4.out.size
              go_wp2_with (at_builtin; first
                | (refine wpList_pushF rfl (.tmp 56) (.tmp 58) rfl w2.heap.size (.slice va k vc) k (cpA midP l r ws mid k) x rfl rfl T4.out.1 hk1 hb4 ?_; intro v5 w5 o5 u5 hat5; have T5 := Lib.hid (T4.out.step o5 u5 hat5); have U5 := Lib.hid (T4.out.out U4.out u5); have hb5 := U5.out.size; obtain ⟨a5, c5, rfl⟩ := row_form o5; clear o5 u5 hat5)
                | (refine wpList_pushF rfl (.tmp 60) (.tmp 62) rfl w2.heap.size (.slice vb k vd) k (cpB midP l r ws mid k) y rfl rfl T5.out.2.1 hk1 hb5 ?_; intro v6 w6 o6 u6 hat6; have T6 := Lib.hid (T5.out.swap.step o6 u6 hat6).swap; have U6 := Lib.hid (T5.out.swap.out U5.out u6); obtain ⟨a6, c6, rfl⟩ := row_form o6; clear o6 u6 hat6))
              go_roundw
              case rel => exact ⟨k + 1, by omega, by go_num, by rw [SA.out, SB.out]; exact T6.out, U6.out⟩
              case measure => simp [intOf]; omega
          · obtain rfl : k = 128 := by omega
            have HT := Lib.hid ht; have HU := Lib.hid hu
            clear ht hu hlt
            go_wp2_with fail
            go_ret3
            exact ⟨_, _, _, _, _, _, rfl, by rw [HLA.out]; exact row_base HT.out.1 HB2.out, by rw [HLB.out]; exact row_base HT.out.2.1 HB2.out, U2.out.then HU.out⟩
      · have hcp : cpE l r ws mid 2097152 ≠ 0 := fun h => hE0 (hE.symm.trans h)
        rw [show couA midP 2097152 l r ws mid = [] from if_neg hcp, show couB midP 2097152 l r ws mid = [] from if_neg hcp, hE]
        obtain ⟨la, lc, rfl⟩ := hl.form
        obtain ⟨ra, rc, rfl⟩ := hr.form
        obtain ⟨wa, wc, rfl⟩ := hw.form
        obtain ⟨ma, mc, rfl⟩ := hm.form
        rw [hK]
        generalize chE l r ws 2097152 = E at *
        have t1 : (E != 0) = true := bne_iff_ne.2 hE0
        generalize l.length = L at *
        generalize r.length = R at *
        generalize ws.length = N at *
        clear hl hr hw hm hz hE hcp hE0 HEa hK
        go_enter Try.func27, Try.ntmps27
        go_wp2_with fail
        refine HV.out.mono ?_
        rintro e w' ⟨rfl, hw'⟩
        rw [hw']
        clear hw'
        go_wp2_with fail
        refine HC.out.mono ?_
        rintro e w' ⟨rfl, rfl⟩
        go_wp2_with fail
        go_ret3
        exact ⟨none, 0, 0, none, 0, 0, rfl, World.ownsRow_nil _ _ _ _, World.ownsRow_nil _ _ _ _, Upd.refl _ _⟩
    · have hE : cpE l r ws mid 2097152 = 4 := cpE_len hz hK
      rw [show couA midP 2097152 l r ws mid = [] from if_neg (by rw [hE]; decide), show couB midP 2097152 l r ws mid = [] from if_neg (by rw [hE]; decide), hE]
      obtain ⟨la, lc, rfl⟩ := hl.form
      obtain ⟨ra, rc, rfl⟩ := hr.form
      obtain ⟨wa, wc, rfl⟩ := hw.form
      obtain ⟨ma, mc, rfl⟩ := hm.form
      generalize l.length = L at *
      generalize r.length = R at *
      generalize ws.length = N at *
      generalize mid.length = K at *
      have t1 : ((K : Int) != (N : Int)) = true := bne_iff_ne.2 (by omega)
      clear hl hr hw hm hz hE hK HC
      go_enter Try.func27, Try.ntmps27
      go_wp2_with fail
      refine HV.out.mono ?_
      rintro e w' ⟨rfl, rfl⟩
      go_wp2_with fail
      go_ret3
      exact ⟨none, 0, 0, none, 0, 0, rfl, World.ownsRow_nil _ _ _ _, World.ownsRow_nil _ _ _ _, Upd.refl _ _⟩
set_option maxRecDepth 100000 in
set_option maxHeartbeats 8000000 in
theorem rPart_any (lv rv wv mv : Value) (l r ws : List Int) (mid : List Bool) (w : World) (hl : Ints w lv l) (hr : Ints w rv r) (hw : Ints w wv ws) (hm : Bls w mv mid) : Calls Try.prog 29 #[lv, rv, wv, mv] w (ETwo w (couA sidP 8388608 l r ws mid) (couB sidP 8388608 l r ws mid) (cpE l r ws mid 8388608)) := by
  have HV := Lib.hid (rWidths_any wv ws w hw)
  have HC := Lib.hid (rchannels_any lv rv wv l r ws 8388608 w (by decide) (by decide) hl hr hw)
  cases hz : isW ws with
  | false =>
    rw [hz] at HV
    have hE : cpE l r ws mid 8388608 = 1 := cpE_bad hz
    rw [show couA sidP 8388608 l r ws mid = [] from if_neg (by rw [hE]; decide), show couB sidP 8388608 l r ws mid = [] from if_neg (by rw [hE]; decide), hE]
    obtain ⟨la, lc, rfl⟩ := hl.form
    obtain ⟨ra, rc, rfl⟩ := hr.form
    obtain ⟨wa, wc, rfl⟩ := hw.form
    obtain ⟨ma, mc, rfl⟩ := hm.form
    generalize l.length = L at *
    generalize r.length = R at *
    generalize ws.length = N at *
    generalize mid.length = K at *
    clear hl hr hw hm hz hE HC
    go_enter Try.func29, Try.ntmps29
    go_wp2_with fail
    refine HV.out.mono ?_
    rintro e w' ⟨rfl, rfl⟩
    go_wp2_with fail
    go_ret3
    exact ⟨none, 0, 0, none, 0, 0, rfl, World.ownsRow_nil _ _ _ _, World.ownsRow_nil _ _ _ _, Upd.refl _ _⟩
  | true =>
    rw [hz] at HV
    by_cases hK : mid.length = ws.length
    · have HEa := Lib.hid (reach_any wv mv ws mid w hz hK hw hm)
      have hE : cpE l r ws mid 8388608 = chE l r ws 8388608 := cpE_eq hK
      by_cases hE0 : chE l r ws 8388608 = 0
      · have hcp : cpE l r ws mid 8388608 = 0 := hE.trans hE0
        rw [show couA sidP 8388608 l r ws mid = cpA sidP l r ws mid 128 from if_pos hcp, show couB sidP 8388608 l r ws mid = cpB sidP l r ws mid 128 from if_pos hcp, hcp]
        rw [hE0] at HC
        obtain ⟨h1, h2, h3, h4, h5⟩ := chE_ok hE0
        have hIn := P2_in (l := l) (r := r) (M := 8388608) (by decide) h4 h5
        have HMd := Lib.hid (fun k Z => rSides_any (P2 l r k) Z ((hIn k).mono (by decide)))
        have HSA := Lib.hid (fun k => cpA_succ sidP l r ws mid k); have HSB := Lib.hid (fun k => cpB_succ sidP l r ws mid k)
        have HPd := Lib.hid (fun k => show cpP sidP l r ws mid k = if mid.getD (bix ws k) false then sidP (P2 l r k) else P2 l r k from rfl)
        have HFl := Lib.hid (fun k (h : k < 128) => eaL_get ws mid h)
        have HLA := Lib.hid (cpA_len sidP l r ws mid 128); have HLB := Lib.hid (cpB_len sidP l r ws mid 128)
        have HGe := Lib.hid (show ∀ j, j < 128 → l[j]? = some (P2 l r j).1 ∧ r[j]? = some (P2 l r j).2 from fun j hj => by
          unfold P2
          rw [List.getD_eq_getElem?_getD, List.getD_eq_getElem?_getD, List.getElem?_eq_getElem (by omega), List.getElem?_eq_getElem (by omega)]
          exact ⟨rfl, rfl⟩)
        have H00 := Lib.hid (And.intro (show cpA sidP l r ws mid 0 = [] from rfl) (show cpB sidP l r ws mid 0 = [] from rfl))
        have HX := Lib.hid hl; have HY := Lib.hid hr
        obtain ⟨la, lc, rfl⟩ := hl.form
        obtain ⟨ra, rc, rfl⟩ := hr.form
        obtain ⟨wa, wc, rfl⟩ := hw.form
        obtain ⟨ma, mc, rfl⟩ := hm.form
        rw [h2] at HC HX
        rw [h3] at HC HY
        rw [h2, h3]
        rw [hK] at HEa ⊢
        generalize ws.length = N at *
        clear hl hr hw hm hz hE hcp hE0 h1 h2 h3 h4 h5 hIn hK
        go_enter Try.func29, Try.ntmps29
        go_wp2_with fail
        refine HV.out.mono ?_
        rintro e w' ⟨rfl, hw'⟩
        rw [hw']
        clear hw'
        go_wp2_with fail
        refine HC.out.mono ?_
        rintro e w' ⟨rfl, hw'⟩
        rw [hw']
        clear hw'
        go_wp2_with fail
        refine HEa.out.mono ?_
        rintro e w2 ⟨ea, ec, rfl, hfl, hu2⟩
        have U2 := Lib.hid hu2; have HF2 := Lib.hid hfl; have HB2 := Lib.hid hu2.size
        clear hfl hu2 HV HC HEa
        go_wp2_with fail
        go_loopw [8, 9, 35] (fun va vb i wr => ∃ k : Nat, k ≤ 128 ∧ i = .int .i64 k ∧ TwoR wr w2.heap.size va k (cpA sidP l r ws mid k) vb k (cpB sidP l r ws mid k) ∧ Upd NoB w2 wr) (fun _ _ i _ => 128 - (intOf i).toNat)
        case atStart => exact ⟨0, Nat.zero_le _, rfl, by rw [H00.out.1, H00.out.2]; exact TwoR.nil _ _, Upd.refl _ _⟩
        case round =>
          obtain ⟨k, hk, rfl, ht, hu⟩ := hrel
          obtain ⟨va, vc, vb, vd, rfl, rfl⟩ := ht.form
          by_cases hlt : k < 128
          · obtain ⟨gA, gB⟩ := HGe.out k hlt
            obtain ⟨b1, o1, rfl, c1⟩ := ((HX.out.later U2.out).later hu).cellAt gA
            obtain ⟨b2, o2, rfl, c2⟩ := ((HY.out.later U2.out).later hu).cellAt gB
            obtain ⟨b3, o3, rfl, c3⟩ := (HF2.out.later hu).cellAt (HFl.out k hlt)
            have HMk := Lib.hid (HMd.out k)
            have SA := Lib.hid (HSA.out k); have SB := Lib.hid (HSB.out k)
            have PD := Lib.hid (HPd.out k)
            have hk1 : k ≤ 1000000 := by omega
            have HT := Lib.hid ht; have HU := Lib.hid hu
            have kl : (k : Int) < 128 := by omega
            clear gA gB ht hu
            generalize mid.getD (bix ws k) false = c at *
            cases c with
            | true =>
              rw [show cpP sidP l r ws mid k = sidP (P2 l r k) from PD.out] at SA SB
              clear PD
              generalize (sidP (P2 l r k)).1 = p at *
              generalize (sidP (P2 l r k)).2 = q at *
              generalize (P2 l r k).1 = x at *
              generalize (P2 l r k).2 = y at *
              go_wp2_with fail
              go_quiet (fail)
              have W3 := Lib.hid (show Upd NoB wr (wr.drewN nq) from upd_drewN (Upd.refl _ _) _)
              obtain ⟨w3, hw3⟩ : ∃ y, wr.drewN nq = y := ⟨_, rfl⟩
              rw [hw3] at W3 ⊢
              clear hw3 c1 c2 c3
              go_wp2_with fail
              refine (HMk.out _).mono ?_
              rintro e w4 ⟨rfl, u4⟩
              have W4 := Lib.hid (W3.out.then u4)
              have U4 := Lib.hid (HU.out.then W4.out); have T4 := Lib.hid (HT.out.later W4.out); have hb4 := U4.out.size
              clear u4
              go_wp2_with (at_builtin; first
                | (refine wpList_pushF rfl (.tmp 56) (.tmp 58) rfl w2.heap.size (.slice va k vc) k (cpA sidP l r ws mid k) p rfl rfl T4.out.1 hk1 hb4 ?_; intro v5 w5 o5 u5 hat5; have T5 := Lib.hid (T4.out.step o5 u5 hat5); have U5 := Lib.hid (T4.out.out U4.out u5); have hb5 := U5.out.size; obtain ⟨a5, c5, rfl⟩ := row_form o5; clear o5 u5 hat5)
                | (refine wpList_pushF rfl (.tmp 60) (.tmp 62) rfl w2.heap.size (.slice vb k vd) k (cpB sidP l r ws mid k) q rfl rfl T5.out.2.1 hk1 hb5 ?_; intro v6 w6 o6 u6 hat6; have T6 := Lib.hid (T5.out.swap.step o6 u6 hat6).swap; have U6 := Lib.hid (T5.out.swap.out U5.out u6); obtain ⟨a6, c6, rfl⟩ := row_form o6; clear o6 u6 hat6))
              go_roundw
              case rel => exact ⟨k + 1, by omega, by go_num, by rw [SA.out, SB.out]; exact T6.out, U6.out⟩
              case measure => simp [intOf]; omega
            | false =>
              rw [show cpP sidP l r ws mid k = P2 l r k from PD.out] at SA SB
              clear PD HMk
              generalize (P2 l r k).1 = x at *
              generalize (P2 l r k).2 = y at *
              go_wp2_with fail
              go_quiet (fail)
              have W4 := Lib.hid (show Upd NoB wr (wr.drewN nq) from upd_drewN (Upd.refl _ _) _)
              obtain ⟨w4, hw4⟩ : ∃ y, wr.drewN nq = y := ⟨_, rfl⟩
              rw [hw4] at W4 ⊢
              clear hw4 c1 c2 c3
              have U4 := Lib.hid (HU.out.then W4.out); have T4 := Lib.hid (HT.out.later W4.out); have hb4 := U4.out.size
              go_wp2_with (at_builtin; first
                | (refine wpList_pushF rfl (.tmp 56) (.tmp 58) rfl w2.heap.size (.slice va k vc) k (cpA sidP l r ws mid k) x rfl rfl T4.out.1 hk1 hb4 ?_; intro v5 w5 o5 u5 hat5; have T5 := Lib.hid (T4.out.step o5 u5 hat5); have U5 := Lib.hid (T4.out.out U4.out u5); have hb5 := U5.out.size; obtain ⟨a5, c5, rfl⟩ := row_form o5; clear o5 u5 hat5)
                | (refine wpList_pushF rfl (.tmp 60) (.tmp 62) rfl w2.heap.size (.slice vb k vd) k (cpB sidP l r ws mid k) y rfl rfl T5.out.2.1 hk1 hb5 ?_; intro v6 w6 o6 u6 hat6; have T6 := Lib.hid (T5.out.swap.step o6 u6 hat6).swap; have U6 := Lib.hid (T5.out.swap.out U5.out u6); obtain ⟨a6, c6, rfl⟩ := row_form o6; clear o6 u6 hat6))
              go_roundw
              case rel => exact ⟨k + 1, by omega, by go_num, by rw [SA.out, SB.out]; exact T6.out, U6.out⟩
              case measure => simp [intOf]; omega
          · obtain rfl : k = 128 := by omega
            have HT := Lib.hid ht; have HU := Lib.hid hu
            clear ht hu hlt
            go_wp2_with fail
            go_ret3
            exact ⟨_, _, _, _, _, _, rfl, by rw [HLA.out]; exact row_base HT.out.1 HB2.out, by rw [HLB.out]; exact row_base HT.out.2.1 HB2.out, U2.out.then HU.out⟩
      · have hcp : cpE l r ws mid 8388608 ≠ 0 := fun h => hE0 (hE.symm.trans h)
        rw [show couA sidP 8388608 l r ws mid = [] from if_neg hcp, show couB sidP 8388608 l r ws mid = [] from if_neg hcp, hE]
        obtain ⟨la, lc, rfl⟩ := hl.form
        obtain ⟨ra, rc, rfl⟩ := hr.form
        obtain ⟨wa, wc, rfl⟩ := hw.form
        obtain ⟨ma, mc, rfl⟩ := hm.form
        rw [hK]
        generalize chE l r ws 8388608 = E at *
        have t1 : (E != 0) = true := bne_iff_ne.2 hE0
        generalize l.length = L at *
        generalize r.length = R at *
        generalize ws.length = N at *
        clear hl hr hw hm hz hE hcp hE0 HEa hK
        go_enter Try.func29, Try.ntmps29
        go_wp2_with fail
        refine HV.out.mono ?_
        rintro e w' ⟨rfl, hw'⟩
        rw [hw']
        clear hw'
        go_wp2_with fail
        refine HC.out.mono ?_
        rintro e w' ⟨rfl, rfl⟩
        go_wp2_with fail
        go_ret3
        exact ⟨none, 0, 0, none, 0, 0, rfl, World.ownsRow_nil _ _ _ _, World.ownsRow_nil _ _ _ _, Upd.refl _ _⟩
    · have hE : cpE l r ws mid 8388608 = 4 := cpE_len hz hK
      rw [show couA sidP 8388608 l r ws mid = [] from if_neg (by rw [hE]; decide), show couB sidP 8388608 l r ws mid = [] from if_neg (by rw [hE]; decide), hE]
      obtain ⟨la, lc, rfl⟩ := hl.form
      obtain ⟨ra, rc, rfl⟩ := hr.form
      obtain ⟨wa, wc, rfl⟩ := hw.form
      obtain ⟨ma, mc, rfl⟩ := hm.form
      generalize l.length = L at *
      generalize r.length = R at *
      generalize ws.length = N at *
      generalize mid.length = K at *
      have t1 : ((K : Int) != (N : Int)) = true := bne_iff_ne.2 (by omega)
      clear hl hr hw hm hz hE hK HC
      go_enter Try.func29, Try.ntmps29
      go_wp2_with fail
      refine HV.out.mono ?_
      rintro e w' ⟨rfl, rfl⟩
      go_wp2_with fail
      go_ret3
      exact ⟨none, 0, 0, none, 0, 0, rfl, World.ownsRow_nil _ _ _ _, World.ownsRow_nil _ _ _ _, Upd.refl _ _⟩
end Go.Proofs.Ytopjjdfnnjgnlaa
