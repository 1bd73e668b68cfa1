/- linear: the reference's Restore -/
import Derived.Test.YtgdndcbcdoogpabTXa
namespace Go.Proofs.Ytgdndcbcdoogpab
open Go.RowKit Go.Shelf

theorem rs_cases (x f : List Int) : (reE 1099511627776 x f ≠ 0 → rsS x f = [] ∧ rsE x f = reE 1099511627776 x f) ∧
    (reE 1099511627776 x f = 0 → (rstG (wtL f) s0L x = none → rsS x f = [] ∧ rsE x f = 6) ∧ (∀ y, rstG (wtL f) s0L x = some y → rsS x f = y ∧ rsE x f = 0)) := by
  have e : rsE x f = if reE 1099511627776 x f = 0 then (if (rstG (wtL f) s0L x).isSome then 0 else 6) else reE 1099511627776 x f := rfl
  have s : rsS x f = if rsE x f = 0 then (rstG (wtL f) s0L x).getD [] else [] := rfl
  refine ⟨fun h => ?_, fun h => ⟨fun hn => ?_, fun y hy => ?_⟩⟩
  · rw [if_neg h] at e
    rw [s, e, if_neg h]
    exact ⟨rfl, rfl⟩
  · rw [if_pos h, hn, if_neg (by decide)] at e
    rw [s, e, if_neg (by decide)]
    exact ⟨rfl, rfl⟩
  · rw [if_pos h, hy, if_pos (by rfl)] at e
    rw [s, e, if_pos rfl, hy]
    exact ⟨rfl, rfl⟩
set_option maxRecDepth 100000 in
set_option maxHeartbeats 8000000 in
theorem rRestore_any (sv fv : Value) (x f : List Int) (w : World) (h : Ints w sv x) (hf : Ints w fv f) : Calls Try.prog 31 #[sv, fv] w (EInts w (rsS x f) (rsE x f)) := by
  have HI := Lib.hid (rIs_any fv f w hf)
  have HC := Lib.hid (rlist_any sv x 1099511627776 w (by decide) h)
  have HE := Lib.hid (show reE 1099511627776 x f = if isF f = true then ckE 1099511627776 x else 1 from rfl)
  have HS := Lib.hid (rs_cases x f)
  have HX := Lib.hid h
  cases hF : isF f with
  | false =>
    rw [hF] at HI HE
    rw [if_neg (by decide)] at HE
    obtain ⟨q1, q2⟩ := HS.out.1 (by rw [HE.out]; decide)
    rw [q1, q2, HE.out]
    clear q1 q2
    obtain ⟨a, cap, rfl⟩ := h.form
    obtain ⟨fa, fcap, rfl⟩ := hf.form
    generalize x.length = L at *
    generalize f.length = M at *
    clear h hf hF
    go_enter Try.func31, Try.ntmps31
    go_wp2_with fail
    refine HI.out.mono ?_
    rintro e w1 ⟨rfl, rfl⟩
    go_wp2_with fail
    go_ret2
    exact ⟨none, 0, 0, rfl, World.ownsRow_nil _ _ _ _, Upd.refl _ _⟩
  | true =>
    rw [hF] at HI HE
    rw [if_pos rfl] at HE
    by_cases hc : ckE 1099511627776 x = 0
    · obtain ⟨hxl, hxi⟩ := ckE_ok hc
      obtain ⟨hwl, hf12, hwi⟩ := wt_bd hF
      have HWt := Lib.hid (rweights_any fv f w hf hF)
      rw [hc] at HC HE
      have HS1 := Lib.hid (HS.out.2 HE.out)
      have HSt := Lib.hid (fun (y : List Int) n v (hv : x[n]? = some v) hy => rst_step (ws := wtL f) (d := x) (y := y) (n := n) (v := v) (by rw [hwl]; exact hf12) hv hy)
      have HR0 := Lib.hid (show rstG (wtL f) s0L x = (rstG (wtL f) (padL ([] : List Int).reverse) (x.drop 0)).map (([] : List Int) ++ ·) by
        rw [List.reverse_nil, ← pad_nil, List.drop_zero]
        cases rstG (wtL f) s0L x <;> rfl)
      have HPb := Lib.hid (fun y (hy : inM 2097152 y = true) => (prd_in hwi (inM_rev hy) (by rw [hwl]; exact hf12)).2.2)
      have HXi := Lib.hid (fun k v (hv : x[k]? = some v) => inM_yes hxi v (List.mem_of_getElem? hv))
      have HPr := Lib.hid (fun W (y : List Int) va (hv : Ints W va y) wv (hw : Ints W wv (wtL f)) (hy : inM 2097152 y = true) (hyl : y.length ≤ 8192) => rpred_any va wv y (wtL f) W hv hw hy hyl hwi (by rw [hwl]; exact hf12))
      have HDr := Lib.hid (show x.drop x.length = [] from List.drop_length)
      obtain ⟨a, cap, rfl⟩ := h.form
      obtain ⟨fa, fcap, rfl⟩ := hf.form
      have hcap : x.length ≤ cap := by
        obtain ⟨_, a', c', e, ⟨hcc, _⟩, _⟩ := h
        injection e with _ _ e3
        omega
      obtain ⟨RS, hRS⟩ : ∃ RS, rsS x f = RS := ⟨_, rfl⟩
      obtain ⟨RE, hRE⟩ : ∃ RE, rsE x f = RE := ⟨_, rfl⟩
      rw [hRS, hRE] at HS1 ⊢
      obtain ⟨ws, hws⟩ : ∃ ws, wtL f = ws := ⟨_, rfl⟩
      rw [hws] at HWt HS1 HSt HR0 HPb HPr hwl
      obtain ⟨L, hL⟩ : ∃ L, x.length = L := ⟨_, rfl⟩
      obtain ⟨M, hM⟩ : ∃ M, f.length = M := ⟨_, rfl⟩
      have HL := Lib.hid hL
      rw [hL] at HX HC hcap hxl HDr ⊢
      rw [hM] at HI HWt hwl hf12 ⊢
      have HWl := Lib.hid hwl; have HM12 := Lib.hid hf12
      have hL8 : L ≤ 8192 := hxl
      clear h hf hF hc hxi hwi hL hM hRS hRE hws HE HS hwl hf12 hxl
      go_enter Try.func31, Try.ntmps31
      go_wp2_with fail
      refine HI.out.mono ?_
      rintro e w1 ⟨rfl, rfl⟩
      go_wp2_with fail
      refine HC.out.mono ?_
      rintro e w1 ⟨rfl, rfl⟩
      go_wp2_with fail
      refine HWt.out.mono ?_
      rintro e w2 ⟨v2, rfl, r2, u2⟩
      rw [HWl.out] at r2
      obtain ⟨a2, c2, rfl⟩ := row_form r2
      have I2 := Lib.hid (show Ints w2 (.slice a2 M c2) ws from row_ints r2 HWl.out (by have := HM12.out; omega))
      have U2 := Lib.hid u2
      clear r2 u2
      go_wp2_with fail
      go_loopw [8, 23] (fun v i wr => ∃ (k : Nat) (y : List Int), k ≤ L ∧ i = .int .i64 k ∧ wr.ownsRow w2.heap.size 3 1 v k (i64s y) ∧ y.length = k ∧ inM 2097152 y = true ∧ rstG ws s0L x = (rstG ws (padL y.reverse) (x.drop k)).map (y ++ ·) ∧ Upd NoB w2 wr) (fun _ i _ => L - (intOf i).toNat)
      case atStart => exact ⟨0, [], Nat.zero_le _, rfl, World.ownsRow_nil _ _ _ _, rfl, rfl, HR0.out, Upd.refl _ _⟩
      case round =>
        obtain ⟨k, y, hk, rfl, hown, hyl, hyi, hry, hu⟩ := hrel
        obtain ⟨va, vc, rfl⟩ := row_form hown
        have HO := Lib.hid hown; have HU := Lib.hid hu
        have hb := hu.size
        by_cases hlt : k < L
        · obtain ⟨v, hv⟩ : ∃ v, x[k]? = some v := ⟨_, List.getElem?_eq_getElem (by rw [HL.out]; exact hlt)⟩
          obtain ⟨bb, off, rfl, c0⟩ := (HX.out.later (U2.out.then hu)).cellAt hv
          have hvi := HXi.out k v hv
          have hpb := HPb.out y hyi
          obtain ⟨g1, g2⟩ := HSt.out y k v hv hry
          have HCall := Lib.hid (HPr.out wr y _ (row_ints HO.out hyl (by omega)) _ (I2.out.later hu) hyi (by omega))
          generalize prd ws y.reverse = P at *
          obtain ⟨u, huu⟩ : ∃ u, v + P = u := ⟨_, rfl⟩
          have z1 : wrap64 (v + P) = u := by rw [huu]; exact IntWalk.wrap64_in _ (by omega)
          have z2 : IntKind.i64.wrap (v + P) = u := by rw [huu]; exact IntWalk.i64_in _ (by clear z1; omega)
          rw [huu] at g1 g2
          have hk1 : k ≤ 1000000 := by clear z1 z2; omega
          have HYl := Lib.hid hyl; have HYi := Lib.hid hyi
          clear hown hu hv hvi hpb hry hyl hyi huu
          by_cases b1 : u < -2097152
          · have s1 : decide (u < -2097152) = true := decide_eq_true b1
            obtain ⟨q1, q2⟩ := HS1.out.1 (g1 (by clear z1 z2; omega))
            have Q1 := Lib.hid q1; have Q2 := Lib.hid q2
            clear g1 g2 b1 q1 q2
            go_wp2_with fail
            refine HCall.out.mono ?_
            rintro e w5 ⟨rfl, rfl⟩
            go_wp2_with fail
            go_ret2
            exact ⟨none, 0, 0, by rw [Q2.out]; rfl, by rw [Q1.out]; exact World.ownsRow_nil _ _ _ _, U2.out.then HU.out⟩
          · have s1 : decide (u < -2097152) = false := decide_eq_false b1
            by_cases b2 : 2097152 < u
            · have s2 : decide (2097152 < u) = true := decide_eq_true b2
              obtain ⟨q1, q2⟩ := HS1.out.1 (g1 (by clear z1 z2; omega))
              have Q1 := Lib.hid q1; have Q2 := Lib.hid q2
              clear g1 g2 b1 b2 q1 q2
              go_wp2_with fail
              refine HCall.out.mono ?_
              rintro e w5 ⟨rfl, rfl⟩
              go_wp2_with fail
              go_ret2
              exact ⟨none, 0, 0, by rw [Q2.out]; rfl, by rw [Q1.out]; exact World.ownsRow_nil _ _ _ _, U2.out.then HU.out⟩
            · have s2 : decide (2097152 < u) = false := decide_eq_false b2
              have HG := Lib.hid (g2 (by clear z1 z2; omega))
              have HYn := Lib.hid (show inM 2097152 (y ++ [u]) = true from inM_all fun q hq => by
                rw [List.mem_append, List.mem_singleton] at hq
                rcases hq with hq | rfl
                · exact inM_yes HYi.out q hq
                · clear z1 z2; omega)
              clear g1 g2 b1 b2
              go_wp2_with fail
              refine HCall.out.mono ?_
              rintro e w5 ⟨rfl, rfl⟩
              go_wp2_with (at_builtin; refine wpList_push rfl (.tmp 38) (.tmp 40) rfl w2.heap.size (.slice va k vc) k y u rfl rfl HO.out hk1 hb ?_; intro v' w' hown' u'; have R' := Lib.hid hown'; have U' := Lib.hid u'; clear hown' u')
              go_roundw
              case rel => exact ⟨k + 1, y ++ [u], by clear z1 z2; omega, by go_num, R'.out, by rw [List.length_append, HYl.out]; rfl, HYn.out, HG.out, upd_ge ((upd_ge' HU.out w2.heap.size).trans U'.out (fun _ _ h => h))⟩
              case measure => clear z1 z2; simp [intOf]; omega
        · obtain rfl : k = L := by omega
          rw [HDr.out] at hry
          obtain ⟨q1, q2⟩ := HS1.out.2 y (by rw [hry]; show some (y ++ []) = _; rw [List.append_nil])
          have Q1 := Lib.hid q1; have Q2 := Lib.hid q2; have HYl := Lib.hid hyl
          clear hown hu hlt hyl hyi hry q1 q2
          go_wp2_with fail
          go_ret2
          exact ⟨_, _, _, by rw [Q2.out]; rfl, by rw [Q1.out, HYl.out]; exact row_base HO.out U2.out.size, U2.out.then HU.out⟩
    · have hE0 : reE 1099511627776 x f ≠ 0 := by rw [HE.out]; exact hc
      obtain ⟨q1, q2⟩ := HS.out.1 hE0
      rw [q1, q2, HE.out]
      clear q1 q2
      obtain ⟨C, hC⟩ : ∃ C, ckE 1099511627776 x = C := ⟨_, rfl⟩
      rw [hC] at HC hc ⊢
      have hc0 : (C == 0) = false := beq_eq_false_iff_ne.2 hc
      obtain ⟨a, cap, rfl⟩ := h.form
      obtain ⟨fa, fcap, rfl⟩ := hf.form
      generalize x.length = L at *
      generalize f.length = M at *
      clear h hf hF hc hE0 hC
      go_enter Try.func31, Try.ntmps31
      go_wp2_with fail
      refine HI.out.mono ?_
      rintro e w1 ⟨rfl, rfl⟩
      go_wp2_with fail
      refine HC.out.mono ?_
      rintro e w1 ⟨rfl, rfl⟩
      go_wp2_with fail
      go_ret2
      exact ⟨none, 0, 0, rfl, World.ownsRow_nil _ _ _ _, Upd.refl _ _⟩
end Go.Proofs.Ytgdndcbcdoogpab
