/- linear: the reference's Residual -/
import Derived.Test.YtgdndcbcdoogpabTXm
namespace Go.Proofs.Ytgdndcbcdoogpab
open Go.RowKit Go.Shelf

set_option maxRecDepth 100000 in
set_option maxHeartbeats 8000000 in
theorem rResidual_any (sv fv : Value) (x f : List Int) (w : World) (h : Ints w sv x) (hf : Ints w fv f) : Calls Try.prog 29 #[sv, fv] w (EInts w (reS x f) (reE 2097152 x f)) := by
  have HI := Lib.hid (rIs_any fv f w hf)
  have HC := Lib.hid (rlist_any sv x 2097152 w (by decide) h)
  have HE := Lib.hid (show reE 2097152 x f = if isF f = true then ckE 2097152 x else 1 from rfl)
  have HS := Lib.hid (show reS x f = if reE 2097152 x f = 0 then resG (wtL f) s0L x else [] from rfl)
  have HX := Lib.hid h
  cases hF : isF f with
  | false =>
    rw [hF] at HI HE
    rw [if_neg (by decide)] at HE
    rw [HE.out, if_neg (by decide)] at HS
    rw [HE.out, HS.out]
    obtain ⟨a, cap, rfl⟩ := h.form
    obtain ⟨fa, fcap, rfl⟩ := hf.form
    generalize x.length = L at *
    generalize f.length = M at *
    clear h hf hF
    go_enter Try.func29, Try.ntmps29
    go_wp2_with fail
    refine HI.out.mono ?_
    rintro e w1 ⟨rfl, rfl⟩
    go_wp2_with fail
    go_ret2
    exact ⟨none, 0, 0, rfl, World.ownsRow_nil _ _ _ _, Upd.refl _ _⟩
  | true =>
    rw [hF] at HI HE
    rw [if_pos rfl] at HE
    by_cases hc : ckE 2097152 x = 0
    · obtain ⟨hxl, hxi⟩ := ckE_ok hc
      obtain ⟨hwl, hf12, hwi⟩ := wt_bd hF
      have HWt := Lib.hid (rweights_any fv f w hf hF)
      rw [hc] at HC HE
      rw [HE.out, if_pos rfl] at HS
      rw [HE.out, HS.out]
      have HDl := Lib.hid (resG_len (wtL f) s0L x)
      have HDt := Lib.hid (fun n v (hv : x[n]? = some v) => res_take (ws := wtL f) (by rw [hwl]; exact hf12) hv)
      have HDe := Lib.hid (show (resG (wtL f) s0L x).take x.length = resG (wtL f) s0L x from List.take_of_length_le (by rw [resG_len]; exact Nat.le_refl _))
      have HPb := Lib.hid (fun k => (prd_in hwi (inM_rev (inM_take hxi k)) (by rw [hwl]; exact hf12)).2.2)
      have HXi := Lib.hid (fun k v (hv : x[k]? = some v) => inM_yes hxi v (List.mem_of_getElem? hv))
      have HPr := Lib.hid (fun W k va (hv : Ints W va (x.take k)) wv (hw : Ints W wv (wtL f)) => rpred_any va wv (x.take k) (wtL f) W hv hw (inM_take hxi k) (by rw [List.length_take]; omega) hwi (by rw [hwl]; exact hf12))
      obtain ⟨a, cap, rfl⟩ := h.form
      obtain ⟨fa, fcap, rfl⟩ := hf.form
      have hcap : x.length ≤ cap := by
        obtain ⟨_, a', c', e, ⟨hcc, _⟩, _⟩ := h
        injection e with _ _ e3
        omega
      obtain ⟨D, hD⟩ : ∃ D, resG (wtL f) s0L x = D := ⟨_, rfl⟩
      rw [hD] at HDl HDt HDe ⊢
      obtain ⟨ws, hws⟩ : ∃ ws, wtL f = ws := ⟨_, rfl⟩
      rw [hws] at HWt HDt HPb HPr hwl
      obtain ⟨L, hL⟩ : ∃ L, x.length = L := ⟨_, rfl⟩
      obtain ⟨M, hM⟩ : ∃ M, f.length = M := ⟨_, rfl⟩
      have HL := Lib.hid hL
      rw [hL] at HX HC hcap hxl HDl HDe ⊢
      rw [hM] at HI HWt hwl hf12 ⊢
      have HWl := Lib.hid hwl; have HM12 := Lib.hid hf12
      have HTl := Lib.hid (fun k (hk : k ≤ L) => (show (x.take k).length = k by rw [List.length_take, HL.out]; omega))
      clear h hf hF hc hxi hwi hL hM hD hws HE HS hwl hf12
      go_enter Try.func29, Try.ntmps29
      go_wp2_with fail
      refine HI.out.mono ?_
      rintro e w1 ⟨rfl, rfl⟩
      go_wp2_with fail
      refine HC.out.mono ?_
      rintro e w1 ⟨rfl, rfl⟩
      go_wp2_with fail
      refine HWt.out.mono ?_
      rintro e w2 ⟨v2, rfl, r2, u2⟩
      rw [HWl.out] at r2
      obtain ⟨a2, c2, rfl⟩ := row_form r2
      have I2 := Lib.hid (show Ints w2 (.slice a2 M c2) ws from row_ints r2 HWl.out (by have := HM12.out; omega))
      have U2 := Lib.hid u2
      clear r2 u2
      go_wp2_with fail
      go_loopw [8, 23] (fun v i wr => ∃ k : Nat, k ≤ L ∧ i = .int .i64 k ∧ wr.ownsRow w2.heap.size 3 1 v k (i64s (D.take k)) ∧ Upd NoB w2 wr) (fun _ i _ => L - (intOf i).toNat)
      case atStart => exact ⟨0, Nat.zero_le _, rfl, World.ownsRow_nil _ _ _ _, Upd.refl _ _⟩
      case round =>
        obtain ⟨k, hk, rfl, hown, hu⟩ := hrel
        obtain ⟨va, vc, rfl⟩ := row_form hown
        have HO := Lib.hid hown; have HU := Lib.hid hu
        have hb := hu.size
        by_cases hlt : k < L
        · obtain ⟨v, hv⟩ : ∃ v, x[k]? = some v := ⟨_, List.getElem?_eq_getElem (by rw [HL.out]; exact hlt)⟩
          have HXw := Lib.hid (HX.out.later (U2.out.then hu))
          have hsl := fun V => run_slice_pre V a L cap k (by omega)
          have HPk := Lib.hid (show Ints wr (.slice a k cap) (x.take k) by
            have := Ints.pre HXw.out k (by rw [HL.out]; omega)
            rw [HTl.out k hk] at this
            exact this)
          obtain ⟨bb, off, rfl, c0⟩ := HXw.out.cellAt hv
          have hvi := HXi.out k v hv
          have hpb := HPb.out k
          have HT := Lib.hid (HDt.out k v hv)
          have HCall := Lib.hid (HPr.out wr k _ HPk.out _ (I2.out.later hu))
          generalize prd ws (x.take k).reverse = P at *
          have z1 : wrap64 (v - P) = v - P := IntWalk.wrap64_in _ (by omega)
          have z2 : IntKind.i64.wrap (v - P) = v - P := IntWalk.i64_in _ (by clear z1; omega)
          have hk1 : k ≤ 1000000 := by clear z1 z2; omega
          have s1 : decide ((L : Int) < (k : Int)) = false := decide_eq_false (by clear z1 z2; omega)
          have s2 : decide (L < k) = false := decide_eq_false (by clear z1 z2; omega)
          clear hown hu hv hvi hpb
          go_wp2_with fail
          refine HCall.out.mono ?_
          rintro e w5 ⟨rfl, rfl⟩
          go_wp2_with (at_builtin; refine wpList_push rfl (.tmp 28) (.tmp 36) rfl w2.heap.size (.slice va k vc) k (D.take k) (v - P) rfl rfl HO.out hk1 hb ?_; intro v' w' hown' u'; have R' := Lib.hid hown'; have U' := Lib.hid u'; clear hown' u')
          go_roundw
          case rel => exact ⟨k + 1, by clear z1 z2; omega, by go_num, by rw [HT.out]; exact R'.out, upd_ge ((upd_ge' HU.out w2.heap.size).trans U'.out (fun _ _ h => h))⟩
          case measure => clear z1 z2; simp [intOf]; omega
        · obtain rfl : k = L := by omega
          have HR := Lib.hid (show wr.ownsRow w2.heap.size 3 1 (.slice va k vc) k (i64s D) by have := HO.out; rw [HDe.out] at this; exact this)
          clear hown hu hlt
          go_wp2_with fail
          go_ret2
          exact ⟨_, _, _, rfl, by rw [HDl.out]; exact row_base HR.out U2.out.size, U2.out.then HU.out⟩
    · have hE0 : reE 2097152 x f ≠ 0 := by rw [HE.out]; exact hc
      rw [if_neg hE0] at HS
      rw [HS.out, HE.out]
      obtain ⟨C, hC⟩ : ∃ C, ckE 2097152 x = C := ⟨_, rfl⟩
      rw [hC] at HC hc ⊢
      have hc0 : (C == 0) = false := beq_eq_false_iff_ne.2 hc
      obtain ⟨a, cap, rfl⟩ := h.form
      obtain ⟨fa, fcap, rfl⟩ := hf.form
      generalize x.length = L at *
      generalize f.length = M at *
      clear h hf hF hc hE0 hC
      go_enter Try.func29, Try.ntmps29
      go_wp2_with fail
      refine HI.out.mono ?_
      rintro e w1 ⟨rfl, rfl⟩
      go_wp2_with fail
      refine HC.out.mono ?_
      rintro e w1 ⟨rfl, rfl⟩
      go_wp2_with fail
      go_ret2
      exact ⟨none, 0, 0, rfl, World.ownsRow_nil _ _ _ _, Upd.refl _ _⟩
end Go.Proofs.Ytgdndcbcdoogpab
