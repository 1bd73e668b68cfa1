/- block: Attacks of the reference -/
import Derived.Test.YtmkbpocibpjjaaaLW
namespace Go.Proofs.Ytmkbpocibpjjaaa
open Go.RowKit Go.Shelf

theorem rcn_bd {es : List Int} (h : okE es) {j : Nat} (t : Nat) : 0 ≤ ((rcn es j).take t).sum ∧ ((rcn es j).take t).sum ≤ 274877906944 * (t : Int) := by
  have hb : ∀ x ∈ rcn es j, 0 ≤ x ∧ x ≤ 274877906944 := fun x hx => by
    obtain ⟨i, hi⟩ := List.getElem?_of_mem hx
    exact h.2 _ x (rcn_get hi)
  induction t with
  | zero => simp
  | succ t ih =>
    rw [List.take_add_one, List.sum_append]
    cases e : (rcn es j)[t]? with
    | none => simp; omega
    | some x =>
      have := hb x (List.mem_of_getElem? e)
      simp; omega
theorem rcn_succ {es : List Int} {j t : Nat} {x : Int} (hj : j ≤ es.length) (ht : t < j - (j - 4)) (hx : es[j - 4 + t]? = some x) : ((rcn es j).take (t + 1)).sum = ((rcn es j).take t).sum + x := by
  have h1 : (rcn es j)[t]? = some x := by
    unfold rcn
    rw [List.getElem?_take, if_pos ht, List.getElem?_drop]
    exact hx
  have _ := hj
  rw [List.take_add_one, List.sum_append, h1]; simp
set_option maxRecDepth 100000 in
set_option maxHeartbeats 4000000 in
theorem rAttacks_any (v : Value) (xs : List Int) (w : World) (h : Ints w v xs) : Calls Try.prog 15 #[v] w (EInts w (atS xs) (ckE xs)) := by
  have HP := Lib.hid (rParts_any v xs w h)
  obtain ⟨xa, cap, rfl⟩ := h.form
  by_cases h0 : ckE xs = 0
  · have HO := Lib.hid (ens_ok h0)
    have HS := Lib.hid (show atS xs = attL (ens xs) (ens xs).length from if_pos h0)
    have HPa := Lib.hid (show paS xs = ens xs from if_pos h0)
    rw [HS.out, h0]
    rw [h0, HPa.out] at HP
    generalize ens xs = es at *
    generalize xs.length = L0 at *
    clear h h0 HS HPa
    go_enter Try.func15, Try.ntmps15
    go_wp2_with fail
    refine HP.out.mono ?_
    rintro e w1 ⟨a, n, c, rfl, hr, u1⟩
    obtain rfl := row_len hr
    have hl5 := HO.out.1
    have HX := Lib.hid (Ints.ofRow hr (by omega)); have U1 := Lib.hid u1
    obtain ⟨N, hN⟩ : ∃ N, es.length = N := ⟨_, rfl⟩
    have HN := Lib.hid hN
    rw [hN] at HX hl5 ⊢
    clear hr u1 hN
    go_wp2_with fail
    go_loopw [6, 20] (fun v i wr => ∃ k : Nat, k ≤ N ∧ i = .int .i64 k ∧ wr.ownsRow w1.heap.size 3 1 v (attL es k).length (i64s (attL es k)) ∧ Upd NoB w1 wr) (fun _ i _ => N - (intOf i).toNat)
    case atStart => exact ⟨0, Nat.zero_le _, rfl, World.ownsRow_nil _ _ _ _, Upd.refl _ _⟩
    case round =>
      obtain ⟨k, hk, rfl, hown, hu⟩ := hrel
      obtain ⟨va, vc, rfl⟩ := row_form hown
      have HOw := Lib.hid hown; have HU := Lib.hid hu
      clear hown hu
      by_cases hlt : k < N
      · have HXr := Lib.hid (HX.out.later HU.out)
        obtain ⟨d, hd⟩ : ∃ d, k - 4 = d := ⟨_, rfl⟩
        obtain ⟨T, hT⟩ : ∃ T, k - (k - 4) = T := ⟨_, rfl⟩
        have hdT : d + T = k := by omega
        have hT4 : T ≤ 4 := by omega
        have hmx : max (0 : Int) ((k : Int) - 4) = (d : Int) := by omega
        have HBd := Lib.hid (fun t => rcn_bd HO.out (j := k) t)
        have HSu := Lib.hid (fun (t : Nat) (x : Int) (ht : t < T) (hx : es[d + t]? = some x) => rcn_succ (es := es) (j := k) (t := t) (x := x) (by rw [HN.out]; omega) (by omega) (by rw [hd]; exact hx))
        have HFin := Lib.hid (show (rcn es k).take T = rcn es k from List.take_of_length_le (by rw [rcn_length (by rw [HN.out]; omega)]; omega))
        have HAt := Lib.hid (show attB es k = decide (8 * ((rcn es k).sum / 4) + 65536 < es.getD k 0) from rfl)
        clear hd hT
        go_wp2_with fail
        go_loop [8, 9] (fun s i => ∃ t : Nat, t ≤ T ∧ i = .int .i64 (d + t : Nat) ∧ s = .int .i64 ((rcn es k).take t).sum) (fun _ i => k - (intOf i).toNat)
        case atStart => exact ⟨0, Nat.zero_le _, by rw [Nat.add_zero], rfl⟩
        case round =>
          obtain ⟨t, ht, rfl, rfl⟩ := hrel
          have hbd := HBd.out t
          by_cases hlt2 : t < T
          · obtain ⟨x, hx⟩ : ∃ x, es[d + t]? = some x := ⟨_, List.getElem?_eq_getElem (by rw [HN.out]; omega)⟩
            obtain ⟨b, off, rfl, c0⟩ := HXr.out.cellAt hx
            have hxb := HO.out.2 _ _ hx
            have HE := Lib.hid (HSu.out t x hlt2 hx)
            generalize ((rcn es k).take t).sum = s at *
            obtain ⟨z, hz⟩ : ∃ z, d + t = z := ⟨_, rfl⟩
            rw [hz] at c0 ⊢
            have HZ := Lib.hid hz
            have hzk : z < k := by omega
            have hzN : z < N := by omega
            have hs4 : s ≤ 274877906944 * 4 := by omega
            obtain ⟨hs0, _⟩ := hbd
            clear hx hz
            go_wp2_with fail
            go_round
            case rel => exact ⟨t + 1, by omega, by rw [← Nat.add_assoc, HZ.out]; go_num, by rw [HE.out]⟩
            case measure => simp [intOf]; omega
          · obtain rfl : t = T := by omega
            rw [hdT]
            rw [HFin.out] at hbd ⊢
            obtain ⟨x, hx⟩ : ∃ x, es[k]? = some x := ⟨_, List.getElem?_eq_getElem (by rw [HN.out]; exact hlt)⟩
            obtain ⟨b, off, rfl, c0⟩ := HXr.out.cellAt hx
            have hxb := HO.out.2 _ _ hx
            have hb := HU.out.size
            have hle := attL_le es k
            rw [getD_ofI hx] at HAt
            generalize (rcn es k).sum = s at *
            have hs4 : s ≤ 274877906944 * 4 := by omega
            obtain ⟨hs0, _⟩ := hbd
            clear hx
            cases hat : attB es k with
            | true =>
              have HL := Lib.hid (attL_yes hat)
              have HLn := Lib.hid (show (attL es (k + 1)).length = (attL es k).length + 1 by rw [HL.out]; simp)
              have t5 : decide (8 * (s / 4) + 65536 < x) = true := by rw [← HAt.out]; exact hat
              generalize attL es k = ys at *
              obtain ⟨m, hm⟩ : ∃ m, ys.length = m := ⟨_, rfl⟩
              rw [hm] at HOw HLn hle ⊢
              clear hat hm
              go_wp2_with (at_builtin; refine wpList_push rfl (.tmp 46) (.tmp 48) rfl w1.heap.size (.slice va m vc) m ys (k : Int) rfl rfl HOw.out (by omega) hb ?_; intro v' w' hown' u'; have R' := Lib.hid hown'; have U' := Lib.hid u'; clear hown' u')
              go_roundw
              case rel => exact ⟨k + 1, by omega, by go_num, by rw [HLn.out, HL.out]; exact R'.out, upd_ge ((upd_ge' HU.out w1.heap.size).trans U'.out (fun _ _ h => h))⟩
              case measure => simp [intOf]; omega
            | false =>
              have HL := Lib.hid (attL_no hat)
              have t5 : decide (8 * (s / 4) + 65536 < x) = false := by rw [← HAt.out]; exact hat
              clear hat
              go_wp2_with fail
              go_roundw
              case rel => exact ⟨k + 1, by omega, by go_num, by rw [HL.out]; exact HOw.out, HU.out⟩
              case measure => simp [intOf]; omega
      · obtain rfl : k = N := by omega
        go_wp2_with fail
        go_ret2
        exact ⟨_, _, _, rfl, by rw [HN.out]; exact row_base HOw.out (U1.out.size), U1.out.then HU.out⟩
  · have HS := Lib.hid (show atS xs = [] from if_neg h0)
    have t : (ckE xs != 0) = true := by simpa using h0
    rw [HS.out]
    have HPa := Lib.hid (show paS xs = [] from if_neg h0)
    rw [HPa.out] at HP
    generalize ckE xs = E at *
    clear h h0
    go_enter Try.func15, Try.ntmps15
    go_wp2_with fail
    refine HP.out.mono ?_
    rintro e w1 ⟨a, n, c, rfl, hr, u1⟩
    have U1 := Lib.hid u1; clear u1 hr
    go_wp2_with fail
    go_ret2
    exact ⟨none, 0, 0, rfl, World.ownsRow_nil _ _ _ _, U1.out⟩
end Go.Proofs.Ytmkbpocibpjjaaa
