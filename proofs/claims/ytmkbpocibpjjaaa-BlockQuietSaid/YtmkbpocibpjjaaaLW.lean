/- block: Parts of the reference -/
import Derived.Test.YtmkbpocibpjjaaaLO
namespace Go.Proofs.Ytmkbpocibpjjaaa
open Go.RowKit Go.Shelf

/-- the energies after the first i samples -/
def stP (xs : List Int) (M i : Nat) : List Int := (List.range M).map fun p => enT xs p (min 16 (i - 16 * p))
theorem stP_length (xs : List Int) (M i : Nat) : (stP xs M i).length = M := by simp [stP]
theorem stP_zero (xs : List Int) (M : Nat) : stP xs M 0 = List.replicate M 0 := by
  refine List.ext_getElem (by simp [stP]) fun i h1 h2 => ?_
  simp [stP, enT]
theorem stP_all {xs : List Int} {M : Nat} (hl : xs.length = 16 * M) : stP xs M (16 * M) = ens xs := by
  have hM : xs.length / 16 = M := by omega
  refine List.ext_getElem (by rw [stP_length, ens_length, hM]) fun i h1 h2 => ?_
  have h3 : i < M := by simpa [stP] using h1
  simp only [stP, ens, List.getElem_map, List.getElem_range]
  rw [show min 16 (16 * M - 16 * i) = 16 by omega]
  rfl
theorem stP_get {xs : List Int} {M k q r : Nat} (hk : k = 16 * q + r) (hr : r < 16) (hq : q < M) : (stP xs M k)[q]? = some (enT xs q r) := by
  unfold stP
  rw [List.getElem?_map, List.getElem?_range hq]
  rw [Option.map_some, show min 16 (k - 16 * q) = r by omega]
theorem stP_set {xs : List Int} {M k q r : Nat} (hk : k = 16 * q + r) (hr : r < 16) : (i64s (stP xs M k)).toArray.setIfInBounds q (.int .i64 (enT xs q (r + 1))) = (i64s (stP xs M (k + 1))).toArray := by
  rw [List.setIfInBounds_toArray]
  congr 1
  refine List.ext_getElem (by simp [stP, i64s]) fun i h1 h2 => ?_
  rw [List.getElem_set]
  simp only [i64s, stP, List.getElem_map, List.getElem_range]
  by_cases e : q = i
  · subst e; rw [if_pos rfl, show min 16 (k + 1 - 16 * q) = r + 1 by omega]
  · rw [if_neg e, show min 16 (k - 16 * i) = min 16 (k + 1 - 16 * i) by omega]
set_option maxRecDepth 100000 in
set_option maxHeartbeats 4000000 in
theorem rParts_any (v : Value) (xs : List Int) (w : World) (h : Ints w v xs) : Calls Try.prog 13 #[v] w (EInts w (paS xs) (ckE xs)) := by
  have HCk := Lib.hid (samples_any v xs w h)
  obtain ⟨xa, cap, rfl⟩ := h.form
  have H := Lib.hid h
  by_cases h0 : ckE xs = 0
  · obtain ⟨g1, g2, g3⟩ := ckE_ok h0
    have HS := Lib.hid (show paS xs = ens xs from if_pos h0)
    have HEl := Lib.hid (ens_length xs)
    rw [HS.out, h0]
    rw [h0] at HCk
    obtain ⟨M, hM⟩ : ∃ M, xs.length / 16 = M := ⟨_, rfl⟩
    have hl : xs.length = 16 * M := by omega
    have HAl := Lib.hid (stP_all hl)
    rw [hM] at HEl
    obtain ⟨L, hL⟩ : ∃ L, xs.length = L := ⟨_, rfl⟩
    have HL := Lib.hid hL
    rw [hL] at HCk H hl ⊢
    have HLM := Lib.hid hl
    have hM5 : M ≤ 512 := by omega
    have hdM : (L : Int) / 16 = (M : Int) := by omega
    have HB := Lib.hid g3
    obtain ⟨i0, hi, hz0, hz1, hz2⟩ := info_parts Try.infoInt
    clear h h0 hL hM g1 g2 g3 hl
    go_enter Try.func13, Try.ntmps13
    go_wp2_with fail
    refine HCk.out.mono ?_
    rintro e w' ⟨rfl, rfl⟩
    go_wp2_with (refine wpList_make_full w rfl _ _ 22 rfl w.heap.size 3 i0 (.int .i64 0) 1 Try.underlying22 hi hz0 hz1 .i64 .i64 _ _ M rfl rfl rfl rfl ?c1 ?c2 ?c3 ?_)
    case c1 => rw [hz2]; omega
    case c2 => unfold maxLen; omega
    case c3 => exact Nat.le_refl _
    intro w2 hown hgr
    rw [made_zero] at hown
    have hu2 : Upd NoB w w2 := (Upd.refl _ _).grown hgr (fun k e => by cases e)
    have HF := Lib.hid (show w2.heap[w.heap.size]? = some (.cells (i64s (stP xs M 0)).toArray 3 (0, 0)) by rw [stP_zero]; exact (row_full hown).1)
    have H2 := Lib.hid (H.out.later hu2); have U2 := Lib.hid hu2
    have HLt := Lib.hid (fun hne j hj => H.out.lt hne j hj)
    clear hown hgr hu2
    go_wp2_with fail
    go_loopw [6, 20] (fun b i wr => ∃ k : Nat, k ≤ L ∧ i = .int .i64 k ∧ b = .int .i64 (prevI xs k) ∧ wr.heap[w.heap.size]? = some (.cells (i64s (stP xs M k)).toArray 3 (0, 0)) ∧ Upd (fun q => q = w.heap.size) w2 wr) (fun _ i _ => L - (intOf i).toNat)
    case atStart => exact ⟨0, Nat.zero_le _, rfl, rfl, HF.out, Upd.refl _ _⟩
    case round =>
      obtain ⟨k, hk, rfl, rfl, hm, hu⟩ := hrel
      by_cases hlt : k < L
      · obtain ⟨q, hq⟩ : ∃ q, k / 16 = q := ⟨_, rfl⟩
        obtain ⟨r, hr⟩ : ∃ r, k % 16 = r := ⟨_, rfl⟩
        have hkq : k = 16 * q + r := by omega
        have hr16 : r < 16 := by omega
        have hqM : q < M := by have := HLM.out; omega
        have hdq : (k : Int) / 16 = (q : Int) := by omega
        obtain ⟨x, hx⟩ : ∃ x, xs[k]? = some x := ⟨_, List.getElem?_eq_getElem (by rw [HL.out]; exact hlt)⟩
        have hX := H2.out.upd hu (fun hne j hj e => by have := HLt.out hne j hj; omega)
        obtain ⟨b, off, rfl, c0⟩ := hX.cellAt hx
        have f3 := blk_free hm q
        have c3 : wr.cell? ⟨w.heap.size, q, none⟩ = some (.int .i64 (enT xs q r)) := by
          rw [blk_cell hm q, List.getElem?_toArray, i64s_get, stP_get hkq hr16 hqM]; rfl
        have hb1 := allIn_yes HB.out hx
        have hb2 := prevI_in HB.out k
        have hb3 := enT_bound HB.out q r
        have hb4 := difI_bound HB.out k
        have HE := Lib.hid (show enT xs q (r + 1) = enT xs q r + difI xs k * difI xs k by rw [hkq]; rfl)
        have HP := Lib.hid (show prevI xs (k + 1) = x by rw [prevI_succ, getD_ofI hx])
        have HD2 := Lib.hid (show difI xs k = x - prevI xs k by unfold difI; rw [getD_ofI hx])
        have HSt := Lib.hid (stP_set (xs := xs) (M := M) hkq hr16)
        have HM := Lib.hid hm; have HU := Lib.hid hu
        generalize prevI xs k = la at *
        generalize enT xs q r = E at *
        rw [HD2.out] at HE hb4
        obtain ⟨Q, hQ⟩ : ∃ Q, (x - la) * (x - la) = Q := ⟨_, rfl⟩
        have hw1 : IntKind.i64.wrap ((x - la) * (x - la)) = Q := by rw [hQ]; rw [hQ] at hb4; exact IntWalk.i64_in _ (by omega)
        have hw2 : wrap64 ((x - la) * (x - la)) = Q := by rw [hQ]; rw [hQ] at hb4; exact IntWalk.wrap64_in _ (by omega)
        rw [hQ] at HE hb4
        have hE2 : E ≤ 17179869184 * 16 := by omega
        obtain ⟨hb3, _⟩ := hb3
        have qM : (q : Int) < (M : Int) := by omega
        clear hQ hm hu hx hX hq hr hkq hr16
        go_wp2_with fail
        go_roundw
        case rel => exact ⟨k + 1, by omega, by go_num, by rw [HP.out], by rw [← HSt.out, HE.out]; exact block_set HM.out _, HU.out.setCell _ (fun _ => rfl)⟩
        case measure => simp [intOf]; omega
      · obtain rfl : k = L := by omega
        have HM := Lib.hid hm; have HU := Lib.hid hu
        have hkM : k = 16 * M := HLM.out
        have HA2 := Lib.hid (show stP xs M k = ens xs by rw [hkM]; exact HAl.out)
        clear hm hu hkM
        go_wp2_with fail
        go_ret2
        exact ⟨_, _, _, rfl, by rw [HEl.out, ← HA2.out]; exact row_of_full (by rw [i64s_length, stP_length]) (by unfold maxLen; omega) (Nat.le_refl _) HM.out, upd_ge ((upd_ge' U2.out w.heap.size).trans HU.out (fun j hj e => by omega))⟩
  · have HS := Lib.hid (show paS xs = [] from if_neg h0)
    have t : (ckE xs != 0) = true := by simpa using h0
    rw [HS.out]
    generalize ckE xs = E at *
    clear h h0
    go_enter Try.func13, Try.ntmps13
    go_wp2_with (go_at_call 42; refine HCk.out.mono ?_; rintro e w' ⟨rfl, rfl⟩)
    go_ret2
    exact ⟨none, 0, 0, rfl, World.ownsRow_nil _ _ _ _, Upd.refl _ _⟩
end Go.Proofs.Ytmkbpocibpjjaaa
