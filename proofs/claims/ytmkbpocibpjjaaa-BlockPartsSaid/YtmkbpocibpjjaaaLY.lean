/- block: Flags of the reference; the law of Parts, Attacks and Flags -/
import Derived.Test.YtmkbpocibpjjaaaLX
namespace Go.Proofs.Ytmkbpocibpjjaaa
open Go.RowKit Go.Shelf

/-- the flags after the first t attacks -/
def stR (al : List Int) (F t : Nat) : List Bool := (List.range F).map fun (f : Nat) => (al.take t).any fun a => decide (a / 8 = (f : Int))
theorem stR_length (al : List Int) (F t : Nat) : (stR al F t).length = F := by simp [stR]
theorem stR_zero (al : List Int) (F : Nat) : stR al F 0 = List.replicate F false := by
  refine List.ext_getElem (by simp [stR]) fun i h1 h2 => ?_
  simp [stR]
theorem stR_set {al : List Int} {F t q : Nat} {a : Int} (h : al[t]? = some a) (hq : a / 8 = (q : Int)) : (bls (stR al F t)).toArray.setIfInBounds q (.bool true) = (bls (stR al F (t + 1))).toArray := by
  rw [List.setIfInBounds_toArray]
  congr 1
  refine List.ext_getElem (by simp [stR, bls]) fun i h1 h2 => ?_
  rw [List.getElem_set]
  simp only [bls, stR, List.getElem_map, List.getElem_range]
  rw [List.take_add_one, h, List.any_append]
  by_cases e : q = i
  · subst e; rw [if_pos rfl]; simp [hq]
  · rw [if_neg e]
    have : decide (a / 8 = (i : Int)) = false := decide_eq_false (by omega)
    simp [this]
theorem attL_get {es : List Int} {n t : Nat} {a : Int} (h : (attL es n)[t]? = some a) : ∃ k : Nat, a = (k : Int) ∧ k < n ∧ attB es k = true := by
  have hm := List.mem_of_getElem? h
  unfold attL at hm
  rw [List.mem_map] at hm
  obtain ⟨k, hk, rfl⟩ := hm
  rw [List.mem_filter, List.mem_range] at hk
  exact ⟨k, rfl, hk.1, hk.2⟩
theorem stR_all {es : List Int} {F : Nat} (h : es.length = 8 * F) : stR (attL es es.length) F (attL es es.length).length = stF es F F := by
  unfold stR
  rw [List.take_length]
  refine List.ext_getElem (by simp [stF]) fun i h1 h2 => ?_
  have h3 : i < F := by simpa [stF] using h2
  simp only [stF, List.getElem_map, List.getElem_range, if_pos h3]
  cases hb : flB es i with
  | true =>
    unfold flB at hb
    rw [List.any_eq_true] at hb
    obtain ⟨p, hp, hp2⟩ := hb
    rw [List.mem_range] at hp
    rw [List.any_eq_true]
    refine ⟨((8 * i + p : Nat) : Int), ?_, decide_eq_true (by omega)⟩
    unfold attL
    rw [List.mem_map]
    exact ⟨8 * i + p, List.mem_filter.2 ⟨List.mem_range.2 (by omega), hp2⟩, rfl⟩
  | false =>
    rw [List.any_eq_false]
    intro a ha
    obtain ⟨t, ht⟩ := List.getElem?_of_mem ha
    obtain ⟨k, rfl, hk, hat⟩ := attL_get ht
    intro hd
    have hd := of_decide_eq_true hd
    have : flB es i = true := flB_yes (p := k % 8) (by omega) (by rw [show 8 * i + k % 8 = k by omega]; exact hat)
    rw [hb] at this; cases this
set_option maxRecDepth 100000 in
set_option maxHeartbeats 4000000 in
theorem rFlags_any (v : Value) (xs : List Int) (w : World) (h : Ints w v xs) : Calls Try.prog 17 #[v] w (EBls w (flS xs) (ckE xs)) := by
  have HP := Lib.hid (rAttacks_any v xs w h)
  obtain ⟨xa, cap, rfl⟩ := h.form
  by_cases h0 : ckE xs = 0
  · obtain ⟨g1, g2, _⟩ := ckE_ok h0
    have hlen := ens_length xs
    have HS := Lib.hid (show flS xs = stF (ens xs) (xs.length / 128) (xs.length / 128) from if_pos h0)
    have HAs := Lib.hid (show atS xs = attL (ens xs) (ens xs).length from if_pos h0)
    obtain ⟨F, hF⟩ : ∃ F, xs.length / 128 = F := ⟨_, rfl⟩
    have hN8 : (ens xs).length = 8 * F := by omega
    have HAl := Lib.hid (stR_all hN8)
    have HGe := Lib.hid (show ∀ (t : Nat) (a : Int), (attL (ens xs) (ens xs).length)[t]? = some a → ∃ k : Nat, a = (k : Int) ∧ k < 8 * F ∧ attB (ens xs) k = true from fun t a ha => by
      obtain ⟨k, h1, h2, h3⟩ := attL_get ha
      exact ⟨k, h1, by omega, h3⟩)
    rw [HS.out, h0]
    rw [h0, HAs.out] at HP
    rw [hF]
    have hLe : (attL (ens xs) (ens xs).length).length ≤ 8 * F := by have := attL_le (ens xs) (ens xs).length; omega
    have HFl := Lib.hid (stF_length (ens xs) F F)
    generalize stF (ens xs) F F = fin at *
    generalize attL (ens xs) (ens xs).length = al at *
    obtain ⟨L, hL⟩ : ∃ L, xs.length = L := ⟨_, rfl⟩
    rw [hL] at HP hF g1 g2 ⊢
    have hdF : (L : Int) / 128 = (F : Int) := by omega
    have hF64 : F ≤ 64 := by omega
    obtain ⟨K, hK⟩ : ∃ K, al.length = K := ⟨_, rfl⟩
    have HK := Lib.hid hK
    rw [hK] at hLe HAl
    obtain ⟨i0, hi, hz0, hz1, hz2⟩ := info_parts Try.infoBool
    clear h h0 HS HAs hF g1 g2 hlen hN8 hL hK
    go_enter Try.func17, Try.ntmps17
    go_wp2_with fail
    refine HP.out.mono ?_
    rintro e w1 ⟨a, n, c, rfl, hr, u1⟩
    obtain rfl := row_len hr
    have HX := Lib.hid (Ints.ofRow hr (by rw [HK.out]; omega)); have U1 := Lib.hid u1
    rw [HK.out] at HX ⊢
    clear hr u1
    go_wp2_with (refine wpList_make_full w1 rfl _ _ 27 rfl w1.heap.size 4 i0 (.bool false) 1 Try.underlying27 hi hz0 hz1 .i64 .i64 _ _ F rfl rfl rfl rfl ?c1 ?c2 ?c3 ?_)
    case c1 => rw [hz2]; omega
    case c2 => unfold maxLen; omega
    case c3 => exact Nat.le_refl _
    intro w2 hown hgr
    rw [made_false] at hown
    have hu2 : Upd NoB w1 w2 := (Upd.refl _ _).grown hgr (fun k e => by cases e)
    have HF := Lib.hid (show w2.heap[w1.heap.size]? = some (.cells (bls (stR al F 0)).toArray 4 (0, 0)) by rw [stR_zero]; exact (row_full hown).1)
    have H2 := Lib.hid (HX.out.later hu2); have U2 := Lib.hid hu2
    have HLt := Lib.hid (fun hne j hj => HX.out.lt hne j hj)
    clear hown hgr hu2
    go_wp2_with fail
    go_loopw [23] (fun i wr => ∃ t : Nat, t ≤ K ∧ i = .int .i64 t ∧ wr.heap[w1.heap.size]? = some (.cells (bls (stR al F t)).toArray 4 (0, 0)) ∧ Upd (fun q => q = w1.heap.size) w2 wr) (fun i _ => K - (intOf i).toNat)
    case atStart => exact ⟨0, Nat.zero_le _, rfl, HF.out, Upd.refl _ _⟩
    case round =>
      obtain ⟨t, ht, rfl, hm, hu⟩ := hrel
      by_cases hlt : t < K
      · obtain ⟨x, hx⟩ : ∃ x, al[t]? = some x := ⟨_, List.getElem?_eq_getElem (by rw [HK.out]; exact hlt)⟩
        obtain ⟨k, hxk, hk8, _⟩ := HGe.out t x hx
        obtain ⟨q, hq⟩ : ∃ q, k / 8 = q := ⟨_, rfl⟩
        have hdq : (k : Int) / 8 = (q : Int) := by omega
        have HSt := Lib.hid (stR_set (F := F) hx (q := q) (by rw [hxk]; exact hdq))
        have hX := H2.out.upd hu (fun hne j hj e => by have := HLt.out hne j hj; omega)
        obtain ⟨b, off, rfl, c0⟩ := hX.cellAt hx
        rw [hxk] at c0
        have hqF : q < F := by omega
        have qF : (q : Int) < (F : Int) := by omega
        have f3 := blk_free hm q
        have c3 : wr.cell? ⟨w1.heap.size, q, none⟩ = some (.bool ((stR al F t).getD q false)) := by
          rw [blk_cell hm q, List.getElem?_toArray, bls_get]
          rw [List.getD_eq_getElem?_getD, List.getElem?_eq_getElem (by rw [stR_length]; exact hqF)]
          rfl
        have HM := Lib.hid hm; have HU := Lib.hid hu
        clear hm hu hx hX hq hxk
        go_wp2_with fail
        go_roundw
        case rel => exact ⟨t + 1, by omega, by go_num, by have := block_set (i := q) HM.out (.bool true); rw [HSt.out] at this; exact this, HU.out.setCell _ (fun _ => rfl)⟩
        case measure => simp [intOf]; omega
      · obtain rfl : t = K := by omega
        have HM := Lib.hid hm; have HU := Lib.hid hu
        clear hm hu
        go_wp2_with fail
        go_ret2
        exact ⟨_, _, _, rfl, by rw [HFl.out, ← HAl.out]; exact row_of_full (by simp [bls, stR_length]) (by unfold maxLen; omega) U1.out.size HM.out, upd_ge ((upd_ge' (U1.out.then U2.out) w.heap.size).trans HU.out (fun j hj e => by have := U1.out.size; omega))⟩
  · have HS := Lib.hid (show flS xs = [] from if_neg h0)
    have t : (ckE xs != 0) = true := by simpa using h0
    rw [HS.out]
    have HPa := Lib.hid (show atS xs = [] from if_neg h0)
    rw [HPa.out] at HP
    generalize ckE xs = E at *
    clear h h0
    go_enter Try.func17, Try.ntmps17
    go_wp2_with fail
    refine HP.out.mono ?_
    rintro e w1 ⟨a, n, c, rfl, hr, u1⟩
    have U1 := Lib.hid u1; clear u1 hr
    go_wp2_with fail
    go_ret2
    exact ⟨none, 0, 0, rfl, World.ownsRow_nil _ _ _ _, U1.out⟩
end Go.Proofs.Ytmkbpocibpjjaaa
