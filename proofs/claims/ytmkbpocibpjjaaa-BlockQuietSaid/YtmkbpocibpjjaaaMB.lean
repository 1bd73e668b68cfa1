/- block: the law of quiet samples -/
import Derived.Test.YtmkbpocibpjjaaaMA
import Derived.Deep.RegionHeld3
namespace Go.Proofs.Ytmkbpocibpjjaaa
open Go.RowKit Go.Shelf

theorem Ints.pre {w : World} {a : Option Addr} {n cap : Nat} {xs : List Int} (h : Ints w (.slice a n cap) xs) {t : Nat} (ht : t ≤ xs.length) : Ints w (.slice a t cap) (xs.take t) := by
  obtain ⟨hb, a', c', e, ⟨hlc, hn⟩, h3⟩ := h
  cases e
  have hlt : (xs.take t).length = t := by rw [List.length_take]; omega
  refine ⟨by omega, a, cap, by rw [hlt], ⟨by omega, hn⟩, ?_⟩
  rcases h3 with h3 | ⟨b, off, rfl, h3⟩
  · subst h3; exact .inl (by simp)
  · refine .inr ⟨b, off, rfl, fun j x hj => ?_⟩
    rw [List.getElem?_take] at hj
    split at hj
    · exact h3 j x hj
    · cases hj
def stQ (z : Int) (n k : Nat) : List Int := (List.range n).map fun i => if i < k then z else 0
theorem stQ_length (z : Int) (n k : Nat) : (stQ z n k).length = n := by simp [stQ]
theorem stQ_zero (z : Int) (n : Nat) : stQ z n 0 = List.replicate n 0 := by
  refine List.ext_getElem (by simp [stQ]) fun i h1 h2 => ?_
  simp [stQ]
theorem stQ_all (z : Int) (n : Nat) : stQ z n n = List.replicate n z := by
  refine List.ext_getElem (by simp [stQ]) fun i h1 h2 => ?_
  have h3 : i < n := by simpa [stQ] using h1
  simp only [stQ, List.getElem_map, List.getElem_range, if_pos h3, List.getElem_replicate]
theorem stQ_set (z : Int) (n k : Nat) : (i64s (stQ z n k)).toArray.setIfInBounds k (.int .i64 z) = (i64s (stQ z n (k + 1))).toArray := by
  rw [List.setIfInBounds_toArray]
  congr 1
  refine List.ext_getElem (by simp [stQ, i64s]) fun i h1 h2 => ?_
  rw [List.getElem_set]
  simp only [i64s, stQ, List.getElem_map, List.getElem_range]
  by_cases e : k = i
  · subst e; rw [if_pos rfl, if_pos (by omega)]
  · rw [if_neg e]
    by_cases h3 : i < k
    · rw [if_pos h3, if_pos (by omega)]
    · rw [if_neg h3, if_neg (by omega)]
theorem atS_len (xs : List Int) : (atS xs).length ≤ 512 := by
  by_cases h0 : ckE xs = 0
  · have := attL_le (ens xs) (ens xs).length
    have := (ens_ok h0).1
    rw [show atS xs = attL (ens xs) (ens xs).length from if_pos h0]; omega
  · rw [show atS xs = [] from if_neg h0]; exact Nat.zero_le _
theorem spliceQ {xs : List Int} {z : Int} {n c : Nat} (hl : xs.length = n) (hc : c ≤ n) : splice (i64s (List.replicate n z)) 0 (i64s (xs.take c)) = i64s (mixQ xs z n c) := by
  unfold splice mixQ
  rw [List.take_zero, List.nil_append, i64s_append, i64s_length, List.length_take, Nat.zero_add, Nat.min_eq_left (by omega)]
  congr 1
  simp [i64s]
set_option maxRecDepth 100000 in
set_option maxHeartbeats 8000000 in
theorem quiet_law (v : Value) (xs : List Int) (z cut : Int) (w : World) (h : Ints w v xs) (hc : 0 ≤ cut ∧ cut ≤ 65535) :
    Calls Try.prog 9 #[v, .int .i64 z, .int .u16 cut] w fun e w' => e = .returned (.bool true) ∧ Upd NoB w w' := by
  have HWi := Lib.hid (Within_any v xs w h)
  obtain ⟨a, cap, rfl⟩ := h.form
  have H := Lib.hid h
  have hlb := h.1
  have hcap : xs.length ≤ cap := by obtain ⟨_, _, _, e, ⟨hc, _⟩, _⟩ := h; cases e; exact hc
  obtain ⟨L, hL⟩ : ∃ L, xs.length = L := ⟨_, rfl⟩
  have HL := Lib.hid hL
  rw [hL] at HWi H hlb hcap ⊢
  clear h hL
  by_cases h1 : 8192 < L
  · have t1 : decide ((8192 : Int) < (L : Int)) = true := decide_eq_true (by omega)
    clear h1 hlb hcap
    go_enter Try.func9, Try.ntmps9
    go_wp2_with (first | (go_at_call 38; refine HWi.out.mono ?_; rintro e w' ⟨rfl, rfl⟩) | (go_at_call 11; refine (awake_any _).mono ?_; rintro e w' ⟨rfl, u9⟩; have U9 := Lib.hid u9; clear u9))
    go_ret
    exact ⟨rfl, U9.out⟩
  have t1 : decide ((8192 : Int) < (L : Int)) = false := decide_eq_false (by omega)
  obtain ⟨r, hr⟩ : ∃ r, L % 128 = r := ⟨_, rfl⟩
  have d1 : (L : Int) % 128 = (r : Int) := by omega
  by_cases h2 : 0 < r
  · have t2 : decide ((0 : Int) < (r : Int)) = true := decide_eq_true (by omega)
    have t2n : decide (0 < r) = true := decide_eq_true h2
    clear h1 h2 hlb hcap hr
    go_enter Try.func9, Try.ntmps9
    go_wp2_with (first | (go_at_call 38; refine HWi.out.mono ?_; rintro e w' ⟨rfl, rfl⟩) | (go_at_call 11; refine (awake_any _).mono ?_; rintro e w' ⟨rfl, u9⟩; have U9 := Lib.hid u9; clear u9))
    go_ret
    exact ⟨rfl, U9.out⟩
  obtain rfl : r = 0 := by omega
  by_cases h3 : L = 0
  · subst h3
    clear h1 h2 hlb hcap hr
    go_enter Try.func9, Try.ntmps9
    go_wp2_with (first | (go_at_call 38; refine HWi.out.mono ?_; rintro e w' ⟨rfl, rfl⟩) | (go_at_call 11; refine (awake_any _).mono ?_; rintro e w' ⟨rfl, u9⟩; have U9 := Lib.hid u9; clear u9))
    go_ret
    exact ⟨rfl, U9.out⟩
  have t3 : decide ((L : Int) = 0) = false := decide_eq_false (by omega)
  have t3n : decide (L = 0) = false := decide_eq_false h3
  have hL1 : 0 < L := by omega
  by_cases h4 : allIn (-65536) 65536 xs = false
  · rw [h4] at HWi
    clear h1 h2 h3 h4 hlb hcap hr
    go_enter Try.func9, Try.ntmps9
    go_wp2_with (first | (go_at_call 38; refine HWi.out.mono ?_; rintro e w' ⟨rfl, rfl⟩) | (go_at_call 11; refine (awake_any _).mono ?_; rintro e w' ⟨rfl, u9⟩; have U9 := Lib.hid u9; clear u9))
    go_ret
    exact ⟨rfl, U9.out⟩
  have hall : allIn (-65536) 65536 xs = true := by cases e : allIn (-65536) 65536 xs with | true => rfl | false => exact absurd e h4
  rw [hall] at HWi
  by_cases h5 : z < -65536
  · have t5 : decide (z < -65536) = true := decide_eq_true h5
    clear h1 h2 h3 h4 h5 hall hlb hcap hr
    go_enter Try.func9, Try.ntmps9
    go_wp2_with (first | (go_at_call 38; refine HWi.out.mono ?_; rintro e w' ⟨rfl, rfl⟩) | (go_at_call 11; refine (awake_any _).mono ?_; rintro e w' ⟨rfl, u9⟩; have U9 := Lib.hid u9; clear u9))
    go_ret
    exact ⟨rfl, U9.out⟩
  have t5 : decide (z < -65536) = false := decide_eq_false h5
  by_cases h6 : 65536 < z
  · have t6 : decide ((65536 : Int) < z) = true := decide_eq_true h6
    clear h1 h2 h3 h4 h5 h6 hall hlb hcap hr
    go_enter Try.func9, Try.ntmps9
    go_wp2_with (first | (go_at_call 38; refine HWi.out.mono ?_; rintro e w' ⟨rfl, rfl⟩) | (go_at_call 11; refine (awake_any _).mono ?_; rintro e w' ⟨rfl, u9⟩; have U9 := Lib.hid u9; clear u9))
    go_ret
    exact ⟨rfl, U9.out⟩
  have t6 : decide ((65536 : Int) < z) = false := decide_eq_false h6
  obtain ⟨M, hM⟩ : ∃ M, L / 16 = M := ⟨_, rfl⟩
  have hdM : (L : Int) / 16 = (M : Int) := by omega
  have hM0 : 0 < M := by omega
  have hp0 := Int.emod_nonneg cut (show (M : Int) ≠ 0 by omega)
  have hp1 := Int.emod_lt_of_pos cut (show (0 : Int) < (M : Int) by omega)
  obtain ⟨p, hp⟩ := Int.eq_ofNat_of_zero_le hp0
  rw [hp] at hp1
  have hpM : p < M := by omega
  have HQ := Lib.hid (mixQ_att (v := z) (p := p) HL.out hr (by omega) hall (by omega) (by omega))
  have HSm := Lib.hid (same_att (v := z) (n := L) hr (by omega) (by omega))
  have hpL : 16 * p + 16 ≤ L := by omega
  have hL8 : L ≤ 8192 := by omega
  obtain ⟨i0, hi, hz0, hz1, hz2⟩ := info_parts Try.infoInt
  clear h1 h2 h3 h4 h5 h6 hall hlb hr hM hp0 hp1
  go_enter Try.func9, Try.ntmps9
  go_wp2_with fail
  refine HWi.out.mono ?_
  rintro e w' ⟨rfl, rfl⟩
  go_wp2_with (refine wpList_make_full w rfl _ _ 22 rfl w.heap.size 3 i0 (.int .i64 0) 1 Try.underlying22 hi hz0 hz1 .i64 .i64 _ _ L rfl rfl rfl rfl ?c1 ?c2 ?c3 ?_)
  case c1 => rw [hz2]; omega
  case c2 => unfold maxLen; omega
  case c3 => exact Nat.le_refl _
  intro w2 hown hgr
  rw [made_zero] at hown
  have hu2 : Upd NoB w w2 := (Upd.refl _ _).grown hgr (fun k e => by cases e)
  have HF := Lib.hid (show w2.heap[w.heap.size]? = some (.cells (i64s (stQ z L 0)).toArray 3 (0, 0)) by rw [stQ_zero]; exact (row_full hown).1)
  have U2 := Lib.hid hu2
  clear hown hgr hu2
  go_wp2_with fail
  go_loopw [55] (fun i wr => ∃ k : Nat, k ≤ L ∧ i = .int .i64 k ∧ wr.heap[w.heap.size]? = some (.cells (i64s (stQ z L k)).toArray 3 (0, 0)) ∧ Upd (fun q => q = w.heap.size) w2 wr) (fun i _ => L - (intOf i).toNat)
  case atStart => exact ⟨0, Nat.zero_le _, rfl, HF.out, Upd.refl _ _⟩
  case round =>
    obtain ⟨k, hk, rfl, hm, hu⟩ := hrel
    by_cases hlt : k < L
    · have f3 := blk_free hm k
      have c3 : wr.cell? ⟨w.heap.size, k, none⟩ = some (.int .i64 ((stQ z L k).getD k 0)) := by
        rw [blk_cell hm k, List.getElem?_toArray, i64s_get]
        rw [List.getD_eq_getElem?_getD, List.getElem?_eq_getElem (by rw [stQ_length]; exact hlt)]
        rfl
      have HSt := Lib.hid (stQ_set z L k)
      have HM := Lib.hid hm; have HU := Lib.hid hu
      clear hm hu
      go_wp2_with fail
      go_roundw
      case rel => exact ⟨k + 1, by omega, by go_num, by rw [← HSt.out]; exact block_set HM.out _, HU.out.setCell _ (fun _ => rfl)⟩
      case measure => simp [intOf]; omega
    · obtain rfl : k = L := by omega
      have hm2 : wr.heap[w.heap.size]? = some (.cells (i64s (List.replicate k z)).toArray 3 (0, 0)) := by rw [← stQ_all]; exact hm
      have HM := Lib.hid hm2
      have hu3 : Upd NoB w wr := upd_ge ((upd_ge' U2.out w.heap.size).trans hu (fun j hj e => by omega))
      have HU := Lib.hid hu3
      have IS := Lib.hid (show Ints wr (.slice (some ⟨w.heap.size, 0, none⟩) k k) (List.replicate k z) by
        have := full_ints (xs := List.replicate k z) (by rw [List.length_replicate]; omega) hm2
        rw [List.length_replicate] at this; exact this)
      clear hm hm2 hu hu3
      go_wp2_with fail
      refine (Attacks_any _ (List.replicate k z) wr IS.out).mono ?_
      rw [HSm.out.1]
      rintro e w3 ⟨a3, n3, k3, rfl, r3, u3⟩
      obtain rfl := row_len r3
      have M3 := Lib.hid (u3.heap HM.out (noB _)); have U3 := Lib.hid (HU.out.then u3)
      have IA := Lib.hid (Ints.ofRow r3 (by rcases HSm.out.2 with e | e <;> rw [e] <;> decide))
      have HCase := Lib.hid HSm.out.2
      clear r3 u3 IS HM
      generalize atS (List.replicate k z) = al at *
      rcases HCase.out with rfl | rfl
      · have IPre := Lib.hid (fun w' (u : Upd NoB w w') => (H.out.later u).pre (t := 16 * p + 16) (by rw [HL.out]; exact hpL))
        go_wp2_with (refine wpList_copy_splice rfl (.tmp 92) (.tmp 97) 22 22 rfl 3 Try.underlying22 int_size (some ⟨w.heap.size, 0, none⟩) a k k (16 * p + 16) cap rfl rfl w.heap.size 0 (i64s (List.replicate k z)) 3 M3.out (i64s (xs.take (16 * p + 16))) ?d1 ?d2 ?d3 (i64s_one _) w.heap.size w U3.out.below (Nat.le_refl _) ?_)
        case d1 =>
          rw [i64s_length, List.length_take, HL.out]
        case d2 =>
          intro _
          obtain ⟨x0, hx0⟩ : ∃ x, (xs.take (16 * p + 16))[0]? = some x := ⟨_, List.getElem?_eq_getElem (by rw [List.length_take, HL.out]; omega)⟩
          obtain ⟨b, off, hAe, _⟩ := (IPre.out w3 U3.out).cellAt hx0
          refine ⟨_, hAe, fun j v hv => ?_⟩
          rw [i64s_get] at hv
          cases hy : (xs.take (16 * p + 16))[j]? with
          | none => rw [hy] at hv; cases hv
          | some y =>
            rw [hy] at hv
            cases hv
            obtain ⟨b', off', e, hc⟩ := (IPre.out w3 U3.out).cellAt hy
            rw [hAe] at e
            cases e
            rw [addr_add]; exact hc
        case d3 => rw [i64s_length, i64s_length, List.length_take, List.length_replicate, HL.out]; omega
        intro w4 hh hbl
        have hh := hh.out
        rw [spliceQ HL.out hpL] at hh
        have hu4 : Upd NoB w w4 := Upd.ofBelow hbl
        obtain ⟨c1, c2, m, m1, m2, m3, m4, m5⟩ := HQ.out
        have hml := mixQ_length (v := z) (c := 16 * p + 16) HL.out hpL
        have X4 := Lib.hid (H.out.later hu4); have U4 := Lib.hid hu4
        have S4 := Lib.hid (show Ints w4 (.slice (some ⟨w.heap.size, 0, none⟩) k k) (mixQ xs z k (16 * p + 16)) by
          have := full_ints (xs := mixQ xs z k (16 * p + 16)) (by rw [hml]; omega) hh
          rw [hml] at this; exact this)
        have l1 := atS_len xs
        have l2 := atS_len (mixQ xs z k (16 * p + 16))
        have HA1 := Lib.hid (Attacks_any (.slice a k cap) xs w4 X4.out)
        have HA2 := Lib.hid (fun w' (u : Upd NoB w4 w') => Attacks_any (.slice (some ⟨w.heap.size, 0, none⟩) k k) (mixQ xs z k (16 * p + 16)) w' (S4.out.later u))
        rw [c1] at HA1
        rw [c2] at HA2
        clear hh hbl hu4 hml c1 c2 HQ
        generalize atS xs = bl at *
        generalize atS (mixQ xs z k (16 * p + 16)) = cl at *
        go_wp2_with fail
        (with_reducible refine HA1.out.mono ?_)
        rintro e w5 ⟨a5, n5, k5, rfl, r5, u5⟩
        obtain rfl := row_len r5
        have B5 := Lib.hid (Ints.ofRow r5 (by omega)); have U5 := Lib.hid u5
        clear r5 u5
        go_wp2_with fail
        (with_reducible refine (HA2.out w5 U5.out).mono ?_)
        rintro e w6 ⟨a6, n6, k6, rfl, r6, u6⟩
        obtain rfl := row_len r6
        have C6 := Lib.hid (Ints.ofRow r6 (by omega)); have B6 := Lib.hid (B5.out.later u6); have U6 := Lib.hid (U4.out.then (U5.out.then u6))
        clear r6 u6
        obtain ⟨N1, hN1⟩ : ∃ N, bl.length = N := ⟨_, rfl⟩
        obtain ⟨N2, hN2⟩ : ∃ N, cl.length = N := ⟨_, rfl⟩
        have HN1 := Lib.hid hN1; have HN2 := Lib.hid hN2
        rw [hN1] at B6 m1 m4 l1 ⊢
        rw [hN2] at C6 m2 m5 l2 ⊢
        have M1 := Lib.hid m1; have M2 := Lib.hid m2; have M3' := Lib.hid m3
        have HLe1 := Lib.hid (cntL_le bl p); have HLe2 := Lib.hid (cntL_le cl p)
        have hk5 : N1 ≤ k5 := by obtain ⟨_, _, _, e, ⟨hc, _⟩, _⟩ := B6.out; cases e; rw [HN1.out] at hc; exact hc
        have hk6 : N2 ≤ k6 := by obtain ⟨_, _, _, e, ⟨hc, _⟩, _⟩ := C6.out; cases e; rw [HN2.out] at hc; exact hc
        clear m1 m2 m3 hN1 hN2 HA1 HA2 B5 U5 S4 X4 M3
        go_wp2_with fail
        go_loop [16, 117] (fun n i => ∃ j : Nat, j ≤ N1 ∧ i = .int .i64 j ∧ n = .int .i64 (cntL bl p j : Nat)) (fun _ i => N1 - (intOf i).toNat)
        case atStart => exact ⟨0, Nat.zero_le _, rfl, by rw [cntL_zero]; rfl⟩
        case round =>
          obtain ⟨j, hj, rfl, rfl⟩ := hrel
          by_cases hlt : j < N1
          · obtain ⟨x, hx⟩ : ∃ x, bl[j]? = some x := ⟨_, List.getElem?_eq_getElem (by rw [HN1.out]; exact hlt)⟩
            obtain ⟨b, off, rfl, c0⟩ := B6.out.cellAt hx
            have hle := HLe1.out j
            by_cases hxp : x ≤ (p : Int)
            · have HC := Lib.hid (cntL_yes hx hxp)
              have t7 : decide (x ≤ (p : Int)) = true := decide_eq_true hxp
              generalize cntL bl p j = n at *
              clear hx hxp
              go_wp2_with fail
              go_round
              case rel => exact ⟨j + 1, by omega, by go_num, by rw [HC.out]; go_num⟩
              case measure => simp [intOf]; omega
            · have HC := Lib.hid (cntL_no hx hxp)
              have t7 : decide (x ≤ (p : Int)) = false := decide_eq_false hxp
              generalize cntL bl p j = n at *
              clear hx hxp
              go_wp2_with fail
              go_round
              case rel => exact ⟨j + 1, by omega, by go_num, by rw [HC.out]⟩
              case measure => simp [intOf]; omega
          · obtain rfl : j = N1 := by omega
            rw [M1.out]
            go_wp2_with fail
            go_loop [17, 129] (fun n i => ∃ j : Nat, j ≤ N2 ∧ i = .int .i64 j ∧ n = .int .i64 (cntL cl p j : Nat)) (fun _ i => N2 - (intOf i).toNat)
            case atStart => exact ⟨0, Nat.zero_le _, rfl, by rw [cntL_zero]; rfl⟩
            case round =>
              obtain ⟨j2, hj2, rfl, rfl⟩ := hrel
              by_cases hlt : j2 < N2
              · obtain ⟨x, hx⟩ : ∃ x, cl[j2]? = some x := ⟨_, List.getElem?_eq_getElem (by rw [HN2.out]; exact hlt)⟩
                obtain ⟨b, off, rfl, c0⟩ := C6.out.cellAt hx
                have hle := HLe2.out j2
                by_cases hxp : x ≤ (p : Int)
                · have HC := Lib.hid (cntL_yes hx hxp)
                  have t7 : decide (x ≤ (p : Int)) = true := decide_eq_true hxp
                  generalize cntL cl p j2 = n at *
                  clear hx hxp
                  go_wp2_with fail
                  go_round
                  case rel => exact ⟨j2 + 1, by omega, by go_num, by rw [HC.out]; go_num⟩
                  case measure => simp [intOf]; omega
                · have HC := Lib.hid (cntL_no hx hxp)
                  have t7 : decide (x ≤ (p : Int)) = false := decide_eq_false hxp
                  generalize cntL cl p j2 = n at *
                  clear hx hxp
                  go_wp2_with fail
                  go_round
                  case rel => exact ⟨j2 + 1, by omega, by go_num, by rw [HC.out]⟩
                  case measure => simp [intOf]; omega
              · obtain rfl : j2 = N2 := by omega
                rw [M2.out]
                have P1 := Lib.hid (fun w' (u : Upd NoB w6 w') => (B6.out.later u).pre (t := m) (by rw [HN1.out]; exact m4))
                have P2 := Lib.hid (fun w' (u : Upd NoB w6 w') => (C6.out.later u).pre (t := m) (by rw [HN2.out]; exact m5))
                rw [← M3'.out] at P2
                have tm : decide (m = m) = true := decide_eq_true rfl
                have HQn := qints_any (.slice a5 m k5) (.slice a6 m k6) (bl.take m) (bl.take m) w6.drew (P1.out _ (Upd.refl _ _).drew) (P2.out _ (Upd.refl _ _).drew)
                rw [intsB_self] at HQn
                have HQn := Lib.hid HQn
                have m5k : m ≤ k5 := by omega
                have m6k : m ≤ k6 := by omega
                clear tm P1 P2 HLe1 HLe2 HN1 HN2 B6 C6 M1 M2 M3' l1 l2 hlt hj hj2 m4 m5 hk5 hk6
                go_wp2_with fail
                go_region_held3 (fun _ => True) (trivial)
                  (first
                    | (go_at_call 18; (with_reducible refine HQn.out.mono ?_); rintro e w7 ⟨rfl, hnq⟩; have U7 := Lib.hid (show Upd NoB w w7 from hnq.elim fun nq h => h ▸ upd_drewN U6.out.drew nq); clear hnq)
                    | (go_at_call 11; (with_reducible refine (awake_any _).mono ?_); rintro e w' ⟨rfl, u9⟩; have U9 := Lib.hid (U7.out.then u9); clear u9))
                go_wp2_with fail
                go_ret
                exact ⟨rfl, U9.out⟩
      · obtain ⟨bq, oq, rfl, cq⟩ := IA.out.cellAt (k := 0) (x := 0) rfl
        rw [Nat.add_zero] at cq
        have IPre := Lib.hid (fun w' (u : Upd NoB w w') => (H.out.later u).pre (t := 16 * p + 16) (by rw [HL.out]; exact hpL))
        go_wp2_with (refine wpList_copy_splice rfl (.tmp 92) (.tmp 97) 22 22 rfl 3 Try.underlying22 int_size (some ⟨w.heap.size, 0, none⟩) a k k (16 * p + 16) cap rfl rfl w.heap.size 0 (i64s (List.replicate k z)) 3 M3.out (i64s (xs.take (16 * p + 16))) ?d1 ?d2 ?d3 (i64s_one _) w.heap.size w U3.out.below (Nat.le_refl _) ?_)
        case d1 =>
          rw [i64s_length, List.length_take, HL.out]
        case d2 =>
          intro _
          obtain ⟨x0, hx0⟩ : ∃ x, (xs.take (16 * p + 16))[0]? = some x := ⟨_, List.getElem?_eq_getElem (by rw [List.length_take, HL.out]; omega)⟩
          obtain ⟨b, off, hAe, _⟩ := (IPre.out w3 U3.out).cellAt hx0
          refine ⟨_, hAe, fun j v hv => ?_⟩
          rw [i64s_get] at hv
          cases hy : (xs.take (16 * p + 16))[j]? with
          | none => rw [hy] at hv; cases hv
          | some y =>
            rw [hy] at hv
            cases hv
            obtain ⟨b', off', e, hc⟩ := (IPre.out w3 U3.out).cellAt hy
            rw [hAe] at e
            cases e
            rw [addr_add]; exact hc
        case d3 => rw [i64s_length, i64s_length, List.length_take, List.length_replicate, HL.out]; omega
        intro w4 hh hbl
        have hh := hh.out
        rw [spliceQ HL.out hpL] at hh
        have hu4 : Upd NoB w w4 := Upd.ofBelow hbl
        obtain ⟨c1, c2, m, m1, m2, m3, m4, m5⟩ := HQ.out
        have hml := mixQ_length (v := z) (c := 16 * p + 16) HL.out hpL
        have X4 := Lib.hid (H.out.later hu4); have U4 := Lib.hid hu4
        have S4 := Lib.hid (show Ints w4 (.slice (some ⟨w.heap.size, 0, none⟩) k k) (mixQ xs z k (16 * p + 16)) by
          have := full_ints (xs := mixQ xs z k (16 * p + 16)) (by rw [hml]; omega) hh
          rw [hml] at this; exact this)
        have l1 := atS_len xs
        have l2 := atS_len (mixQ xs z k (16 * p + 16))
        have HA1 := Lib.hid (Attacks_any (.slice a k cap) xs w4 X4.out)
        have HA2 := Lib.hid (fun w' (u : Upd NoB w4 w') => Attacks_any (.slice (some ⟨w.heap.size, 0, none⟩) k k) (mixQ xs z k (16 * p + 16)) w' (S4.out.later u))
        rw [c1] at HA1
        rw [c2] at HA2
        clear hh hbl hu4 hml c1 c2 HQ
        generalize atS xs = bl at *
        generalize atS (mixQ xs z k (16 * p + 16)) = cl at *
        go_wp2_with fail
        (with_reducible refine HA1.out.mono ?_)
        rintro e w5 ⟨a5, n5, k5, rfl, r5, u5⟩
        obtain rfl := row_len r5
        have B5 := Lib.hid (Ints.ofRow r5 (by omega)); have U5 := Lib.hid u5
        clear r5 u5
        go_wp2_with fail
        (with_reducible refine (HA2.out w5 U5.out).mono ?_)
        rintro e w6 ⟨a6, n6, k6, rfl, r6, u6⟩
        obtain rfl := row_len r6
        have C6 := Lib.hid (Ints.ofRow r6 (by omega)); have B6 := Lib.hid (B5.out.later u6); have U6 := Lib.hid (U4.out.then (U5.out.then u6))
        clear r6 u6
        obtain ⟨N1, hN1⟩ : ∃ N, bl.length = N := ⟨_, rfl⟩
        obtain ⟨N2, hN2⟩ : ∃ N, cl.length = N := ⟨_, rfl⟩
        have HN1 := Lib.hid hN1; have HN2 := Lib.hid hN2
        rw [hN1] at B6 m1 m4 l1 ⊢
        rw [hN2] at C6 m2 m5 l2 ⊢
        have M1 := Lib.hid m1; have M2 := Lib.hid m2; have M3' := Lib.hid m3
        have HLe1 := Lib.hid (cntL_le bl p); have HLe2 := Lib.hid (cntL_le cl p)
        have hk5 : N1 ≤ k5 := by obtain ⟨_, _, _, e, ⟨hc, _⟩, _⟩ := B6.out; cases e; rw [HN1.out] at hc; exact hc
        have hk6 : N2 ≤ k6 := by obtain ⟨_, _, _, e, ⟨hc, _⟩, _⟩ := C6.out; cases e; rw [HN2.out] at hc; exact hc
        clear m1 m2 m3 hN1 hN2 HA1 HA2 B5 U5 S4 X4 M3
        go_wp2_with fail
        go_loop [16, 117] (fun n i => ∃ j : Nat, j ≤ N1 ∧ i = .int .i64 j ∧ n = .int .i64 (cntL bl p j : Nat)) (fun _ i => N1 - (intOf i).toNat)
        case atStart => exact ⟨0, Nat.zero_le _, rfl, by rw [cntL_zero]; rfl⟩
        case round =>
          obtain ⟨j, hj, rfl, rfl⟩ := hrel
          by_cases hlt : j < N1
          · obtain ⟨x, hx⟩ : ∃ x, bl[j]? = some x := ⟨_, List.getElem?_eq_getElem (by rw [HN1.out]; exact hlt)⟩
            obtain ⟨b, off, rfl, c0⟩ := B6.out.cellAt hx
            have hle := HLe1.out j
            by_cases hxp : x ≤ (p : Int)
            · have HC := Lib.hid (cntL_yes hx hxp)
              have t7 : decide (x ≤ (p : Int)) = true := decide_eq_true hxp
              generalize cntL bl p j = n at *
              clear hx hxp
              go_wp2_with fail
              go_round
              case rel => exact ⟨j + 1, by omega, by go_num, by rw [HC.out]; go_num⟩
              case measure => simp [intOf]; omega
            · have HC := Lib.hid (cntL_no hx hxp)
              have t7 : decide (x ≤ (p : Int)) = false := decide_eq_false hxp
              generalize cntL bl p j = n at *
              clear hx hxp
              go_wp2_with fail
              go_round
              case rel => exact ⟨j + 1, by omega, by go_num, by rw [HC.out]⟩
              case measure => simp [intOf]; omega
          · obtain rfl : j = N1 := by omega
            rw [M1.out]
            go_wp2_with fail
            go_loop [17, 129] (fun n i => ∃ j : Nat, j ≤ N2 ∧ i = .int .i64 j ∧ n = .int .i64 (cntL cl p j : Nat)) (fun _ i => N2 - (intOf i).toNat)
            case atStart => exact ⟨0, Nat.zero_le _, rfl, by rw [cntL_zero]; rfl⟩
            case round =>
              obtain ⟨j2, hj2, rfl, rfl⟩ := hrel
              by_cases hlt : j2 < N2
              · obtain ⟨x, hx⟩ : ∃ x, cl[j2]? = some x := ⟨_, List.getElem?_eq_getElem (by rw [HN2.out]; exact hlt)⟩
                obtain ⟨b, off, rfl, c0⟩ := C6.out.cellAt hx
                have hle := HLe2.out j2
                by_cases hxp : x ≤ (p : Int)
                · have HC := Lib.hid (cntL_yes hx hxp)
                  have t7 : decide (x ≤ (p : Int)) = true := decide_eq_true hxp
                  generalize cntL cl p j2 = n at *
                  clear hx hxp
                  go_wp2_with fail
                  go_round
                  case rel => exact ⟨j2 + 1, by omega, by go_num, by rw [HC.out]; go_num⟩
                  case measure => simp [intOf]; omega
                · have HC := Lib.hid (cntL_no hx hxp)
                  have t7 : decide (x ≤ (p : Int)) = false := decide_eq_false hxp
                  generalize cntL cl p j2 = n at *
                  clear hx hxp
                  go_wp2_with fail
                  go_round
                  case rel => exact ⟨j2 + 1, by omega, by go_num, by rw [HC.out]⟩
                  case measure => simp [intOf]; omega
              · obtain rfl : j2 = N2 := by omega
                rw [M2.out]
                have P1 := Lib.hid (fun w' (u : Upd NoB w6 w') => (B6.out.later u).pre (t := m) (by rw [HN1.out]; exact m4))
                have P2 := Lib.hid (fun w' (u : Upd NoB w6 w') => (C6.out.later u).pre (t := m) (by rw [HN2.out]; exact m5))
                rw [← M3'.out] at P2
                have tm : decide (m = m) = true := decide_eq_true rfl
                have HQn := qints_any (.slice a5 m k5) (.slice a6 m k6) (bl.take m) (bl.take m) w6.drew (P1.out _ (Upd.refl _ _).drew) (P2.out _ (Upd.refl _ _).drew)
                rw [intsB_self] at HQn
                have HQn := Lib.hid HQn
                have m5k : m ≤ k5 := by omega
                have m6k : m ≤ k6 := by omega
                clear tm P1 P2 HLe1 HLe2 HN1 HN2 B6 C6 M1 M2 M3' l1 l2 hlt hj hj2 m4 m5 hk5 hk6
                go_wp2_with fail
                go_region_held3 (fun _ => True) (trivial)
                  (first
                    | (go_at_call 18; (with_reducible refine HQn.out.mono ?_); rintro e w7 ⟨rfl, hnq⟩; have U7 := Lib.hid (show Upd NoB w w7 from hnq.elim fun nq h => h ▸ upd_drewN U6.out.drew nq); clear hnq)
                    | (go_at_call 11; (with_reducible refine (awake_any _).mono ?_); rintro e w' ⟨rfl, u9⟩; have U9 := Lib.hid (U7.out.then u9); clear u9))
                go_wp2_with fail
                go_ret
                exact ⟨rfl, U9.out⟩
end Go.Proofs.Ytmkbpocibpjjaaa
