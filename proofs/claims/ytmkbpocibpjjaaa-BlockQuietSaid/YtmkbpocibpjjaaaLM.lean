/- block: the kinds of frames -/
import Derived.Test.YtmkbpocibpjjaaaLK
namespace Go.Proofs.Ytmkbpocibpjjaaa
open Go.RowKit Go.Shelf

/-- is the frame i short? -/
def shI (fs : List Bool) (i : Int) : Bool := decide (0 ≤ i) && fs.getD i.toNat false
def sdN (fs : List Bool) (i : Nat) : Nat := (bif shI fs ((i : Int) - 1) then 1 else 0) + (bif shI fs ((i : Int) + 1) then 2 else 0)
def kdOf (b : Bool) (s : Nat) : Int := bif b then 2 else if s = 0 then 0 else if s = 1 then 3 else if s = 2 then 1 else 4
def kd (fs : List Bool) (i : Nat) : Int := kdOf (shI fs i) (sdN fs i)
def kds (fs : List Bool) : List Int := (List.range fs.length).map (kd fs)
theorem kds_length (fs : List Bool) : (kds fs).length = fs.length := by simp [kds]
def stK (fs : List Bool) (n k : Nat) : List Int := (List.range n).map fun i => if i < k then kd fs i else 0
theorem stK_length (fs : List Bool) (n k : Nat) : (stK fs n k).length = n := by simp [stK]
theorem stK_zero (fs : List Bool) (n : Nat) : stK fs n 0 = List.replicate n 0 := by
  refine List.ext_getElem (by simp [stK]) fun i h1 h2 => ?_
  simp [stK]
theorem stK_all (fs : List Bool) : stK fs fs.length fs.length = kds fs := by
  refine List.ext_getElem (by simp [stK, kds]) fun i h1 h2 => ?_
  have : i < fs.length := by simpa [stK] using h1
  simp [stK, kds, this]
theorem stK_set (fs : List Bool) (n k : Nat) : (i64s (stK fs n k)).toArray.setIfInBounds k (.int .i64 (kd fs k)) = (i64s (stK fs n (k + 1))).toArray := by
  rw [List.setIfInBounds_toArray]
  congr 1
  refine List.ext_getElem (by simp [stK, i64s]) fun i h1 h2 => ?_
  rw [List.getElem_set]
  simp only [i64s, stK, List.getElem_map, List.getElem_range]
  by_cases e : k = i
  · subst e; rw [if_pos rfl, if_pos (by omega)]
  · rw [if_neg e]
    by_cases h3 : i < k
    · rw [if_pos h3, if_pos (by omega)]
    · rw [if_neg h3, if_neg (by omega)]
theorem shI_neg {fs : List Bool} {i : Int} (h : i < 0) : shI fs i = false := by unfold shI; rw [decide_eq_false (by omega)]; rfl
theorem shI_far {fs : List Bool} {i : Int} (h : (fs.length : Int) ≤ i) : shI fs i = false := by
  unfold shI
  rw [List.getD_eq_getElem?_getD, List.getElem?_eq_none (by omega)]
  simp
theorem shI_at {fs : List Bool} {k : Nat} {b : Bool} (h : fs[k]? = some b) : shI fs (k : Int) = b := by
  unfold shI
  rw [decide_eq_true (by omega), Int.toNat_natCast, getD_of h]
  rfl
theorem made_zero (n : Nat) : (madeCells #[Value.int .i64 0] n).toList = i64s (List.replicate n 0) := by
  rw [toList_madeCells_one]; simp [i64s]
set_option maxRecDepth 100000 in
theorem kindOf_any (b : Bool) (s : Nat) (w : World) (hs : s ≤ 3) : Calls Try.prog 62 #[.bool b, .int .i64 (s : Int)] w fun e w' => e = .returned (.int .i64 (kdOf b s)) ∧ Upd NoB w w' := by
  cases b with
  | true =>
    go_enter Try.func62, Try.ntmps62
    go_wp2
    go_ret
    exact ⟨rfl, Upd.refl _ _⟩
  | false =>
    have hu : Upd NoB w (w.alloc (.cells #[.int .i64 0, .int .i64 3, .int .i64 1, .int .i64 4] 67)) := (Upd.refl _ _).alloc _
    have hb := heap_alloc_new w (.cells #[.int .i64 0, .int .i64 3, .int .i64 1, .int .i64 4] 67)
    obtain ⟨W, hW⟩ : ∃ W, W = w.alloc (.cells #[.int .i64 0, .int .i64 3, .int .i64 1, .int .i64 4] 67) := ⟨_, rfl⟩
    rw [← hW] at hu hb
    have HW := Lib.hid hW
    have c0 : W.cell? ⟨w.heap.size, 0, none⟩ = some (.int .i64 0) := blk_cell hb 0
    have c1 : W.cell? ⟨w.heap.size, 1, none⟩ = some (.int .i64 3) := blk_cell hb 1
    have c2 : W.cell? ⟨w.heap.size, 2, none⟩ = some (.int .i64 1) := blk_cell hb 2
    have c3 : W.cell? ⟨w.heap.size, 3, none⟩ = some (.int .i64 4) := blk_cell hb 3
    clear hW hb
    go_enter Try.func62, Try.ntmps62
    rcases (show s = 0 ∨ s = 1 ∨ s = 2 ∨ s = 3 by omega) with rfl | rfl | rfl | rfl
    all_goals
      go_wp2_with fail
      try rw [← HW.out]
      go_wp2_with fail
      go_ret
      exact ⟨rfl, hu⟩
theorem kindOf_lit (b : Bool) (s : Nat) (S : Int) (w : World) (hs : s ≤ 3) (hS : S = (s : Int)) : Calls Try.prog 62 #[.bool b, .int .i64 S] w fun e w' => e = .returned (.int .i64 (kdOf b s)) ∧ Upd NoB w w' := by
  subst hS
  exact kindOf_any b s w hs
set_option maxRecDepth 100000 in
set_option maxHeartbeats 2000000 in
theorem isShortb_any (B1 B2 : Nat) (v : Value) (fs : List Bool) (i : Int) (w : World) (hb1 : w.cell? ⟨B1, 0, none⟩ = some v) (hb2 : w.cell? ⟨B2, 0, none⟩ = some (.bool true)) (h : Bls w v fs) :
    Calls Try.prog 61 #[.int .i64 i, .pointer (some ⟨B1, 0, none⟩), .pointer (some ⟨B2, 0, none⟩)] w fun e w' => e = .returned (.bool (shI fs i)) ∧ Upd NoB w w' := by
  obtain ⟨a, cap, rfl⟩ := h.form
  have H := Lib.hid h
  obtain ⟨L, hL⟩ : ∃ L, fs.length = L := ⟨_, rfl⟩
  have HL := Lib.hid hL
  rw [hL] at hb1 H
  clear h hL
  by_cases h0 : i < 0
  · have HS := Lib.hid (shI_neg (fs := fs) h0)
    have t0 : decide ((0 : Int) ≤ i) = false := decide_eq_false (by omega)
    rw [HS.out]
    clear h0
    go_enter Try.func61, Try.ntmps61
    go_wp2_with fail
    go_quiet (fail)
    go_wp2_with fail
    go_ret
    exact ⟨rfl, upd_drewN (Upd.refl NoB _) _⟩
  have t0 : decide ((0 : Int) ≤ i) = true := decide_eq_true (by omega)
  by_cases h1 : (L : Int) ≤ i
  · have HS := Lib.hid (shI_far (fs := fs) (i := i) (by rw [HL.out]; exact h1))
    have t1 : decide (i < (L : Int)) = false := decide_eq_false (by omega)
    rw [HS.out]
    clear h0 h1
    go_enter Try.func61, Try.ntmps61
    go_wp2_with fail
    go_quiet (fail)
    go_wp2_with fail
    go_ret
    exact ⟨rfl, upd_drewN (Upd.refl NoB _) _⟩
  obtain ⟨k, rfl⟩ := Int.eq_ofNat_of_zero_le (show 0 ≤ i by omega)
  have q1 : (k : Int) < (L : Int) := by omega
  have t1 : decide (k < L) = true := decide_eq_true (by omega)
  have t2 : decide ((k : Int) < (L : Int)) = true := decide_eq_true (by omega)
  obtain ⟨x, hx⟩ : ∃ x, fs[k]? = some x := ⟨_, List.getElem?_eq_getElem (by rw [HL.out]; omega)⟩
  obtain ⟨b, off, rfl, c0⟩ := H.out.cellAt hx
  have HS := Lib.hid (shI_at hx)
  rw [HS.out]
  clear h0 h1 hx
  cases x <;>
    (go_enter Try.func61, Try.ntmps61
     go_wp2_with fail
     go_quiet (fail)
     go_wp2_with fail
     go_ret
     exact ⟨rfl, upd_drewN (Upd.refl NoB _) _⟩)
set_option maxRecDepth 100000 in
set_option maxHeartbeats 1500000 in
theorem kindsOfb_any (v : Value) (fs : List Bool) (w : World) (h : Bls w v fs) (hl : fs.length ≤ 64) :
    Calls Try.prog 45 #[v, .bool true] w (IRes w (kds fs)) := by
  obtain ⟨a, cap, rfl⟩ := h.form
  obtain ⟨W, hW⟩ : ∃ W, W = (w.alloc (.cells #[.slice a fs.length cap] 27)).alloc (.cells #[.bool true] 4) := ⟨_, rfl⟩
  have u0 : Upd NoB w W := by rw [hW]; exact ((Upd.refl _ _).alloc _).alloc _
  have b0 : W.heap[w.heap.size]? = some (.cells #[.slice a fs.length cap] 27 (0, 0)) := by rw [hW]; exact (Below.heap_alloc _ _ _ (by rw [size_alloc]; omega)).trans (heap_alloc_new w _)
  have b1 : W.heap[w.heap.size + 1]? = some (.cells #[.bool true] 4 (0, 0)) := by
    rw [hW]
    have := heap_alloc_new (w.alloc (.cells #[.slice a fs.length cap] 27)) (.cells #[.bool true] 4)
    rwa [size_alloc] at this
  have HX := Lib.hid (h.later u0)
  have HS := Lib.hid (fun (i : Int) (w' : World) (u : Upd (fun q => q = W.heap.size) W w') => isShortb_any w.heap.size (w.heap.size + 1) (.slice a fs.length cap) fs i w' (u.cell (blk_cell b0 0) (by have := lt_of_block b1; simp only; omega)) (u.cell (blk_cell b1 0) (by have := lt_of_block b1; simp only; omega)) (HX.out.upd u (fun hne j hj => by have := HX.out.lt hne j hj; omega)))
  obtain ⟨i0, hi, hz0, hz1, hz2⟩ := info_parts Try.infoInt
  have HK0 := Lib.hid (stK_zero fs fs.length)
  have HKs := Lib.hid (fun k => stK_set fs fs.length k)
  have HKl := Lib.hid (fun k => stK_length fs fs.length k)
  have HKa := Lib.hid (show stK fs fs.length fs.length = kds fs by exact stK_all fs)
  have HKd := Lib.hid (fun i => show kd fs i = kdOf (shI fs i) (sdN fs i) from rfl)
  have HSd := Lib.hid (fun (i : Nat) => show sdN fs i = (bif shI fs ((i : Int) - 1) then 1 else 0) + (bif shI fs ((i : Int) + 1) then 2 else 0) from rfl)
  have HKe := Lib.hid (show (kds fs).length = fs.length by exact kds_length fs)
  have hbox := blk_cell b0 0
  have HW := Lib.hid hW; have U0 := Lib.hid u0
  obtain ⟨L, hL⟩ : ∃ L, fs.length = L := ⟨_, rfl⟩
  rw [hL] at HK0 HKs HKl HKa HKe hbox hl HW ⊢
  have hbox : W.cell? ⟨w.heap.size, 0, none⟩ = some (.slice a L cap) := hbox
  clear h hW u0 b0 b1 hL
  go_enter Try.func45, Try.ntmps45
  go_wp2_with (rw [← HW.out]; refine wpList_make_full W rfl _ _ 22 rfl W.heap.size 3 i0 (.int .i64 0) 1 Try.underlying22 hi hz0 hz1 .i64 .i64 _ _ L rfl rfl rfl rfl ?c1 ?c2 ?c3 ?_)
  case c1 => rw [hz2]; omega
  case c2 => unfold maxLen; omega
  case c3 => exact Nat.le_refl _
  intro w2 hown hgr
  rw [made_zero] at hown
  have hu2 : Upd NoB W w2 := (Upd.refl _ _).grown hgr (fun k e => by cases e)
  have hfull : w2.heap[W.heap.size]? = some (.cells (i64s (stK fs L 0)).toArray 3 (0, 0)) := by rw [HK0.out]; exact (row_full hown).1
  have hbox2 := hu2.cell hbox (noB _)
  have HU2 := Lib.hid (show Upd (fun q => q = W.heap.size) W w2 from hu2.mono (fun _ _ h => h.elim)); have HF := Lib.hid hfull
  clear hown hgr hu2 hfull
  go_wp2_with fail
  go_loopw [15] (fun i wr => ∃ k : Nat, k ≤ L ∧ i = .int .i64 k ∧ wr.heap[W.heap.size]? = some (.cells (i64s (stK fs L k)).toArray 3 (0, 0)) ∧ Upd (fun q => q = W.heap.size) W wr) (fun i _ => L - (intOf i).toNat)
  case atStart => exact ⟨0, Nat.zero_le _, rfl, HF.out, HU2.out⟩
  case round =>
    obtain ⟨k, hk, rfl, hm, hu⟩ := hrel
    have HM := Lib.hid hm; have HU := Lib.hid hu
    clear hm hu
    by_cases hlt : k < L
    · have q1 : (k : Int) < (L : Int) := by omega
      have HA := Lib.hid (fun w' u => HS.out ((k : Int) - 1) w' u)
      have HB := Lib.hid (fun w' u => HS.out ((k : Int) + 1) w' u)
      have HC := Lib.hid (fun w' u => HS.out (k : Int) w' u)
      have HD := Lib.hid (HKd.out k)
      rw [HSd.out k] at HD
      have e1 : Go.bits .or .i64 0 1 = 1 := by decide +kernel
      have e2 : Go.bits .or .i64 0 2 = 2 := by decide +kernel
      have e3 : Go.bits .or .i64 1 2 = 3 := by decide +kernel
      generalize shI fs ((k : Int) - 1) = p at *
      generalize shI fs ((k : Int) + 1) = q at *
      generalize shI fs (k : Int) = r at *
      cases p
      · cases q
        · simp only [cond_false, Nat.reduceAdd] at HD
          go_wp2_with fail
          refine (HA.out wr HU.out).mono ?_
          rintro e w3 ⟨rfl, u3⟩
          have U3 := Lib.hid (HU.out.then u3); have M3 := Lib.hid (u3.heap HM.out (noB _)); clear u3
          go_wp2_with fail
          refine (HB.out w3 U3.out).mono ?_
          rintro e w4 ⟨rfl, u4⟩
          have U4 := Lib.hid (U3.out.then u4); have M4 := Lib.hid (u4.heap M3.out (noB _)); clear u4
          go_wp2_with fail
          refine (HC.out w4 U4.out).mono ?_
          rintro e w5 ⟨rfl, u5⟩
          have U5 := Lib.hid (U4.out.then u5); have M5 := Lib.hid (u5.heap M4.out (noB _)); clear u5
          go_wp2_with fail
          refine (kindOf_lit r 0 0 w5 (by omega) rfl).mono ?_
          rintro e w6 ⟨rfl, u6⟩
          have m6 := u6.heap M5.out (noB _)
          have f6 := blk_free m6 k
          have c6 : ∃ x, w6.cell? ⟨W.heap.size, k, none⟩ = some x := by
            rw [blk_cell m6 k, List.getElem?_toArray, i64s_get, List.getElem?_eq_getElem (by rw [HKl.out]; exact hlt)]
            exact ⟨_, rfl⟩
          obtain ⟨x6, c6⟩ := c6
          have U6 := Lib.hid (U5.out.then u6); have M6 := Lib.hid m6
          clear u6 m6
          go_wp2_with fail
          go_roundw
          case rel => exact ⟨k + 1, by omega, by go_num, by rw [← HKs.out k, HD.out]; exact block_set M6.out _, U6.out.setCell _ (fun _ => rfl)⟩
          case measure => simp [intOf]; omega
        · simp only [cond_true, cond_false, Nat.reduceAdd] at HD
          go_wp2_with fail
          refine (HA.out wr HU.out).mono ?_
          rintro e w3 ⟨rfl, u3⟩
          have U3 := Lib.hid (HU.out.then u3); have M3 := Lib.hid (u3.heap HM.out (noB _)); clear u3
          go_wp2_with fail
          refine (HB.out w3 U3.out).mono ?_
          rintro e w4 ⟨rfl, u4⟩
          have U4 := Lib.hid (U3.out.then u4); have M4 := Lib.hid (u4.heap M3.out (noB _)); clear u4
          go_wp2_with fail
          refine (HC.out w4 U4.out).mono ?_
          rintro e w5 ⟨rfl, u5⟩
          have U5 := Lib.hid (U4.out.then u5); have M5 := Lib.hid (u5.heap M4.out (noB _)); clear u5
          go_wp2_with fail
          refine (kindOf_lit r 2 2 w5 (by omega) rfl).mono ?_
          rintro e w6 ⟨rfl, u6⟩
          have m6 := u6.heap M5.out (noB _)
          have f6 := blk_free m6 k
          have c6 : ∃ x, w6.cell? ⟨W.heap.size, k, none⟩ = some x := by
            rw [blk_cell m6 k, List.getElem?_toArray, i64s_get, List.getElem?_eq_getElem (by rw [HKl.out]; exact hlt)]
            exact ⟨_, rfl⟩
          obtain ⟨x6, c6⟩ := c6
          have U6 := Lib.hid (U5.out.then u6); have M6 := Lib.hid m6
          clear u6 m6
          go_wp2_with fail
          go_roundw
          case rel => exact ⟨k + 1, by omega, by go_num, by rw [← HKs.out k, HD.out]; exact block_set M6.out _, U6.out.setCell _ (fun _ => rfl)⟩
          case measure => simp [intOf]; omega
      · cases q
        · simp only [cond_true, cond_false, Nat.reduceAdd] at HD
          go_wp2_with fail
          refine (HA.out wr HU.out).mono ?_
          rintro e w3 ⟨rfl, u3⟩
          have U3 := Lib.hid (HU.out.then u3); have M3 := Lib.hid (u3.heap HM.out (noB _)); clear u3
          go_wp2_with fail
          refine (HB.out w3 U3.out).mono ?_
          rintro e w4 ⟨rfl, u4⟩
          have U4 := Lib.hid (U3.out.then u4); have M4 := Lib.hid (u4.heap M3.out (noB _)); clear u4
          go_wp2_with fail
          refine (HC.out w4 U4.out).mono ?_
          rintro e w5 ⟨rfl, u5⟩
          have U5 := Lib.hid (U4.out.then u5); have M5 := Lib.hid (u5.heap M4.out (noB _)); clear u5
          go_wp2_with fail
          refine (kindOf_lit r 1 1 w5 (by omega) rfl).mono ?_
          rintro e w6 ⟨rfl, u6⟩
          have m6 := u6.heap M5.out (noB _)
          have f6 := blk_free m6 k
          have c6 : ∃ x, w6.cell? ⟨W.heap.size, k, none⟩ = some x := by
            rw [blk_cell m6 k, List.getElem?_toArray, i64s_get, List.getElem?_eq_getElem (by rw [HKl.out]; exact hlt)]
            exact ⟨_, rfl⟩
          obtain ⟨x6, c6⟩ := c6
          have U6 := Lib.hid (U5.out.then u6); have M6 := Lib.hid m6
          clear u6 m6
          go_wp2_with fail
          go_roundw
          case rel => exact ⟨k + 1, by omega, by go_num, by rw [← HKs.out k, HD.out]; exact block_set M6.out _, U6.out.setCell _ (fun _ => rfl)⟩
          case measure => simp [intOf]; omega
        · simp only [cond_true, Nat.reduceAdd] at HD
          go_wp2_with fail
          refine (HA.out wr HU.out).mono ?_
          rintro e w3 ⟨rfl, u3⟩
          have U3 := Lib.hid (HU.out.then u3); have M3 := Lib.hid (u3.heap HM.out (noB _)); clear u3
          go_wp2_with fail
          refine (HB.out w3 U3.out).mono ?_
          rintro e w4 ⟨rfl, u4⟩
          have U4 := Lib.hid (U3.out.then u4); have M4 := Lib.hid (u4.heap M3.out (noB _)); clear u4
          go_wp2_with fail
          refine (HC.out w4 U4.out).mono ?_
          rintro e w5 ⟨rfl, u5⟩
          have U5 := Lib.hid (U4.out.then u5); have M5 := Lib.hid (u5.heap M4.out (noB _)); clear u5
          go_wp2_with fail
          refine (kindOf_lit r 3 3 w5 (by omega) rfl).mono ?_
          rintro e w6 ⟨rfl, u6⟩
          have m6 := u6.heap M5.out (noB _)
          have f6 := blk_free m6 k
          have c6 : ∃ x, w6.cell? ⟨W.heap.size, k, none⟩ = some x := by
            rw [blk_cell m6 k, List.getElem?_toArray, i64s_get, List.getElem?_eq_getElem (by rw [HKl.out]; exact hlt)]
            exact ⟨_, rfl⟩
          obtain ⟨x6, c6⟩ := c6
          have U6 := Lib.hid (U5.out.then u6); have M6 := Lib.hid m6
          clear u6 m6
          go_wp2_with fail
          go_roundw
          case rel => exact ⟨k + 1, by omega, by go_num, by rw [← HKs.out k, HD.out]; exact block_set M6.out _, U6.out.setCell _ (fun _ => rfl)⟩
          case measure => simp [intOf]; omega
    · obtain rfl : k = L := by omega
      go_wp2_with fail
      go_ret
      refine ⟨_, rfl, ?_, ?_⟩
      · rw [HKe.out, ← HKa.out]
        exact row_of_full (by rw [i64s_length, HKl.out]) (by unfold maxLen; omega) U0.out.size HM.out
      · exact upd_ge ((upd_ge' U0.out w.heap.size).trans HU.out (fun j _ e => by have := U0.out.size; omega))
end Go.Proofs.Ytmkbpocibpjjaaa
