/- block: the kinds of kinds -/
import Derived.Test.YtmkbpocibpjjaaaLM
namespace Go.Proofs.Ytmkbpocibpjjaaa
open Go.RowKit Go.Shelf

set_option maxRecDepth 100000 in
set_option maxHeartbeats 2000000 in
theorem isShorti_any (B1 B2 : Nat) (v : Value) (ks : List Int) (i : Int) (w : World) (hb1 : w.cell? ⟨B1, 0, none⟩ = some v) (hb2 : w.cell? ⟨B2, 0, none⟩ = some (.int .i64 2)) (h : Ints w v ks) :
    Calls Try.prog 65 #[.int .i64 i, .pointer (some ⟨B1, 0, none⟩), .pointer (some ⟨B2, 0, none⟩)] w fun e w' => e = .returned (.bool (shI (ks.map fun k => decide (k = 2)) i)) ∧ Upd NoB w w' := by
  obtain ⟨a, cap, rfl⟩ := h.form
  have H := Lib.hid h
  obtain ⟨L, hL⟩ : ∃ L, ks.length = L := ⟨_, rfl⟩
  have HL := Lib.hid hL
  rw [hL] at hb1 H
  clear h hL
  by_cases h0 : i < 0
  · have HS := Lib.hid (shI_neg (fs := (ks.map fun k => decide (k = 2))) h0)
    have t0 : decide ((0 : Int) ≤ i) = false := decide_eq_false (by omega)
    rw [HS.out]
    clear h0
    go_enter Try.func65, Try.ntmps65
    go_wp2_with fail
    go_quiet (fail)
    go_wp2_with fail
    go_ret
    exact ⟨rfl, upd_drewN (Upd.refl NoB _) _⟩
  have t0 : decide ((0 : Int) ≤ i) = true := decide_eq_true (by omega)
  by_cases h1 : (L : Int) ≤ i
  · have HS := Lib.hid (shI_far (fs := (ks.map fun k => decide (k = 2))) (i := i) (by rw [List.length_map, HL.out]; exact h1))
    have t1 : decide (i < (L : Int)) = false := decide_eq_false (by omega)
    rw [HS.out]
    clear h0 h1
    go_enter Try.func65, Try.ntmps65
    go_wp2_with fail
    go_quiet (fail)
    go_wp2_with fail
    go_ret
    exact ⟨rfl, upd_drewN (Upd.refl NoB _) _⟩
  obtain ⟨k, rfl⟩ := Int.eq_ofNat_of_zero_le (show 0 ≤ i by omega)
  have q1 : (k : Int) < (L : Int) := by omega
  have t1 : decide (k < L) = true := decide_eq_true (by omega)
  have t2 : decide ((k : Int) < (L : Int)) = true := decide_eq_true (by omega)
  obtain ⟨x, hx⟩ : ∃ x, ks[k]? = some x := ⟨_, List.getElem?_eq_getElem (by rw [HL.out]; omega)⟩
  obtain ⟨b, off, rfl, c0⟩ := H.out.cellAt hx
  have HS := Lib.hid (shI_at (fs := (ks.map fun k => decide (k = 2))) (k := k) (b := decide (x = 2)) (by rw [List.getElem?_map, hx]; rfl))
  rw [HS.out]
  clear h0 h1 hx
  by_cases hx2 : x = 2
  · have t3 : (x == 2) = true := beq_iff_eq.2 hx2
    rw [show decide (x = 2) = true from decide_eq_true hx2]
    clear hx2
    go_enter Try.func65, Try.ntmps65
    go_wp2_with fail
    go_quiet (fail)
    go_wp2_with fail
    go_ret
    exact ⟨rfl, upd_drewN (Upd.refl NoB _) _⟩
  · have t3 : (x == 2) = false := by rw [Bool.eq_false_iff]; intro hh; exact hx2 (beq_iff_eq.1 hh)
    rw [show decide (x = 2) = false from decide_eq_false hx2]
    clear hx2
    go_enter Try.func65, Try.ntmps65
    go_wp2_with fail
    go_quiet (fail)
    go_wp2_with fail
    go_ret
    exact ⟨rfl, upd_drewN (Upd.refl NoB _) _⟩
set_option maxRecDepth 100000 in
set_option maxHeartbeats 1500000 in
theorem kindsOfi_any (v : Value) (ks : List Int) (w : World) (h : Ints w v ks) (hl : ks.length ≤ 64) :
    Calls Try.prog 54 #[v, .int .i64 2] w (IRes w (kds (ks.map fun k => decide (k = 2)))) := by
  obtain ⟨a, cap, rfl⟩ := h.form
  obtain ⟨W, hW⟩ : ∃ W, W = (w.alloc (.cells #[.slice a ks.length cap] 22)).alloc (.cells #[.int .i64 2] 3) := ⟨_, rfl⟩
  have u0 : Upd NoB w W := by rw [hW]; exact ((Upd.refl _ _).alloc _).alloc _
  have b0 : W.heap[w.heap.size]? = some (.cells #[.slice a ks.length cap] 22 (0, 0)) := by rw [hW]; exact (Below.heap_alloc _ _ _ (by rw [size_alloc]; omega)).trans (heap_alloc_new w _)
  have b1 : W.heap[w.heap.size + 1]? = some (.cells #[.int .i64 2] 3 (0, 0)) := by
    rw [hW]
    have := heap_alloc_new (w.alloc (.cells #[.slice a ks.length cap] 22)) (.cells #[.int .i64 2] 3)
    rwa [size_alloc] at this
  have HX := Lib.hid (h.later u0)
  have HS := Lib.hid (fun (i : Int) (w' : World) (u : Upd (fun q => q = W.heap.size) W w') => isShorti_any w.heap.size (w.heap.size + 1) (.slice a ks.length cap) ks i w' (u.cell (blk_cell b0 0) (by have := lt_of_block b1; simp only; omega)) (u.cell (blk_cell b1 0) (by have := lt_of_block b1; simp only; omega)) (HX.out.upd u (fun hne j hj => by have := HX.out.lt hne j hj; omega)))
  obtain ⟨i0, hi, hz0, hz1, hz2⟩ := info_parts Try.infoInt
  have HK0 := Lib.hid (stK_zero (ks.map fun k => decide (k = 2)) ks.length)
  have HKs := Lib.hid (fun k => stK_set (ks.map fun k => decide (k = 2)) ks.length k)
  have HKl := Lib.hid (fun k => stK_length (ks.map fun k => decide (k = 2)) ks.length k)
  have HKa := Lib.hid (show stK (ks.map fun k => decide (k = 2)) ks.length ks.length = kds (ks.map fun k => decide (k = 2)) by have := stK_all (ks.map fun k => decide (k = 2)); rwa [List.length_map] at this)
  have HKd := Lib.hid (fun i => show kd (ks.map fun k => decide (k = 2)) i = kdOf (shI (ks.map fun k => decide (k = 2)) i) (sdN (ks.map fun k => decide (k = 2)) i) from rfl)
  have HSd := Lib.hid (fun (i : Nat) => show sdN (ks.map fun k => decide (k = 2)) i = (bif shI (ks.map fun k => decide (k = 2)) ((i : Int) - 1) then 1 else 0) + (bif shI (ks.map fun k => decide (k = 2)) ((i : Int) + 1) then 2 else 0) from rfl)
  have HKe := Lib.hid (show (kds (ks.map fun k => decide (k = 2))).length = ks.length by rw [kds_length, List.length_map])
  have hbox := blk_cell b0 0
  have HW := Lib.hid hW; have U0 := Lib.hid u0
  obtain ⟨L, hL⟩ : ∃ L, ks.length = L := ⟨_, rfl⟩
  rw [hL] at HK0 HKs HKl HKa HKe hbox hl HW ⊢
  have hbox : W.cell? ⟨w.heap.size, 0, none⟩ = some (.slice a L cap) := hbox
  clear h hW u0 b0 b1 hL
  go_enter Try.func54, Try.ntmps54
  go_wp2_with (rw [← HW.out]; refine wpList_make_full W rfl _ _ 22 rfl W.heap.size 3 i0 (.int .i64 0) 1 Try.underlying22 hi hz0 hz1 .i64 .i64 _ _ L rfl rfl rfl rfl ?c1 ?c2 ?c3 ?_)
  case c1 => rw [hz2]; omega
  case c2 => unfold maxLen; omega
  case c3 => exact Nat.le_refl _
  intro w2 hown hgr
  rw [made_zero] at hown
  have hu2 : Upd NoB W w2 := (Upd.refl _ _).grown hgr (fun k e => by cases e)
  have hfull : w2.heap[W.heap.size]? = some (.cells (i64s (stK (ks.map fun k => decide (k = 2)) L 0)).toArray 3 (0, 0)) := by rw [HK0.out]; exact (row_full hown).1
  have hbox2 := hu2.cell hbox (noB _)
  have HU2 := Lib.hid (show Upd (fun q => q = W.heap.size) W w2 from hu2.mono (fun _ _ h => h.elim)); have HF := Lib.hid hfull
  clear hown hgr hu2 hfull
  go_wp2_with fail
  go_loopw [15] (fun i wr => ∃ k : Nat, k ≤ L ∧ i = .int .i64 k ∧ wr.heap[W.heap.size]? = some (.cells (i64s (stK (ks.map fun k => decide (k = 2)) L k)).toArray 3 (0, 0)) ∧ Upd (fun q => q = W.heap.size) W wr) (fun i _ => L - (intOf i).toNat)
  case atStart => exact ⟨0, Nat.zero_le _, rfl, HF.out, HU2.out⟩
  case round =>
    obtain ⟨k, hk, rfl, hm, hu⟩ := hrel
    have HM := Lib.hid hm; have HU := Lib.hid hu
    clear hm hu
    by_cases hlt : k < L
    · have q1 : (k : Int) < (L : Int) := by omega
      have HA := Lib.hid (fun w' u => HS.out ((k : Int) - 1) w' u)
      have HB := Lib.hid (fun w' u => HS.out ((k : Int) + 1) w' u)
      have HC := Lib.hid (fun w' u => HS.out (k : Int) w' u)
      have HD := Lib.hid (HKd.out k)
      rw [HSd.out k] at HD
      have e1 : Go.bits .or .i64 0 1 = 1 := by decide +kernel
      have e2 : Go.bits .or .i64 0 2 = 2 := by decide +kernel
      have e3 : Go.bits .or .i64 1 2 = 3 := by decide +kernel
      generalize shI (ks.map fun k => decide (k = 2)) ((k : Int) - 1) = p at *
      generalize shI (ks.map fun k => decide (k = 2)) ((k : Int) + 1) = q at *
      generalize shI (ks.map fun k => decide (k = 2)) (k : Int) = r at *
      cases p
      · cases q
        · simp only [cond_false, Nat.reduceAdd] at HD
          go_wp2_with fail
          refine (HA.out wr HU.out).mono ?_
          rintro e w3 ⟨rfl, u3⟩
          have U3 := Lib.hid (HU.out.then u3); have M3 := Lib.hid (u3.heap HM.out (noB _)); clear u3
          go_wp2_with fail
          refine (HB.out w3 U3.out).mono ?_
          rintro e w4 ⟨rfl, u4⟩
          have U4 := Lib.hid (U3.out.then u4); have M4 := Lib.hid (u4.heap M3.out (noB _)); clear u4
          go_wp2_with fail
          refine (HC.out w4 U4.out).mono ?_
          rintro e w5 ⟨rfl, u5⟩
          have U5 := Lib.hid (U4.out.then u5); have M5 := Lib.hid (u5.heap M4.out (noB _)); clear u5
          go_wp2_with fail
          refine (kindOf_lit r 0 0 w5 (by omega) rfl).mono ?_
          rintro e w6 ⟨rfl, u6⟩
          have m6 := u6.heap M5.out (noB _)
          have f6 := blk_free m6 k
          have c6 : ∃ x, w6.cell? ⟨W.heap.size, k, none⟩ = some x := by
            rw [blk_cell m6 k, List.getElem?_toArray, i64s_get, List.getElem?_eq_getElem (by rw [HKl.out]; exact hlt)]
            exact ⟨_, rfl⟩
          obtain ⟨x6, c6⟩ := c6
          have U6 := Lib.hid (U5.out.then u6); have M6 := Lib.hid m6
          clear u6 m6
          go_wp2_with fail
          go_roundw
          case rel => exact ⟨k + 1, by omega, by go_num, by rw [← HKs.out k, HD.out]; exact block_set M6.out _, U6.out.setCell _ (fun _ => rfl)⟩
          case measure => simp [intOf]; omega
        · simp only [cond_true, cond_false, Nat.reduceAdd] at HD
          go_wp2_with fail
          refine (HA.out wr HU.out).mono ?_
          rintro e w3 ⟨rfl, u3⟩
          have U3 := Lib.hid (HU.out.then u3); have M3 := Lib.hid (u3.heap HM.out (noB _)); clear u3
          go_wp2_with fail
          refine (HB.out w3 U3.out).mono ?_
          rintro e w4 ⟨rfl, u4⟩
          have U4 := Lib.hid (U3.out.then u4); have M4 := Lib.hid (u4.heap M3.out (noB _)); clear u4
          go_wp2_with fail
          refine (HC.out w4 U4.out).mono ?_
          rintro e w5 ⟨rfl, u5⟩
          have U5 := Lib.hid (U4.out.then u5); have M5 := Lib.hid (u5.heap M4.out (noB _)); clear u5
          go_wp2_with fail
          refine (kindOf_lit r 2 2 w5 (by omega) rfl).mono ?_
          rintro e w6 ⟨rfl, u6⟩
          have m6 := u6.heap M5.out (noB _)
          have f6 := blk_free m6 k
          have c6 : ∃ x, w6.cell? ⟨W.heap.size, k, none⟩ = some x := by
            rw [blk_cell m6 k, List.getElem?_toArray, i64s_get, List.getElem?_eq_getElem (by rw [HKl.out]; exact hlt)]
            exact ⟨_, rfl⟩
          obtain ⟨x6, c6⟩ := c6
          have U6 := Lib.hid (U5.out.then u6); have M6 := Lib.hid m6
          clear u6 m6
          go_wp2_with fail
          go_roundw
          case rel => exact ⟨k + 1, by omega, by go_num, by rw [← HKs.out k, HD.out]; exact block_set M6.out _, U6.out.setCell _ (fun _ => rfl)⟩
          case measure => simp [intOf]; omega
      · cases q
        · simp only [cond_true, cond_false, Nat.reduceAdd] at HD
          go_wp2_with fail
          refine (HA.out wr HU.out).mono ?_
          rintro e w3 ⟨rfl, u3⟩
          have U3 := Lib.hid (HU.out.then u3); have M3 := Lib.hid (u3.heap HM.out (noB _)); clear u3
          go_wp2_with fail
          refine (HB.out w3 U3.out).mono ?_
          rintro e w4 ⟨rfl, u4⟩
          have U4 := Lib.hid (U3.out.then u4); have M4 := Lib.hid (u4.heap M3.out (noB _)); clear u4
          go_wp2_with fail
          refine (HC.out w4 U4.out).mono ?_
          rintro e w5 ⟨rfl, u5⟩
          have U5 := Lib.hid (U4.out.then u5); have M5 := Lib.hid (u5.heap M4.out (noB _)); clear u5
          go_wp2_with fail
          refine (kindOf_lit r 1 1 w5 (by omega) rfl).mono ?_
          rintro e w6 ⟨rfl, u6⟩
          have m6 := u6.heap M5.out (noB _)
          have f6 := blk_free m6 k
          have c6 : ∃ x, w6.cell? ⟨W.heap.size, k, none⟩ = some x := by
            rw [blk_cell m6 k, List.getElem?_toArray, i64s_get, List.getElem?_eq_getElem (by rw [HKl.out]; exact hlt)]
            exact ⟨_, rfl⟩
          obtain ⟨x6, c6⟩ := c6
          have U6 := Lib.hid (U5.out.then u6); have M6 := Lib.hid m6
          clear u6 m6
          go_wp2_with fail
          go_roundw
          case rel => exact ⟨k + 1, by omega, by go_num, by rw [← HKs.out k, HD.out]; exact block_set M6.out _, U6.out.setCell _ (fun _ => rfl)⟩
          case measure => simp [intOf]; omega
        · simp only [cond_true, Nat.reduceAdd] at HD
          go_wp2_with fail
          refine (HA.out wr HU.out).mono ?_
          rintro e w3 ⟨rfl, u3⟩
          have U3 := Lib.hid (HU.out.then u3); have M3 := Lib.hid (u3.heap HM.out (noB _)); clear u3
          go_wp2_with fail
          refine (HB.out w3 U3.out).mono ?_
          rintro e w4 ⟨rfl, u4⟩
          have U4 := Lib.hid (U3.out.then u4); have M4 := Lib.hid (u4.heap M3.out (noB _)); clear u4
          go_wp2_with fail
          refine (HC.out w4 U4.out).mono ?_
          rintro e w5 ⟨rfl, u5⟩
          have U5 := Lib.hid (U4.out.then u5); have M5 := Lib.hid (u5.heap M4.out (noB _)); clear u5
          go_wp2_with fail
          refine (kindOf_lit r 3 3 w5 (by omega) rfl).mono ?_
          rintro e w6 ⟨rfl, u6⟩
          have m6 := u6.heap M5.out (noB _)
          have f6 := blk_free m6 k
          have c6 : ∃ x, w6.cell? ⟨W.heap.size, k, none⟩ = some x := by
            rw [blk_cell m6 k, List.getElem?_toArray, i64s_get, List.getElem?_eq_getElem (by rw [HKl.out]; exact hlt)]
            exact ⟨_, rfl⟩
          obtain ⟨x6, c6⟩ := c6
          have U6 := Lib.hid (U5.out.then u6); have M6 := Lib.hid m6
          clear u6 m6
          go_wp2_with fail
          go_roundw
          case rel => exact ⟨k + 1, by omega, by go_num, by rw [← HKs.out k, HD.out]; exact block_set M6.out _, U6.out.setCell _ (fun _ => rfl)⟩
          case measure => simp [intOf]; omega
    · obtain rfl : k = L := by omega
      go_wp2_with fail
      go_ret
      refine ⟨_, rfl, ?_, ?_⟩
      · rw [HKe.out, ← HKa.out]
        exact row_of_full (by rw [i64s_length, HKl.out]) (by unfold maxLen; omega) U0.out.size HM.out
      · exact upd_ge ((upd_ge' U0.out w.heap.size).trans HU.out (fun j _ e => by have := U0.out.size; omega))
end Go.Proofs.Ytmkbpocibpjjaaa
