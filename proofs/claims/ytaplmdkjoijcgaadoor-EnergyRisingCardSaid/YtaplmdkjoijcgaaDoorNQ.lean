/- bands: Band -/
import Derived.Test.YtaplmdkjoijcgaaDoorNP
namespace Go.Proofs.YtaplmdkjoijcgaaDoor
open Go.RowKit Go.Shelf

theorem bdF_from {ls : List Int} {i : Int} : ∀ k : Nat, k ≤ ls.length → (∀ j, j < k → spT ls (j + 1) ≤ i) → bdF ls i = k + bdF (ls.drop k) (i - spT ls k)
  | 0, _, _ => by simp [spT]
  | k + 1, hk, h => by
    have ih := bdF_from (ls := ls) (i := i) k (by omega) (fun j hj => h j (by omega))
    obtain ⟨x, hx⟩ : ∃ x, ls[k]? = some x := ⟨_, List.getElem?_eq_getElem (by omega)⟩
    have hd : ls.drop k = x :: ls.drop (k + 1) := by
      have e := (List.getElem?_eq_some_iff.1 hx).2
      rw [← e, List.getElem_cons_drop]
    have hs := spT_succ hx
    have hi := h k (by omega)
    rw [ih, hd]
    show k + (if i - spT ls k < x then 0 else 1 + bdF (ls.drop (k + 1)) (i - spT ls k - x)) = _
    rw [if_neg (by omega), show i - spT ls k - x = i - spT ls (k + 1) by omega]
    omega
theorem bdF_at {ls : List Int} {i : Int} {k : Nat} (hk : k < ls.length) (h : ∀ j, j < k → spT ls (j + 1) ≤ i) (hi : i < spT ls (k + 1)) : bdF ls i = k := by
  rw [bdF_from k (by omega) h]
  obtain ⟨x, hx⟩ : ∃ x, ls[k]? = some x := ⟨_, List.getElem?_eq_getElem hk⟩
  have hd : ls.drop k = x :: ls.drop (k + 1) := by
    have e := (List.getElem?_eq_some_iff.1 hx).2
    rw [← e, List.getElem_cons_drop]
  have hs := spT_succ hx
  rw [hd]
  show k + (if i - spT ls k < x then 0 else _) = k
  rw [if_pos (by omega)]; rfl
theorem bw_sum : ∀ gs : List Int, (bwL swL gs).sum = 16 * gs.sum
  | [] => by simp [bwL]
  | g :: t => by
    have ih := bw_sum t
    unfold bwL at ih ⊢
    rw [List.flatMap_cons, List.sum_append, ih, List.sum_cons]
    simp [swL]; omega
theorem bands_sum {s : Bool} {gs : List Int} (h : isD s gs = true) : spT (bandsL s gs) (ctN s gs) = 128 := by
  unfold spT
  rw [← ctN_bands, List.take_length]
  cases s
  · rw [bandsL_long]; decide
  · show (bwL swL gs).sum = 128
    rw [bw_sum, (isG_iff.1 (show isG 8 gs = true from h)).2]; rfl
theorem ctN_pos {s : Bool} {gs : List Int} (h : isD s gs = true) : 0 < ctN s gs := by
  have hs := bands_sum h
  rcases Nat.eq_zero_or_pos (ctN s gs) with e | e
  · rw [e] at hs; simp [spT] at hs
  · exact e
set_option maxRecDepth 100000 in
set_option maxHeartbeats 4000000 in
theorem Band_any (i : Int) (s : Bool) (v : Value) (gs : List Int) (w : World) (h : Ints w v gs) (hg : Gv w) :
    Calls Tryd.prog 28 #[.int .i64 i, .bool s, v] w fun e w' => e = .returned (.tuple #[.int .i64 (bdS s gs i), .int .i64 (bdE s gs i)]) ∧ Upd NoB w w' := by
  obtain ⟨W, hW⟩ : ∃ W, W = w.alloc (.cells #[.int .i64 i] 3) := ⟨_, rfl⟩
  have u0 : Upd NoB w W := by rw [hW]; exact (Upd.refl _ _).alloc _
  have bx : W.heap[w.heap.size]? = some (.cells #[.int .i64 i] 3 (0, 0)) := by rw [hW]; exact heap_alloc_new w _
  have HD := Lib.hid (divisionOf_any s v gs W (h.later u0) (hg.later u0))
  have HW := Lib.hid hW; have U0 := Lib.hid u0; have BX := Lib.hid (blk_cell bx 0)
  obtain ⟨a, cap, rfl⟩ := h.form
  clear hW u0 bx
  cases hd : isD s gs with
  | true =>
    have HBg := Lib.hid (dG_bd hd)
    have HDd := Lib.hid hd
    have HE0 := Lib.hid (show bdE s gs i = if 0 ≤ i ∧ i < 128 then 0 else 6 from if_pos hd)
    have HBb := Lib.hid (bands_bd hd); have HBl := Lib.hid (ctN_bands s gs); have hct := ctN_le hd
    have HBW := Lib.hid (show bwL (dW s) (dG s gs) = bandsL s gs from rfl)
    have HSu := Lib.hid (bands_sum hd); have hcp := ctN_pos hd
    obtain ⟨L, hL⟩ : ∃ L, gs.length = L := ⟨_, rfl⟩
    rw [hL] at HD ⊢
    clear h hg hd hL
    by_cases hb : 0 ≤ i ∧ i < 128
    · have HE := Lib.hid (show bdE s gs i = 0 by rw [HE0.out, if_pos hb])
      have HF := Lib.hid (show bdS s gs i = (bdF (bandsL s gs) i : Nat) from if_pos HE.out)
      rw [HE.out, HF.out]
      obtain ⟨i0, i8⟩ := hb
      have z0 : decide (i < 0) = false := decide_eq_false (by omega)
      have z1 : decide ((128 : Int) ≤ i) = false := decide_eq_false (by omega)
      generalize ctN s gs = C at *
      go_enter Tryd.func28, Tryd.ntmps28
      go_wp2_with fail
      rw [← HW.out]
      refine HD.out.mono ?_
      intro e w1 hr
      unfold DRes at hr
      rw [if_pos HDd.out] at hr
      obtain ⟨vw, vg, rfl, iw, ig, u1⟩ := hr
      obtain ⟨aw, cw, rfl⟩ := iw.form
      obtain ⟨ag, cg, rfl⟩ := ig.form
      have IW := Lib.hid iw; have IG := Lib.hid ig; have U1 := Lib.hid u1
      have b1 : (w1.alloc (.cells #[.int .i64 (dLn s), .slice aw (dW s).length cw, .slice ag (dG s gs).length cg] 52)).cell? ⟨w.heap.size, 0, none⟩ = some (.int .i64 i) := (u1.then ((Upd.refl NoB w1).alloc _)).cell BX.out (noB _)
      clear iw ig u1
      go_wp2_with fail
      refine (bandWidths_any (dLn s) _ _ (dW s) (dG s gs) _ (IW.out.later ((Upd.refl NoB w1).alloc _)) (IG.out.later ((Upd.refl NoB w1).alloc _)) (dW_bd s) HBg.out).mono ?_
      rw [HBW.out]
      rintro e w3 ⟨v3, rfl, r3, u3⟩
      obtain ⟨a3, c3, rfl⟩ := row_form r3
      have I3 := Lib.hid (Ints.ofRow r3 (by rw [HBl.out]; omega)); have U13 := Lib.hid (((Upd.refl NoB w1).alloc _).then u3)
      clear r3 u3 b1
      go_wp2_with fail
      refine (spans_any _ (bandsL s gs) w3 I3.out (by rw [HBl.out]; omega) HBb.out).mono ?_
      rintro e w4 ⟨v4, rfl, r4, u4⟩
      rw [HBl.out] at r4
      obtain ⟨g4, c4, rfl⟩ := row_slice r4 (by omega)
      have U14 := Lib.hid (U13.out.then u4)
      have HSp := Lib.hid (show SpAt w4 g4 (bandsL s gs) C from fun j hj => by
        have hlen := spC_length (bandsL s gs) C
        obtain ⟨s1, s2⟩ := spC_get (ws := bandsL s gs) hj
        have d0 := r4.cellAt (2 * j) (by omega)
        have d1 := r4.cellAt (2 * j + 1) (by omega)
        rw [s1, Nat.mul_comm] at d0
        rw [s2, Nat.mul_comm] at d1
        exact ⟨d0, d1⟩)
      have HIx := Lib.hid (indexFunc_any g4 C c4 (bandsL s gs) i w.heap.size w4 (by omega) HSp.out ((U1.out.then U14.out).cell BX.out (noB _)))
      clear u4 r4
      go_wp2_with fail
      refine HIx.out.mono ?_
      rintro e w5 ⟨⟨r, rfl, hr⟩, u5⟩
      have HR := Lib.hid (show r = ((bdF (bandsL s gs) i : Nat) : Int) by
        rcases hr with ⟨k, hk, rfl, h1, h2⟩ | h1
        · rw [bdF_at (by rw [HBl.out]; exact hk) h1 h2]
        · have := h1 (C - 1) (by omega)
          rw [show C - 1 + 1 = C by omega, HSu.out] at this
          omega)
      have U5 := Lib.hid (U0.out.then ((U1.out.then U14.out).then u5))
      clear hr u5
      go_wp2_with fail
      go_ret2
      exact ⟨by rw [← HR.out]; rfl, U5.out⟩
    · have hE : bdE s gs i = 6 := by rw [HE0.out, if_neg hb]
      have HE := Lib.hid hE; have HF := Lib.hid (show bdS s gs i = 0 from if_neg (by rw [hE]; decide))
      rw [HE.out, HF.out]
      by_cases hb0 : i < 0
      · have z0 : decide (i < 0) = true := decide_eq_true hb0
        clear hb hb0 hE
        go_enter Tryd.func28, Tryd.ntmps28
        go_wp2_with fail
        rw [← HW.out]
        refine HD.out.mono ?_
        intro e w1 hr
        unfold DRes at hr
        rw [if_pos HDd.out] at hr
        obtain ⟨vw, vg, rfl, iw, ig, u1⟩ := hr
        obtain ⟨aw, cw, rfl⟩ := iw.form
        obtain ⟨ag, cg, rfl⟩ := ig.form
        have U1 := Lib.hid u1
        have b1 : (w1.alloc (.cells #[.int .i64 (dLn s), .slice aw (dW s).length cw, .slice ag (dG s gs).length cg] 52)).cell? ⟨w.heap.size, 0, none⟩ = some (.int .i64 i) := (u1.then ((Upd.refl NoB w1).alloc _)).cell BX.out (noB _)
        clear iw ig u1
        go_wp2_with fail
        go_ret2
        exact ⟨rfl, (U0.out.then U1.out).alloc _⟩
      · have z0 : decide (i < 0) = false := decide_eq_false hb0
        have z1 : decide ((128 : Int) ≤ i) = true := decide_eq_true (by omega)
        clear hb hb0 hE
        go_enter Tryd.func28, Tryd.ntmps28
        go_wp2_with fail
        rw [← HW.out]
        refine HD.out.mono ?_
        intro e w1 hr
        unfold DRes at hr
        rw [if_pos HDd.out] at hr
        obtain ⟨vw, vg, rfl, iw, ig, u1⟩ := hr
        obtain ⟨aw, cw, rfl⟩ := iw.form
        obtain ⟨ag, cg, rfl⟩ := ig.form
        have U1 := Lib.hid u1
        have b1 : (w1.alloc (.cells #[.int .i64 (dLn s), .slice aw (dW s).length cw, .slice ag (dG s gs).length cg] 52)).cell? ⟨w.heap.size, 0, none⟩ = some (.int .i64 i) := (u1.then ((Upd.refl NoB w1).alloc _)).cell BX.out (noB _)
        clear iw ig u1
        go_wp2_with fail
        go_ret2
        exact ⟨rfl, (U0.out.then U1.out).alloc _⟩
  | false =>
    have hE : bdE s gs i = 1 := if_neg (by rw [hd]; simp)
    have HE := Lib.hid hE; have HF := Lib.hid (show bdS s gs i = 0 from if_neg (by rw [hE]; decide))
    rw [HE.out, HF.out]
    have HDd := Lib.hid (show ¬ isD s gs = true by rw [hd]; simp)
    obtain ⟨L, hL⟩ : ∃ L, gs.length = L := ⟨_, rfl⟩
    rw [hL] at HD ⊢
    clear h hg hd hL hE
    go_enter Tryd.func28, Tryd.ntmps28
    go_wp2_with fail
    rw [← HW.out]
    refine HD.out.mono ?_
    intro e w1 hr
    unfold DRes at hr
    rw [if_neg HDd.out] at hr
    obtain ⟨rfl, u1⟩ := hr
    have U1 := Lib.hid u1
    clear u1
    go_wp2_with fail
    go_ret2
    exact ⟨rfl, (U0.out.then U1.out).alloc _⟩
end Go.Proofs.YtaplmdkjoijcgaaDoor
