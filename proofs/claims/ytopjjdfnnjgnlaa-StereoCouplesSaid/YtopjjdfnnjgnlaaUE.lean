/- stereo: coupling -/
import Derived.Test.YtopjjdfnnjgnlaaUD
namespace Go.Proofs.Ytopjjdfnnjgnlaa
open Go.RowKit Go.Shelf

set_option maxRecDepth 100000 in
set_option maxHeartbeats 4000000 in
theorem coupling_any (lv rv wv : Value) (mv : Option Addr) (mc K : Nat) (l r ws : List Int) (mid : List Bool) (M : Int) (w : World) (hM : 0 ≤ M ∧ M ≤ 1152921504606846976) (hl : Ints w lv l) (hr : Ints w rv r) (hw : Ints w wv ws) (hK : mid.length = K) :
    Calls Try.prog 56 #[lv, rv, wv, .slice mv K mc, .int .i64 M] w (ChRes w wv (P2 l r) (cpE l r ws mid M)) := by
  obtain ⟨W, hW⟩ : ∃ W, W = w.alloc (.cells #[.slice none 0 0, .slice none 0 0] 51) := ⟨_, rfl⟩
  have u0 : Upd NoB w W := by rw [hW]; exact (Upd.refl _ _).alloc _
  have b0 : W.heap[w.heap.size]? = some (.cells #[.slice none 0 0, .slice none 0 0] 51 (0, 0)) := by rw [hW]; exact heap_alloc_new w _
  have HW := Lib.hid hW
  have HA := Lib.hid (areWidths_any wv ws W (hw.later u0))
  have HC := Lib.hid (channelsOf_any lv rv wv l r ws M W hM (hl.later u0) (hr.later u0) (hw.later u0))
  have HE := Lib.hid (show cpE l r ws mid M = if isW ws && decide (mid.length ≠ ws.length) then 4 else chE l r ws M from rfl)
  rw [hK] at HE
  obtain ⟨la, lc, rfl⟩ := hl.form
  obtain ⟨ra, rc, rfl⟩ := hr.form
  obtain ⟨wa, wc, rfl⟩ := hw.form
  have U0 := Lib.hid u0; have B0 := Lib.hid b0
  generalize P2 l r = p at *
  generalize chE l r ws M = E at *
  generalize cpE l r ws mid M = F at *
  generalize isW ws = z0 at *
  generalize ws.length = N at *
  generalize l.length = L at *
  generalize r.length = R at *
  clear hl hr hw hW u0 b0 hM hK
  cases z0 with
  | false =>
    rw [Bool.false_and, if_neg (by decide)] at HE
    rw [HE.out]
    go_enter Try.func56, Try.ntmps56
    go_wp2_with fail
    rw [← HW.out]
    refine HA.out.mono ?_
    rintro e w1 ⟨rfl, rfl⟩
    go_wp2_with fail
    refine HC.out.mono ?_
    rintro e w2 ⟨u2, hr⟩
    have U2 := Lib.hid (U0.out.then u2)
    have hb2 := u2.heap B0.out (noB _)
    have B2 := Lib.hid hb2
    have g := cell_of_block0 hb2
    have g1 := cell_of_block1 hb2
    have f := free_of_block hb2 0
    have f1 := free_of_block hb2 1
    by_cases hE : E = 0
    · subst hE
      rw [if_pos rfl] at hr
      obtain ⟨gg, gc, rfl, hgc, hpr, hgs⟩ := hr
      have HPr := Lib.hid hpr; have HGc := Lib.hid hgc; have HGs := Lib.hid hgs
      have HS0 := Lib.hid U0.out.size
      have HBl := Lib.hid (lt_of_block B0.out)
      clear u2 hb2 hpr hgc hgs
      go_wp2_with fail
      refine bodyPost_ret (ret_chan rfl _ _ w.heap.size _ _ rfl (heap_cell2 B2.out)) rfl ⟨upd_cell2 U2.out (Nat.le_refl _) _ _, ?_⟩
      rw [if_pos rfl]
      have hne : w.heap.size ≠ gg := by have := HBl.out; have := HGs.out; omega
      have us : Upd (fun j => j = w.heap.size) w2 ((w2.setCell ⟨w.heap.size, 0, none⟩ (.slice (some ⟨gg, 0, none⟩) 128 gc)).setCell ⟨w.heap.size, 1, none⟩ (.slice wa N wc)) := ((Upd.refl (fun j => j = w.heap.size) w2).setCell (p := ⟨w.heap.size, 0, none⟩) _ (fun _ => rfl)).setCell (p := ⟨w.heap.size, 1, none⟩) _ (fun _ => rfl)
      exact ⟨gg, gc, rfl, HGc.out, HPr.out.upd us (fun e => hne e.symm), by have := HS0.out; have := HGs.out; omega⟩
    · rw [if_neg hE] at hr
      subst hr
      have HEn := Lib.hid hE
      clear u2 hb2 hE
      go_wp2_with fail
      exact bodyPost_ret (ret_chan rfl _ _ w.heap.size _ _ rfl (heap_cell2 B2.out)) rfl (ChRes.no HEn.out (upd_cell2 U2.out (Nat.le_refl _) _ _))
  | true =>
    by_cases h1 : K = N
    · rw [Bool.true_and, if_neg (by rw [decide_eq_true_iff]; omega)] at HE
      have t1 : ((K : Int) != (N : Int)) = false := by rw [h1]; simp
      have t1n : (K != N) = false := by rw [h1]; simp
      rw [HE.out]
      subst h1
      go_enter Try.func56, Try.ntmps56
      go_wp2_with fail
      rw [← HW.out]
      refine HA.out.mono ?_
      rintro e w1 ⟨rfl, rfl⟩
      go_wp2_with fail
      refine HC.out.mono ?_
      rintro e w2 ⟨u2, hr⟩
      have U2 := Lib.hid (U0.out.then u2)
      have hb2 := u2.heap B0.out (noB _)
      have B2 := Lib.hid hb2
      have g := cell_of_block0 hb2
      have g1 := cell_of_block1 hb2
      have f := free_of_block hb2 0
      have f1 := free_of_block hb2 1
      by_cases hE : E = 0
      · subst hE
        rw [if_pos rfl] at hr
        obtain ⟨gg, gc, rfl, hgc, hpr, hgs⟩ := hr
        have HPr := Lib.hid hpr; have HGc := Lib.hid hgc; have HGs := Lib.hid hgs
        have HS0 := Lib.hid U0.out.size
        have HBl := Lib.hid (lt_of_block B0.out)
        clear u2 hb2 hpr hgc hgs
        go_wp2_with fail
        refine bodyPost_ret (ret_chan rfl _ _ w.heap.size _ _ rfl (heap_cell2 B2.out)) rfl ⟨upd_cell2 U2.out (Nat.le_refl _) _ _, ?_⟩
        rw [if_pos rfl]
        have hne : w.heap.size ≠ gg := by have := HBl.out; have := HGs.out; omega
        have us : Upd (fun j => j = w.heap.size) w2 ((w2.setCell ⟨w.heap.size, 0, none⟩ (.slice (some ⟨gg, 0, none⟩) 128 gc)).setCell ⟨w.heap.size, 1, none⟩ (.slice wa K wc)) := ((Upd.refl (fun j => j = w.heap.size) w2).setCell (p := ⟨w.heap.size, 0, none⟩) _ (fun _ => rfl)).setCell (p := ⟨w.heap.size, 1, none⟩) _ (fun _ => rfl)
        exact ⟨gg, gc, rfl, HGc.out, HPr.out.upd us (fun e => hne e.symm), by have := HS0.out; have := HGs.out; omega⟩
      · rw [if_neg hE] at hr
        subst hr
        have HEn := Lib.hid hE
        clear u2 hb2 hE
        go_wp2_with fail
        exact bodyPost_ret (ret_chan rfl _ _ w.heap.size _ _ rfl (heap_cell2 B2.out)) rfl (ChRes.no HEn.out (upd_cell2 U2.out (Nat.le_refl _) _ _))
    · rw [Bool.true_and, if_pos (decide_eq_true h1)] at HE
      have t1 : ((K : Int) != (N : Int)) = true := bne_iff_ne.2 (by omega)
      rw [HE.out]
      clear h1
      go_enter Try.func56, Try.ntmps56
      go_wp2_with fail
      rw [← HW.out]
      refine HA.out.mono ?_
      rintro e w1 ⟨rfl, rfl⟩
      have g := cell_of_block0 B0.out
      have g1 := cell_of_block1 B0.out
      have f := free_of_block B0.out 0
      have f1 := free_of_block B0.out 1
      go_wp2_with fail
      refine bodyPost_ret (ret_chan rfl _ _ w.heap.size _ _ rfl (heap_cell2 B0.out)) rfl (ChRes.no (by decide) (upd_cell2 U0.out (Nat.le_refl _) _ _))
end Go.Proofs.Ytopjjdfnnjgnlaa
