/- bands: the division for a list; Gather and Scatter -/
import Derived.Test.YtaplmdkjoijcgaaDoorNV
namespace Go.Proofs.YtaplmdkjoijcgaaDoor
open Go.RowKit Go.Shelf

/-- the error for a list of so many elements -/
def dfE (n : Nat) (s : Bool) (gs : List Int) : Int := if isD s gs then (if n = 128 then 0 else 4) else 1
theorem dfE_ok {n : Nat} {s : Bool} {gs : List Int} (h : dfE n s gs = 0) : isD s gs = true ∧ n = 128 := by
  unfold dfE at h
  split at h
  · rename_i h1
    split at h
    · rename_i h2; exact ⟨h1, h2⟩
    · cases h
  · cases h
/-- What divisionFor answers. -/
def FRes (w : World) (E : Int) (s : Bool) (gs : List Int) (e : Ending) (w' : World) : Prop :=
  if E = 0 then ∃ vw vg, e = .returned (.tuple #[.agg #[.int .i64 (dLn s), vw, vg], .int .i64 0]) ∧ Ints w' vw (dW s) ∧ Ints w' vg (dG s gs) ∧ Upd NoB w w'
  else e = .returned (.tuple #[.agg #[.int .i64 0, .slice none 0 0, .slice none 0 0], .int .i64 E]) ∧ Upd NoB w w'
set_option maxRecDepth 100000 in
set_option maxHeartbeats 4000000 in
theorem divisionFor_any (c : Option Addr) (n cc : Nat) (s : Bool) (v : Value) (gs : List Int) (w : World) (h : Ints w v gs) (hg : Gv w) (_hn : n ≤ 17592186044416) : Calls Tryd.prog 55 #[.slice c n cc, .bool s, v] w (FRes w (dfE n s gs) s gs) := by
  obtain ⟨a, cap, rfl⟩ := h.form
  obtain ⟨W, hW⟩ : ∃ W, W = w.alloc (.cells #[.int .i64 0, .slice none 0 0, .slice none 0 0] 52) := ⟨_, rfl⟩
  have u0 : Upd NoB w W := by rw [hW]; exact (Upd.refl _ _).alloc _
  have bw : W.heap[w.heap.size]? = some (.cells #[.int .i64 0, .slice none 0 0, .slice none 0 0] 52 (0, 0)) := by rw [hW]; exact heap_alloc_new w _
  have hbW : w.heap.size < W.heap.size := lt_of_block bw
  have HD := Lib.hid (divisionOf2_any s _ gs W (h.later u0) (hg.later u0))
  have HLt := Lib.hid (fun (hne : gs ≠ []) k hk => h.lt hne k hk)
  have HB := Lib.hid bw; have HW := Lib.hid hW; have U0 := Lib.hid u0
  obtain ⟨L, hL⟩ : ∃ L, gs.length = L := ⟨_, rfl⟩
  rw [hL] at HD HLt ⊢
  clear h hg hW u0 bw hL
  cases hd : isD s gs with
  | true =>
    have HDd := Lib.hid hd
    have HE := Lib.hid (show dfE n s gs = if n = 128 then 0 else 4 from if_pos hd)
    clear hd
    by_cases h1 : n = 128
    · have HE0 := Lib.hid (show dfE n s gs = 0 by rw [HE.out, if_pos h1])
      have t1 : ((n : Int) != 128) = false := by rw [h1]; rfl
      clear h1
      go_enter Tryd.func55, Tryd.ntmps55
      go_wp2_with fail
      rw [← HW.out]
      refine HD.out.mono ?_
      intro e w1 hr
      unfold DRes2 at hr
      rw [if_pos HDd.out] at hr
      obtain ⟨vw, vg, rfl, iw, ig, u1, ow, og⟩ := hr
      obtain ⟨aw, cw, rfl⟩ := iw.form
      obtain ⟨ag, cg, rfl⟩ := ig.form
      obtain ⟨wq, hwq⟩ : ∃ wq, wq = w1.alloc (.cells #[.int .i64 (dLn s), .slice aw (dW s).length cw, .slice ag (dG s gs).length cg] 52) := ⟨_, rfl⟩
      have u2 : Upd NoB w1 wq := by rw [hwq]; exact (Upd.refl _ _).alloc _
      have n2 : wq.heap[w1.heap.size]? = some (.cells #[.int .i64 (dLn s), .slice aw (dW s).length cw, .slice ag (dG s gs).length cg] 52 (0, 0)) := by rw [hwq]; exact heap_alloc_new w1 _
      have hq := (u1.then u2).heap HB.out (noB _)
      have m0 := blk_cell n2 0
      have m1 := blk_cell n2 1
      have m2 := blk_cell n2 2
      have k0 := blk_cell hq 0
      have k1 := blk_cell hq 1
      have k2 := blk_cell hq 2
      have z0 := blk_free hq 0
      have z1 := blk_free hq 1
      have z2 := blk_free hq 2
      have hu := upd_three (g := w.heap.size) (u1.then u2) (.int .i64 (dLn s)) (.slice aw (dW s).length cw) (.slice ag (dG s gs).length cg)
      have hv := upd_three (g := w.heap.size) (Upd.refl NoB wq) (.int .i64 (dLn s)) (.slice aw (dW s).length cw) (.slice ag (dG s gs).length cg)
      have IW := Lib.hid ((iw.later u2).upd hv (fun _ k hk e => by have := ow k hk; have e' : k = w.heap.size := e; omega))
      have IG := Lib.hid ((ig.later u2).upd hv (fun hne k hk e => by
        have e' : k = w.heap.size := e
        rcases og with ⟨h1, h2⟩ | h
        · have := HLt.out (by rw [← h2]; exact hne) k (by rw [← h1]; exact hk)
          omega
        · have := h k hk; omega))
      have UF := Lib.hid (upd_into U0.out hu)
      have HQ := Lib.hid hq; have HWq := Lib.hid hwq
      clear iw ig u1 u2 n2 hq hu hv hwq ow og
      go_wp2_with (rw [← HWq.out])
      refine bodyPost_ret (ret_div rfl _ _ w.heap.size _ _ _ rfl (set3_heap HQ.out)) rfl ?_
      unfold FRes
      rw [if_pos HE0.out]
      exact ⟨_, _, rfl, IW.out, IG.out, UF.out⟩
    · have HE0 := Lib.hid (show dfE n s gs = 4 by rw [HE.out, if_neg h1])
      have t1 : ((n : Int) != 128) = true := by rw [bne_iff_ne]; omega
      clear h1
      go_enter Tryd.func55, Tryd.ntmps55
      go_wp2_with fail
      rw [← HW.out]
      refine HD.out.mono ?_
      intro e w1 hr
      unfold DRes2 at hr
      rw [if_pos HDd.out] at hr
      obtain ⟨vw, vg, rfl, iw, ig, u1, ow, og⟩ := hr
      obtain ⟨aw, cw, rfl⟩ := iw.form
      obtain ⟨ag, cg, rfl⟩ := ig.form
      obtain ⟨wq, hwq⟩ : ∃ wq, wq = w1.alloc (.cells #[.int .i64 (dLn s), .slice aw (dW s).length cw, .slice ag (dG s gs).length cg] 52) := ⟨_, rfl⟩
      have u2 : Upd NoB w1 wq := by rw [hwq]; exact (Upd.refl _ _).alloc _
      have hq := (u1.then u2).heap HB.out (noB _)
      have k0 := blk_cell hq 0
      have k1 := blk_cell hq 1
      have k2 := blk_cell hq 2
      have z0 := blk_free hq 0
      have z1 := blk_free hq 1
      have z2 := blk_free hq 2
      have UF := Lib.hid (upd_into U0.out (upd_three (g := w.heap.size) (u1.then u2) (.int .i64 0) (.slice none 0 0) (.slice none 0 0)))
      have HQ := Lib.hid hq; have HWq := Lib.hid hwq
      clear iw ig u1 u2 hq hwq ow og
      go_wp2_with (rw [← HWq.out])
      refine bodyPost_ret (ret_div rfl _ _ w.heap.size _ _ _ rfl (set3_heap HQ.out)) rfl ?_
      unfold FRes
      rw [HE0.out, if_neg (by decide)]
      exact ⟨rfl, UF.out⟩
  | false =>
    have HE0 := Lib.hid (show dfE n s gs = 1 from if_neg (by rw [hd]; simp))
    have HDd := Lib.hid (show ¬ isD s gs = true by rw [hd]; simp)
    clear hd
    go_enter Tryd.func55, Tryd.ntmps55
    go_wp2_with fail
    rw [← HW.out]
    refine HD.out.mono ?_
    intro e w1 hr
    unfold DRes2 at hr
    rw [if_neg HDd.out] at hr
    obtain ⟨rfl, u1⟩ := hr
    have u2 : Upd NoB w1 (w1.alloc (.cells #[.int .i64 0, .slice none 0 0, .slice none 0 0] 52)) := (Upd.refl _ _).alloc _
    have hq := (u1.then u2).heap HB.out (noB _)
    have k0 := blk_cell hq 0
    have k1 := blk_cell hq 1
    have k2 := blk_cell hq 2
    have z0 := blk_free hq 0
    have z1 := blk_free hq 1
    have z2 := blk_free hq 2
    have UF := Lib.hid (upd_into U0.out (upd_three (g := w.heap.size) (u1.then u2) (.int .i64 0) (.slice none 0 0) (.slice none 0 0)))
    have HQ := Lib.hid hq
    clear u1 u2 hq
    go_wp2_with fail
    refine bodyPost_ret (ret_div rfl _ _ w.heap.size _ _ _ rfl (set3_heap HQ.out)) rfl ?_
    unfold FRes
    rw [HE0.out, if_neg (by decide)]
    exact ⟨rfl, UF.out⟩
end Go.Proofs.YtaplmdkjoijcgaaDoor
