/- bands: the division for a list; Gather and Scatter | bands: Gather and Scatter | bands: Places of the reference -/
import Derived.Test.YtgdndcbcdoogpaaDoorNV
namespace Go.Proofs.YtgdndcbcdoogpaaDoor
open Go.RowKit Go.Shelf

/-- the error for a list of so many elements -/
def dfE (n : Nat) (s : Bool) (gs : List Int) : Int := if isD s gs then (if n = 128 then 0 else 4) else 1
theorem dfE_ok {n : Nat} {s : Bool} {gs : List Int} (h : dfE n s gs = 0) : isD s gs = true ∧ n = 128 := by
  unfold dfE at h
  split at h
  · rename_i h1
    split at h
    · rename_i h2; exact ⟨h1, h2⟩
    · cases h
  · cases h
/-- What divisionFor answers. -/
def FRes (w : World) (E : Int) (s : Bool) (gs : List Int) (e : Ending) (w' : World) : Prop :=
  if E = 0 then ∃ vw vg, e = .returned (.tuple #[.agg #[.int .i64 (dLn s), vw, vg], .int .i64 0]) ∧ Ints w' vw (dW s) ∧ Ints w' vg (dG s gs) ∧ Upd NoB w w'
  else e = .returned (.tuple #[.agg #[.int .i64 0, .slice none 0 0, .slice none 0 0], .int .i64 E]) ∧ Upd NoB w w'
set_option maxRecDepth 100000 in
set_option maxHeartbeats 4000000 in
theorem divisionFor_any (c : Option Addr) (n cc : Nat) (s : Bool) (v : Value) (gs : List Int) (w : World) (h : Ints w v gs) (hg : Gv w) (_hn : n ≤ 17592186044416) : Calls Tryd.prog 55 #[.slice c n cc, .bool s, v] w (FRes w (dfE n s gs) s gs) := by
  obtain ⟨a, cap, rfl⟩ := h.form
  obtain ⟨W, hW⟩ : ∃ W, W = w.alloc (.cells #[.int .i64 0, .slice none 0 0, .slice none 0 0] 52) := ⟨_, rfl⟩
  have u0 : Upd NoB w W := by rw [hW]; exact (Upd.refl _ _).alloc _
  have bw : W.heap[w.heap.size]? = some (.cells #[.int .i64 0, .slice none 0 0, .slice none 0 0] 52 (0, 0)) := by rw [hW]; exact heap_alloc_new w _
  have hbW : w.heap.size < W.heap.size := lt_of_block bw
  have HD := Lib.hid (divisionOf2_any s _ gs W (h.later u0) (hg.later u0))
  have HLt := Lib.hid (fun (hne : gs ≠ []) k hk => h.lt hne k hk)
  have HB := Lib.hid bw; have HW := Lib.hid hW; have U0 := Lib.hid u0
  obtain ⟨L, hL⟩ : ∃ L, gs.length = L := ⟨_, rfl⟩
  rw [hL] at HD HLt ⊢
  clear h hg hW u0 bw hL
  cases hd : isD s gs with
  | true =>
    have HDd := Lib.hid hd
    have HE := Lib.hid (show dfE n s gs = if n = 128 then 0 else 4 from if_pos hd)
    clear hd
    by_cases h1 : n = 128
    · have HE0 := Lib.hid (show dfE n s gs = 0 by rw [HE.out, if_pos h1])
      have t1 : ((n : Int) != 128) = false := by rw [h1]; rfl
      clear h1
      go_enter Tryd.func55, Tryd.ntmps55
      go_wp2_with fail
      rw [← HW.out]
      refine HD.out.mono ?_
      intro e w1 hr
      unfold DRes2 at hr
      rw [if_pos HDd.out] at hr
      obtain ⟨vw, vg, rfl, iw, ig, u1, ow, og⟩ := hr
      obtain ⟨aw, cw, rfl⟩ := iw.form
      obtain ⟨ag, cg, rfl⟩ := ig.form
      obtain ⟨wq, hwq⟩ : ∃ wq, wq = w1.alloc (.cells #[.int .i64 (dLn s), .slice aw (dW s).length cw, .slice ag (dG s gs).length cg] 52) := ⟨_, rfl⟩
      have u2 : Upd NoB w1 wq := by rw [hwq]; exact (Upd.refl _ _).alloc _
      have n2 : wq.heap[w1.heap.size]? = some (.cells #[.int .i64 (dLn s), .slice aw (dW s).length cw, .slice ag (dG s gs).length cg] 52 (0, 0)) := by rw [hwq]; exact heap_alloc_new w1 _
      have hq := (u1.then u2).heap HB.out (noB _)
      have m0 := blk_cell n2 0
      have m1 := blk_cell n2 1
      have m2 := blk_cell n2 2
      have k0 := blk_cell hq 0
      have k1 := blk_cell hq 1
      have k2 := blk_cell hq 2
      have z0 := blk_free hq 0
      have z1 := blk_free hq 1
      have z2 := blk_free hq 2
      have hu := upd_three (g := w.heap.size) (u1.then u2) (.int .i64 (dLn s)) (.slice aw (dW s).length cw) (.slice ag (dG s gs).length cg)
      have hv := upd_three (g := w.heap.size) (Upd.refl NoB wq) (.int .i64 (dLn s)) (.slice aw (dW s).length cw) (.slice ag (dG s gs).length cg)
      have IW := Lib.hid ((iw.later u2).upd hv (fun _ k hk e => by have := ow k hk; have e' : k = w.heap.size := e; omega))
      have IG := Lib.hid ((ig.later u2).upd hv (fun hne k hk e => by
        have e' : k = w.heap.size := e
        rcases og with ⟨h1, h2⟩ | h
        · have := HLt.out (by rw [← h2]; exact hne) k (by rw [← h1]; exact hk)
          omega
        · have := h k hk; omega))
      have UF := Lib.hid (upd_into U0.out hu)
      have HQ := Lib.hid hq; have HWq := Lib.hid hwq
      clear iw ig u1 u2 n2 hq hu hv hwq ow og
      go_wp2_with (rw [← HWq.out])
      refine bodyPost_ret (ret_div rfl _ _ w.heap.size _ _ _ rfl (set3_heap HQ.out)) rfl ?_
      unfold FRes
      rw [if_pos HE0.out]
      exact ⟨_, _, rfl, IW.out, IG.out, UF.out⟩
    · have HE0 := Lib.hid (show dfE n s gs = 4 by rw [HE.out, if_neg h1])
      have t1 : ((n : Int) != 128) = true := by rw [bne_iff_ne]; omega
      clear h1
      go_enter Tryd.func55, Tryd.ntmps55
      go_wp2_with fail
      rw [← HW.out]
      refine HD.out.mono ?_
      intro e w1 hr
      unfold DRes2 at hr
      rw [if_pos HDd.out] at hr
      obtain ⟨vw, vg, rfl, iw, ig, u1, ow, og⟩ := hr
      obtain ⟨aw, cw, rfl⟩ := iw.form
      obtain ⟨ag, cg, rfl⟩ := ig.form
      obtain ⟨wq, hwq⟩ : ∃ wq, wq = w1.alloc (.cells #[.int .i64 (dLn s), .slice aw (dW s).length cw, .slice ag (dG s gs).length cg] 52) := ⟨_, rfl⟩
      have u2 : Upd NoB w1 wq := by rw [hwq]; exact (Upd.refl _ _).alloc _
      have hq := (u1.then u2).heap HB.out (noB _)
      have k0 := blk_cell hq 0
      have k1 := blk_cell hq 1
      have k2 := blk_cell hq 2
      have z0 := blk_free hq 0
      have z1 := blk_free hq 1
      have z2 := blk_free hq 2
      have UF := Lib.hid (upd_into U0.out (upd_three (g := w.heap.size) (u1.then u2) (.int .i64 0) (.slice none 0 0) (.slice none 0 0)))
      have HQ := Lib.hid hq; have HWq := Lib.hid hwq
      clear iw ig u1 u2 hq hwq ow og
      go_wp2_with (rw [← HWq.out])
      refine bodyPost_ret (ret_div rfl _ _ w.heap.size _ _ _ rfl (set3_heap HQ.out)) rfl ?_
      unfold FRes
      rw [HE0.out, if_neg (by decide)]
      exact ⟨rfl, UF.out⟩
  | false =>
    have HE0 := Lib.hid (show dfE n s gs = 1 from if_neg (by rw [hd]; simp))
    have HDd := Lib.hid (show ¬ isD s gs = true by rw [hd]; simp)
    clear hd
    go_enter Tryd.func55, Tryd.ntmps55
    go_wp2_with fail
    rw [← HW.out]
    refine HD.out.mono ?_
    intro e w1 hr
    unfold DRes2 at hr
    rw [if_neg HDd.out] at hr
    obtain ⟨rfl, u1⟩ := hr
    have u2 : Upd NoB w1 (w1.alloc (.cells #[.int .i64 0, .slice none 0 0, .slice none 0 0] 52)) := (Upd.refl _ _).alloc _
    have hq := (u1.then u2).heap HB.out (noB _)
    have k0 := blk_cell hq 0
    have k1 := blk_cell hq 1
    have k2 := blk_cell hq 2
    have z0 := blk_free hq 0
    have z1 := blk_free hq 1
    have z2 := blk_free hq 2
    have UF := Lib.hid (upd_into U0.out (upd_three (g := w.heap.size) (u1.then u2) (.int .i64 0) (.slice none 0 0) (.slice none 0 0)))
    have HQ := Lib.hid hq
    clear u1 u2 hq
    go_wp2_with fail
    refine bodyPost_ret (ret_div rfl _ _ w.heap.size _ _ _ rfl (set3_heap HQ.out)) rfl ?_
    unfold FRes
    rw [HE0.out, if_neg (by decide)]
    exact ⟨rfl, UF.out⟩
end Go.Proofs.YtgdndcbcdoogpaaDoor

namespace Go.Proofs.YtgdndcbcdoogpaaDoor
open Go.RowKit Go.Shelf

def gaS (c : List Int) (s : Bool) (gs : List Int) : List Int := if dfE c.length s gs = 0 then gaL (plI s gs) c else []
def scS (c : List Int) (s : Bool) (gs : List Int) : List Int := if dfE c.length s gs = 0 then sc0 (plI s gs) c else []
theorem dWG_ne {s : Bool} {gs : List Int} (h : isD s gs = true) : dW s ≠ [] ∧ dG s gs ≠ [] := by
  cases s
  · exact ⟨by decide, by simp [dG]⟩
  · refine ⟨by decide, ?_⟩
    have h1 := (isG_iff (gs := gs) (l := 8)).1 h
    intro e
    have e : gs = [] := e
    subst e
    simp at h1
theorem dLn_bd (s : Bool) : 0 ≤ dLn s ∧ dLn s ≤ 128 := by cases s <;> simp [dLn]
set_option maxRecDepth 100000 in
set_option maxHeartbeats 4000000 in
theorem Gather_any (cv : Value) (c : List Int) (s : Bool) (v : Value) (gs : List Int) (w : World) (hc : Ints w cv c) (h : Ints w v gs) (hg : Gv w) : Calls Tryd.prog 24 #[cv, .bool s, v] w (EInts w (gaS c s gs) (dfE c.length s gs)) := by
  obtain ⟨ca, cc, rfl⟩ := hc.form
  have HD := Lib.hid (divisionFor_any ca c.length cc s v gs w h hg hc.1)
  obtain ⟨a, cap, rfl⟩ := h.form
  by_cases hE : dfE c.length s gs = 0
  · obtain ⟨hd, hn⟩ := dfE_ok hE
    have HS := Lib.hid (show gaS c s gs = gaL (plI s gs) c from if_pos hE)
    have HE := Lib.hid hE
    have BW := Lib.hid (dW_bd s); have BG := Lib.hid (dG_bd hd); have HNe := Lib.hid (dWG_ne hd)
    have HPb := Lib.hid (pcs_bd hd); have HPl := Lib.hid (plI_perm hd).1
    have HLn := Lib.hid (dLn_bd s)
    have HXc := Lib.hid (show ∀ (w1 : World), Upd NoB w w1 → Ints w1 (.slice ca 128 cc) c from fun w1 u => by rw [← hn]; exact hc.later u)
    have HCl := Lib.hid hn
    obtain ⟨L, hL⟩ : ∃ L, gs.length = L := ⟨_, rfl⟩
    rw [hL] at HD ⊢
    rw [HE.out] at HD ⊢
    rw [HS.out]
    rw [hn] at HD ⊢
    clear h hc hg hE hd hn hL
    go_enter Tryd.func24, Tryd.ntmps24
    go_wp2_with fail
    refine HD.out.mono ?_
    intro e w1 hr
    unfold FRes at hr
    rw [if_pos rfl] at hr
    obtain ⟨vw, vg, rfl, iw, ig, u1⟩ := hr
    obtain ⟨aw, cw, rfl⟩ := iw.form
    obtain ⟨ag, cg, rfl⟩ := ig.form
    have IW := Lib.hid iw; have IG := Lib.hid ig; have U1 := Lib.hid u1
    clear iw ig u1
    go_wp2_with fail
    refine (pieces_any _ _ _ _ _ _ _ _).mono ?_
    rintro e w2 ⟨rfl, hw2⟩
    obtain ⟨wq, hwq⟩ : ∃ wq, wq = w1.alloc (.cells #[.int .i64 (dLn s), .slice aw (dW s).length cw, .slice ag (dG s gs).length cg] 52) := ⟨_, rfl⟩
    have uq : Upd NoB w1 wq := by rw [hwq]; exact (Upd.refl _ _).alloc _
    rw [← hwq] at hw2 ⊢
    have u2 : Upd NoB w1 w2 := by rw [hw2]; exact uq.alloc _
    have n2 : w2.heap[wq.heap.size]? = some (.cells #[.int .i64 (dLn s), .slice aw (dW s).length cw, .slice ag (dG s gs).length cg] 52 (0, 0)) := by rw [hw2]; exact heap_alloc_new wq _
    obtain ⟨B, hB⟩ : ∃ B, wq.heap.size = B := ⟨_, rfl⟩
    rw [hB] at n2 ⊢
    have U2 := Lib.hid (U1.out.then u2); have N2 := Lib.hid n2; have HIW := Lib.hid (IW.out.later u2); have HIG := Lib.hid (IG.out.later u2)
    clear uq hw2 hwq u2 n2 hB
    go_wp2_with fail
    refine (gathered_any B (dLn s) aw ag ca (dW s) (dG s gs) c cw cg cc w2 HLn.out BW.out BG.out N2.out HIW.out HIG.out HNe.out.1 HNe.out.2 (HXc.out _ U2.out) HCl.out HPb.out HPl.out).mono ?_
    rintro e w3 ⟨v3, rfl, r3, u3⟩
    obtain ⟨a3, c3, rfl⟩ := row_form r3
    have R3 := Lib.hid (row_base r3 U2.out.size); have U3 := Lib.hid (U2.out.then u3)
    clear r3 u3
    go_wp2_with fail
    go_ret2
    exact ⟨_, _, _, rfl, R3.out, U3.out⟩
  · have HS := Lib.hid (show gaS c s gs = [] from if_neg hE)
    have HE := Lib.hid hE
    have t1 : (dfE c.length s gs != 0) = true := by rw [bne_iff_ne]; exact hE
    rw [HS.out]
    obtain ⟨L, hL⟩ : ∃ L, gs.length = L := ⟨_, rfl⟩
    rw [hL] at HD ⊢
    generalize dfE c.length s gs = E at *
    clear h hc hg hE hL
    go_enter Tryd.func24, Tryd.ntmps24
    go_wp2_with fail
    refine HD.out.mono ?_
    intro e w1 hr
    unfold FRes at hr
    rw [if_neg HE.out] at hr
    obtain ⟨rfl, u1⟩ := hr
    have U1 := Lib.hid u1
    clear u1
    go_wp2_with fail
    go_ret2
    exact ⟨none, 0, 0, rfl, World.ownsRow_nil _ _ _ _, U1.out.alloc _⟩
set_option maxRecDepth 100000 in
set_option maxHeartbeats 4000000 in
theorem Scatter_any (cv : Value) (c : List Int) (s : Bool) (v : Value) (gs : List Int) (w : World) (hc : Ints w cv c) (h : Ints w v gs) (hg : Gv w) : Calls Tryd.prog 26 #[cv, .bool s, v] w (EInts w (scS c s gs) (dfE c.length s gs)) := by
  obtain ⟨ca, cc, rfl⟩ := hc.form
  have HD := Lib.hid (divisionFor_any ca c.length cc s v gs w h hg hc.1)
  obtain ⟨a, cap, rfl⟩ := h.form
  by_cases hE : dfE c.length s gs = 0
  · obtain ⟨hd, hn⟩ := dfE_ok hE
    have HS := Lib.hid (show scS c s gs = sc0 (plI s gs) c from if_pos hE)
    have HE := Lib.hid hE
    have BW := Lib.hid (dW_bd s); have BG := Lib.hid (dG_bd hd); have HNe := Lib.hid (dWG_ne hd)
    have HPb := Lib.hid (pcs_bd hd); have HPl := Lib.hid (plI_perm hd).1
    have HLn := Lib.hid (dLn_bd s)
    have HXc := Lib.hid (show ∀ (w1 : World), Upd NoB w w1 → Ints w1 (.slice ca 128 cc) c from fun w1 u => by rw [← hn]; exact hc.later u)
    have HCl := Lib.hid hn
    obtain ⟨L, hL⟩ : ∃ L, gs.length = L := ⟨_, rfl⟩
    rw [hL] at HD ⊢
    rw [HE.out] at HD ⊢
    rw [HS.out]
    rw [hn] at HD ⊢
    clear h hc hg hE hd hn hL
    go_enter Tryd.func26, Tryd.ntmps26
    go_wp2_with fail
    refine HD.out.mono ?_
    intro e w1 hr
    unfold FRes at hr
    rw [if_pos rfl] at hr
    obtain ⟨vw, vg, rfl, iw, ig, u1⟩ := hr
    obtain ⟨aw, cw, rfl⟩ := iw.form
    obtain ⟨ag, cg, rfl⟩ := ig.form
    have IW := Lib.hid iw; have IG := Lib.hid ig; have U1 := Lib.hid u1
    clear iw ig u1
    go_wp2_with fail
    refine (pieces_any _ _ _ _ _ _ _ _).mono ?_
    rintro e w2 ⟨rfl, hw2⟩
    obtain ⟨wq, hwq⟩ : ∃ wq, wq = w1.alloc (.cells #[.int .i64 (dLn s), .slice aw (dW s).length cw, .slice ag (dG s gs).length cg] 52) := ⟨_, rfl⟩
    have uq : Upd NoB w1 wq := by rw [hwq]; exact (Upd.refl _ _).alloc _
    rw [← hwq] at hw2 ⊢
    have u2 : Upd NoB w1 w2 := by rw [hw2]; exact uq.alloc _
    have n2 : w2.heap[wq.heap.size]? = some (.cells #[.int .i64 (dLn s), .slice aw (dW s).length cw, .slice ag (dG s gs).length cg] 52 (0, 0)) := by rw [hw2]; exact heap_alloc_new wq _
    obtain ⟨B, hB⟩ : ∃ B, wq.heap.size = B := ⟨_, rfl⟩
    rw [hB] at n2 ⊢
    have U2 := Lib.hid (U1.out.then u2); have N2 := Lib.hid n2; have HIW := Lib.hid (IW.out.later u2); have HIG := Lib.hid (IG.out.later u2)
    clear uq hw2 hwq u2 n2 hB
    go_wp2_with fail
    refine (scattered_any B (dLn s) aw ag ca (dW s) (dG s gs) c cw cg cc w2 HLn.out BW.out BG.out N2.out HIW.out HIG.out HNe.out.1 HNe.out.2 (HXc.out _ U2.out) HCl.out HPb.out HPl.out).mono ?_
    rintro e w3 ⟨v3, rfl, r3, u3⟩
    obtain ⟨a3, c3, rfl⟩ := row_form r3
    have R3 := Lib.hid (row_base r3 U2.out.size); have U3 := Lib.hid (U2.out.then u3)
    clear r3 u3
    go_wp2_with fail
    go_ret2
    exact ⟨_, _, _, rfl, R3.out, U3.out⟩
  · have HS := Lib.hid (show scS c s gs = [] from if_neg hE)
    have HE := Lib.hid hE
    have t1 : (dfE c.length s gs != 0) = true := by rw [bne_iff_ne]; exact hE
    rw [HS.out]
    obtain ⟨L, hL⟩ : ∃ L, gs.length = L := ⟨_, rfl⟩
    rw [hL] at HD ⊢
    generalize dfE c.length s gs = E at *
    clear h hc hg hE hL
    go_enter Tryd.func26, Tryd.ntmps26
    go_wp2_with fail
    refine HD.out.mono ?_
    intro e w1 hr
    unfold FRes at hr
    rw [if_neg HE.out] at hr
    obtain ⟨rfl, u1⟩ := hr
    have U1 := Lib.hid u1
    clear u1
    go_wp2_with fail
    go_ret2
    exact ⟨none, 0, 0, rfl, World.ownsRow_nil _ _ _ _, U1.out.alloc _⟩
end Go.Proofs.YtgdndcbcdoogpaaDoor

namespace Go.Proofs.YtgdndcbcdoogpaaDoor
open Go.RowKit Go.Shelf

theorem fm_succ {α : Type} (g : Nat → List α) (k : Nat) : (List.range (k + 1)).flatMap g = (List.range k).flatMap g ++ g k := by
  rw [List.range_succ, List.flatMap_append]; simp
theorem mp_succ {α : Type} (g : Nat → α) (k : Nat) : (List.range (k + 1)).map g = (List.range k).map g ++ [g k] := by
  rw [List.range_succ, List.map_append]; simp
def plG (gs : List Int) (i : Nat) : List Int := (pcI 16 swL gs i).flatMap upI
def plJ (gs : List Int) (i j : Nat) : List Int := (pcJ 16 swL gs i j).flatMap upI
theorem plI_short (gs : List Int) : plI true gs = (List.range gs.length).flatMap (plG gs) := by
  unfold plI pcs pcL plG
  rw [List.flatMap_assoc]; rfl
theorem plG_eq (gs : List Int) (i : Nat) : plG gs i = (List.range 4).flatMap (plJ gs i) := by
  unfold plG pcI plJ
  rw [List.flatMap_assoc]; rfl
theorem plJ_eq (gs : List Int) (i j : Nat) : plJ gs i j = (List.range (gs.getD i 0).toNat).flatMap fun k => upI (pcA 16 swL gs i j k) := by
  unfold plJ pcJ
  rw [List.flatMap_map]
theorem upI_pcA {gs : List Int} {i j k : Nat} {y : Nat} (hy : swL[j]? = some (y : Int)) : upI (pcA 16 swL gs i j k) = (List.range y).map fun (t : Nat) => 16 * (spT gs i + (k : Int)) + spT swL j + t := by
  unfold upI pcA
  simp only [spT_succ hy]
  rw [show (16 * (spT gs i + (k : Int)) + (spT swL j + (y : Int)) - (16 * (spT gs i + (k : Int)) + spT swL j)).toNat = y by omega]
def idL : List Int := (List.range 128).map fun (k : Nat) => (k : Int)
theorem plI_long (gs : List Int) : plI false gs = idL := by
  have : plI false [] = idL := by decide +kernel
  exact this
theorem swL_small : ∀ x ∈ swL, 0 ≤ x ∧ x ≤ 8 := by decide
set_option maxRecDepth 100000 in
set_option maxHeartbeats 8000000 in
theorem rPlaces_any (s : Bool) (v : Value) (gs : List Int) (w : World) (h : Ints w v gs) (hd : isD s gs = true) : Calls Tryd.prog 53 #[.bool s, v] w (IRes w (plI s gs)) := by
  obtain ⟨ag, cg, rfl⟩ := h.form
  cases s with
  | false =>
    have HS := Lib.hid (plI_long gs)
    have HSt := Lib.hid (fun k => mp_succ (fun (k : Nat) => (k : Int)) k)
    have HId := Lib.hid (show idL = (List.range 128).map fun (k : Nat) => (k : Int) from rfl)
    clear h hd
    go_enter Tryd.func53, Tryd.ntmps53
    go_wp2_with fail
    go_loopw [5, 17] (fun v i wr => ∃ k : Nat, k ≤ 128 ∧ i = .int .i64 k ∧ wr.ownsRow w.heap.size 3 1 v k (i64s ((List.range k).map fun (k : Nat) => (k : Int))) ∧ Upd NoB w wr) (fun _ i _ => 128 - (intOf i).toNat)
    case atStart => exact ⟨0, Nat.zero_le _, rfl, World.ownsRow_nil _ _ _ _, Upd.refl _ _⟩
    case round =>
      obtain ⟨k, hk, rfl, hown, hu⟩ := hrel
      obtain ⟨va, vc, rfl⟩ := row_form hown
      have HOw := Lib.hid hown; have HU := Lib.hid hu
      have hbs := hu.size
      by_cases hlt : k < 128
      · have HN := Lib.hid (HSt.out k)
        generalize (List.range k).map (fun (k : Nat) => (k : Int)) = xs at *
        clear hown hu
        go_wp2_with (at_builtin; refine wpList_push rfl (.tmp 20) (.tmp 22) rfl w.heap.size (.slice va k vc) k xs (k : Int) rfl rfl HOw.out (by omega) hbs ?_; intro v' w' hown' u'; have R' := Lib.hid hown'; have U' := Lib.hid u'; clear hown' u')
        go_roundw
        case rel => exact ⟨k + 1, by omega, by go_num, by rw [HN.out]; exact R'.out, upd_ge ((upd_ge' HU.out w.heap.size).trans U'.out (fun _ _ h => h))⟩
        case measure => simp [intOf]; omega
      · obtain rfl : k = 128 := by omega
        clear hown hu
        go_wp2_with fail
        go_ret
        exact ⟨_, rfl, by rw [HS.out, HId.out, List.length_map, List.length_range]; exact HOw.out, HU.out⟩
  | true =>
    have BG := Lib.hid (dG_bd hd)
    have XG := Lib.hid h
    have HAl := Lib.hid (plI_short gs)
    have HPG := Lib.hid (plG_eq gs)
    have HPJ := Lib.hid (plJ_eq gs)
    have HSpg := Lib.hid (fun k => spT_bd (ws := gs) (fun x hx => by have := (dG_bd hd).2 x hx; omega) k)
    obtain ⟨M, hM⟩ : ∃ M, gs.length = M := ⟨_, rfl⟩
    have HM := Lib.hid hM
    have hM8 : M ≤ 8 := by have := BG.out.1; rw [← hM]; exact this
    rw [hM] at XG HAl ⊢
    clear h hd hM
    go_enter Tryd.func53, Tryd.ntmps53
    go_wp2_with fail
    go_loopw [5, 7, 28] (fun v f i wr => ∃ k : Nat, k ≤ M ∧ i = .int .i64 k ∧ f = .int .i64 (spT gs k) ∧ (∃ n : Nat, n ≤ 256 * k ∧ n = ((List.range k).flatMap (plG gs)).length ∧ wr.ownsRow w.heap.size 3 1 v n (i64s ((List.range k).flatMap (plG gs)))) ∧ Upd NoB w wr) (fun _ _ i _ => M - (intOf i).toNat)
    case atStart => exact ⟨0, Nat.zero_le _, rfl, rfl, ⟨0, Nat.zero_le _, rfl, World.ownsRow_nil _ _ _ _⟩, Upd.refl _ _⟩
    case round =>
      obtain ⟨k, hk, rfl, rfl, ⟨n, hn, hnl, hown⟩, hu⟩ := hrel
      obtain ⟨va, vc, rfl⟩ := row_form hown
      have HOw := Lib.hid hown; have HU := Lib.hid hu; have HNl := Lib.hid hnl
      by_cases hlt : k < M
      · obtain ⟨x, hx⟩ : ∃ x, gs[k]? = some x := ⟨_, List.getElem?_eq_getElem (by rw [HM.out]; exact hlt)⟩
        obtain ⟨hx0, hx8⟩ := BG.out.2 x (List.mem_of_getElem? hx)
        obtain ⟨b, off, rfl, c0⟩ := (XG.out.later hu).cellAt hx
        obtain ⟨f0, f8⟩ := HSpg.out k
        have HSu := Lib.hid (spT_succ hx)
        have HFm := Lib.hid (fm_succ (plG gs) k)
        have HGk := Lib.hid (HPG.out k)
        obtain ⟨xn, rfl⟩ := Int.eq_ofNat_of_zero_le hx0
        have HJk := Lib.hid (fun j => show plJ gs k j = (List.range xn).flatMap fun q => upI (pcA 16 swL gs k j q) by rw [HPJ.out k j, List.getD_eq_getElem?_getD, hx]; rfl)
        have HUp := Lib.hid (fun (j q y : Nat) (hy : swL[j]? = some (y : Int)) => upI_pcA (gs := gs) (i := k) (k := q) hy)
        generalize spT gs k = F at *
        generalize (List.range k).flatMap (plG gs) = PA at *
        have hxn : xn ≤ 8 := by omega
        have hF0 : 0 ≤ F := f0
        have hF8 : F ≤ 1600 := by omega
        clear hx hnl hown hu f0 f8 hx0 hx8
        go_wp2_with fail
        refine (rshort_any wr).mono ?_
        rintro e w2 ⟨v2, rfl, r2, u2⟩
        obtain ⟨S, c2, rfl⟩ := row_slice r2 (by decide)
        have hS := (r2.lt S rfl).1
        have hSl := (r2.lt S rfl).2
        have hvS : ∀ k, (Value.slice va n vc).ownBlock = some k → k < wr.heap.size := fun k hk => (HOw.out.lt k hk).2
        have XW := Lib.hid (show Ints w2 (.slice (some ⟨S, 0, none⟩) 4 c2) swL from Ints.ofRow r2 (by decide)); have O2 := Lib.hid (u2.row HOw.out (fun j _ => noB j)); have U2 := Lib.hid (HU.out.then u2)
        clear r2 u2
        obtain ⟨wo, rfl⟩ : ∃ wo : World, wo = w2 := ⟨_, rfl⟩
        rw [show swL.length = 4 from rfl]
        go_wp2_with fail
        go_loopw [5, 10, 34] (fun v at' i wr => ∃ j : Nat, j ≤ 4 ∧ i = .int .i64 j ∧ at' = .int .i64 (spT swL j) ∧ (∃ n : Nat, n ≤ 256 * k + 64 * j ∧ n = (PA ++ (List.range j).flatMap (plJ gs k)).length ∧ wr.ownsRow w.heap.size 3 1 v n (i64s (PA ++ (List.range j).flatMap (plJ gs k)))) ∧ Upd NoB w wr ∧ Ints wr (.slice (some ⟨S, 0, none⟩) 4 c2) swL ∧ (∀ k, v.ownBlock = some k → k ≠ S) ∧ S < wr.heap.size) (fun _ _ i _ => 4 - (intOf i).toNat)
        case atStart => exact ⟨0, Nat.zero_le _, rfl, rfl, ⟨n, by omega, by simpa using HNl.out, by simpa using O2.out⟩, U2.out, XW.out, fun k hk e => by have := hvS k hk; omega, hSl⟩
        case round =>
          obtain ⟨j, hj, rfl, rfl, ⟨n2, hn2, hnl2, hown2⟩, hu2, hxw, hns, hsl⟩ := hrel
          obtain ⟨va2, vc2, rfl⟩ := row_form hown2
          have HO2 := Lib.hid hown2; have HU2 := Lib.hid hu2; have HNl2 := Lib.hid hnl2
          have XW2 := Lib.hid hxw; have NS := Lib.hid hns; have SL := Lib.hid hsl
          by_cases hlt2 : j < 4
          · obtain ⟨y', hy⟩ : ∃ y, swL[j]? = some y := ⟨_, List.getElem?_eq_getElem (show j < swL.length from hlt2)⟩
            obtain ⟨bb, boff, e, c1⟩ := hxw.cellAt hy
            cases e
            rw [Nat.zero_add] at c1
            obtain ⟨hy0, hy8⟩ := swL_small y' (List.mem_of_getElem? hy)
            obtain ⟨y, rfl⟩ := Int.eq_ofNat_of_zero_le hy0
            have HSj := Lib.hid (spT_succ hy)
            have HFj := Lib.hid (fm_succ (plJ gs k) j)
            have HJj := Lib.hid (HJk.out j)
            have HUj := Lib.hid (fun q => HUp.out j q y hy)
            have ha := spT_bd (ws := swL) (fun x hx => by have := swL_small x hx; omega) j
            obtain ⟨a0, a8⟩ := ha
            generalize spT swL j = A at *
            generalize (List.range j).flatMap (plJ gs k) = PB at *
            have hy8' : y ≤ 8 := by omega
            have hA : A ≤ 800 := by omega
            have s2 : decide ((j : Int) < 4) = true := decide_eq_true (by omega)
            clear hy hown2 hu2 hnl2 hxw hns hsl hy0 hy8 a8
            go_wp2_with fail
            go_loopw [5, 13] (fun v b' wr => ∃ q : Nat, q ≤ xn ∧ b' = .int .i64 (F + (q : Int)) ∧ (∃ n : Nat, n ≤ 256 * k + 64 * j + 8 * q ∧ n = (PA ++ (PB ++ (List.range q).flatMap fun q => upI (pcA 16 swL gs k j q))).length ∧ wr.ownsRow w.heap.size 3 1 v n (i64s (PA ++ (PB ++ (List.range q).flatMap fun q => upI (pcA 16 swL gs k j q))))) ∧ Upd NoB w wr ∧ Ints wr (.slice (some ⟨S, 0, none⟩) 4 c2) swL ∧ (∀ k, v.ownBlock = some k → k ≠ S) ∧ S < wr.heap.size) (fun _ b' _ => (F + (xn : Int) - intOf b').toNat)
            case atStart => exact ⟨0, Nat.zero_le _, by simp, ⟨n2, by omega, by simpa using HNl2.out, by simpa using HO2.out⟩, HU2.out, XW2.out, NS.out, SL.out⟩
            case round =>
              obtain ⟨q, hq, rfl, ⟨n3, hn3, hnl3, hown3⟩, hu3, hxw3, hns3, hsl3⟩ := hrel
              obtain ⟨va3, vc3, rfl⟩ := row_form hown3
              have HO3 := Lib.hid hown3; have HU3 := Lib.hid hu3; have HNl3 := Lib.hid hnl3
              have XW3 := Lib.hid hxw3; have NS3 := Lib.hid hns3; have SL3 := Lib.hid hsl3
              by_cases hlt3 : q < xn
              · have HFq := Lib.hid (fm_succ (fun q => upI (pcA 16 swL gs k j q)) q)
                have HUq := Lib.hid (HUj.out q)
                generalize (List.range q).flatMap (fun q => upI (pcA 16 swL gs k j q)) = PC at *
                have s3 : decide (F + (q : Int) < F + (xn : Int)) = true := decide_eq_true (by omega)
                clear hown3 hu3 hnl3 hxw3 hns3 hsl3
                go_wp2_with fail
                go_loopw [5, 14] (fun v i' wr => ∃ t : Nat, t ≤ y ∧ i' = .int .i64 (A + (t : Int)) ∧ (∃ n : Nat, n ≤ 256 * k + 64 * j + 8 * q + t ∧ n = (PA ++ (PB ++ (PC ++ (List.range t).map fun (t : Nat) => 16 * (F + (q : Int)) + A + t))).length ∧ wr.ownsRow w.heap.size 3 1 v n (i64s (PA ++ (PB ++ (PC ++ (List.range t).map fun (t : Nat) => 16 * (F + (q : Int)) + A + t))))) ∧ Upd NoB w wr ∧ Ints wr (.slice (some ⟨S, 0, none⟩) 4 c2) swL ∧ (∀ k, v.ownBlock = some k → k ≠ S) ∧ S < wr.heap.size) (fun _ i' _ => (A + (y : Int) - intOf i').toNat)
                case atStart => exact ⟨0, Nat.zero_le _, by simp, ⟨n3, by omega, by simpa using HNl3.out, by simpa using HO3.out⟩, HU3.out, XW3.out, NS3.out, SL3.out⟩
                case round =>
                  obtain ⟨t, ht, rfl, ⟨n4, hn4, hnl4, hown4⟩, hu4, hxw4, hns4, hsl4⟩ := hrel
                  obtain ⟨va4, vc4, rfl⟩ := row_form hown4
                  have HO4 := Lib.hid hown4; have HU4 := Lib.hid hu4; have HNl4 := Lib.hid hnl4
                  have XW4 := Lib.hid hxw4; have NS4 := Lib.hid hns4; have SL4 := Lib.hid hsl4
                  have hb4 := hu4.size
                  by_cases hlt4 : t < y
                  · have HFt := Lib.hid (mp_succ (fun (t : Nat) => 16 * (F + (q : Int)) + A + (t : Int)) t)
                    have HAp := Lib.hid (show PA ++ (PB ++ (PC ++ (List.range (t + 1)).map fun (t : Nat) => 16 * (F + (q : Int)) + A + t)) = (PA ++ (PB ++ (PC ++ (List.range t).map fun (t : Nat) => 16 * (F + (q : Int)) + A + t))) ++ [16 * (F + (q : Int)) + (A + (t : Int))] by
                      rw [HFt.out, Int.add_assoc]; simp only [List.append_assoc])
                    have s4 : decide (A + (t : Int) < A + (y : Int)) = true := decide_eq_true (by omega)
                    generalize PA ++ (PB ++ (PC ++ (List.range t).map fun (t : Nat) => 16 * (F + (q : Int)) + A + t)) = zs at *
                    have hn46 : n4 ≤ 1000000 := by omega
                    clear hown4 hu4 hnl4 hxw4 hns4 hsl4
                    go_wp2_with (at_builtin; refine wpList_pushF rfl (.tmp 54) (.tmp 59) rfl w.heap.size (.slice va4 n4 vc4) n4 zs (16 * (F + (q : Int)) + (A + (t : Int))) rfl rfl HO4.out hn46 hb4 ?_; intro v' w' hown' u' hat; have R' := Lib.hid hown'; have U' := Lib.hid u'; have AT := Lib.hid hat; clear hown' u' hat)
                    go_roundw
                    case rel =>
                      refine ⟨t + 1, by omega, by go_num, ⟨n4 + 1, by omega, by rw [HAp.out, List.length_append, ← HNl4.out]; rfl, by rw [HAp.out]; exact R'.out⟩, upd_ge ((upd_ge' HU4.out w.heap.size).trans U'.out (fun k hk h => (HO4.out.lt k h).1)), XW4.out.upd U'.out (fun _ k hk h => ?_), fun k hk e => ?_, Nat.lt_of_lt_of_le SL4.out U'.out.size⟩
                      · have e : k = S := by simpa [Value.ownBlock] using hk.symm
                        exact NS4.out k h e
                      · rcases AT.out with h | ⟨k', h, hk'⟩
                        · exact NS4.out k (h.symm.trans hk) e
                        · rw [h] at hk
                          cases hk
                          have := SL4.out
                          omega
                    case measure => simp [intOf]; omega
                  · obtain rfl : t = y := by omega
                    have s4 : decide (A + (t : Int) < A + (t : Int)) = false := decide_eq_false (by omega)
                    have HAp := Lib.hid (show PA ++ (PB ++ (List.range (q + 1)).flatMap fun q => upI (pcA 16 swL gs k j q)) = PA ++ (PB ++ (PC ++ (List.range t).map fun (t : Nat) => 16 * (F + (q : Int)) + A + t)) by rw [HFq.out, HUq.out])
                    clear hown4 hu4 hnl4 hxw4 hns4 hsl4
                    go_wp2_with fail
                    go_roundw
                    case rel => exact ⟨q + 1, by omega, by go_num, ⟨n4, by omega, by rw [HAp.out]; exact HNl4.out, by rw [HAp.out]; exact HO4.out⟩, HU4.out, XW4.out, NS4.out, SL4.out⟩
                    case measure => simp [intOf]; omega
              · obtain rfl : q = xn := by omega
                have s3 : decide (F + (q : Int) < F + (q : Int)) = false := decide_eq_false (by omega)
                have HAp := Lib.hid (show PA ++ (List.range (j + 1)).flatMap (plJ gs k) = PA ++ (PB ++ (List.range q).flatMap fun q => upI (pcA 16 swL gs k j q)) by rw [HFj.out, HJj.out])
                clear hown3 hu3 hnl3 hxw3 hns3 hsl3
                go_wp2_with fail
                go_roundw
                case rel => exact ⟨j + 1, by omega, by go_num, by rw [HSj.out], ⟨n3, by omega, by rw [HAp.out]; exact HNl3.out, by rw [HAp.out]; exact HO3.out⟩, HU3.out, XW3.out, NS3.out, SL3.out⟩
                case measure => simp [intOf]; omega
          · obtain rfl : j = 4 := by omega
            have HAp := Lib.hid (show (List.range (k + 1)).flatMap (plG gs) = PA ++ (List.range 4).flatMap (plJ gs k) by rw [HFm.out, HGk.out])
            clear hown2 hu2 hnl2 hxw hns hsl
            go_wp2_with fail
            go_roundw
            case rel => exact ⟨k + 1, by omega, by go_num, by rw [HSu.out], ⟨n2, by omega, by rw [HAp.out]; exact HNl2.out, by rw [HAp.out]; exact HO2.out⟩, HU2.out⟩
            case measure => simp [intOf]; omega
      · obtain rfl : k = M := by omega
        clear hown hu hnl
        go_wp2_with fail
        go_ret
        exact ⟨_, rfl, by rw [HAl.out, ← HNl.out]; exact HOw.out, HU.out⟩
end Go.Proofs.YtgdndcbcdoogpaaDoor
