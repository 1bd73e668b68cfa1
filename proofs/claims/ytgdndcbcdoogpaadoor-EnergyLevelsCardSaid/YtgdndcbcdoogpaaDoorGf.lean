/- bands: Order of the program; Order, Gather and Scatter of the reference | bands: Gather and Scatter of the reference | energy: parts of a slice -/
import Derived.Test.YtgdndcbcdoogpaaDoorGe
namespace Go.Proofs.YtgdndcbcdoogpaaDoor
open Go.RowKit Go.Shelf

def orS (s : Bool) (gs : List Int) : List Int := if isD s gs then plI s gs else []
theorem gaL_id {ps : List Int} (h : ∀ p ∈ ps, 0 ≤ p ∧ p < 128) : gaL ps idL = ps := by
  unfold gaL
  conv => rhs; rw [← List.map_id ps]
  apply List.map_congr_left
  intro p hp
  obtain ⟨h0, h1⟩ := h p hp
  unfold idL
  rw [List.getD_eq_getElem?_getD, List.getElem?_map, List.getElem?_range (by omega)]
  simp; omega
theorem gaS_id (s : Bool) (gs : List Int) : gaS idL s gs = orS s gs ∧ dfE idL.length s gs = dE s gs := by
  have hl : idL.length = 128 := by unfold idL; simp
  unfold gaS orS dfE dE
  rw [hl]
  by_cases h : isD s gs = true
  · rw [if_pos h, if_pos rfl, if_pos rfl, if_pos h, if_pos h]
    exact ⟨gaL_id (plI_perm h).2.2.1, rfl⟩
  · rw [if_neg h, if_neg (by decide), if_neg h, if_neg h]
    exact ⟨rfl, rfl⟩
def idK (k : Nat) : List Int := ((List.range k).map fun (k : Nat) => (k : Int)) ++ List.replicate (128 - k) 0
theorem idK_set {k : Nat} (h : k < 128) : (i64s (idK k)).toArray.setIfInBounds k (.int .i64 (k : Int)) = (i64s (idK (k + 1))).toArray := by
  rw [List.setIfInBounds_toArray]
  congr 1
  unfold idK i64s
  rw [mp_succ, show 128 - k = (128 - (k + 1)) + 1 by omega, List.replicate_succ]
  simp only [List.map_append, List.map_cons]
  rw [List.set_append_right _ _ (by simp)]
  simp
theorem idK_get {k : Nat} (h : k < 128) : (i64s (idK k)).toArray[k]? = some (.int .i64 0) := by
  rw [List.getElem?_toArray, i64s_get]
  unfold idK
  rw [List.getElem?_append_right (by simp), List.length_map, List.length_range, Nat.sub_self, show 128 - k = (128 - (k + 1)) + 1 by omega, List.replicate_succ]; rfl
theorem idK_end : idK 128 = idL := by unfold idK idL; simp
set_option maxRecDepth 100000 in
set_option maxHeartbeats 4000000 in
theorem Order_any (s : Bool) (v : Value) (gs : List Int) (w : World) (h : Ints w v gs) (hg : Gv w) : Calls Tryd.prog 19 #[.bool s, v] w (EInts w (orS s gs) (dE s gs)) := by
  obtain ⟨a, cap, rfl⟩ := h.form
  obtain ⟨i0, hi, hz0, hz1, hz2⟩ := info_parts Tryd.infoInt
  have HX := Lib.hid h; have HG := Lib.hid hg
  have HI := Lib.hid (gaS_id s gs)
  obtain ⟨L, hL⟩ : ∃ L, gs.length = L := ⟨_, rfl⟩
  rw [hL] at HX ⊢
  clear h hg hL
  go_enter Tryd.func19, Tryd.ntmps19
  go_wp2_with (refine wpList_make_full w rfl _ _ 22 rfl w.heap.size 3 i0 (.int .i64 0) 1 Tryd.underlying22 hi hz0 hz1 .i64 .i64 _ _ 128 rfl rfl rfl rfl ?c1 ?c2 ?c3 ?_)
  case c1 => rw [hz2]; omega
  case c2 => unfold maxLen; omega
  case c3 => exact Nat.le_refl _
  intro w2 hown hgr
  rw [made_zero] at hown
  have HF := Lib.hid (show w2.heap[w.heap.size]? = some (.cells (i64s (idK 0)).toArray 3 (0, 0)) from (row_full hown).1)
  have U2 := Lib.hid (show Upd NoB w w2 from (Upd.refl _ _).grown hgr (fun k e => by cases e))
  clear hown hgr
  go_wp2_with fail
  go_loopw [11] (fun i wr => ∃ k : Nat, k ≤ 128 ∧ i = .int .i64 k ∧ wr.heap[w.heap.size]? = some (.cells (i64s (idK k)).toArray 3 (0, 0)) ∧ Upd NoB w wr) (fun i _ => 128 - (intOf i).toNat)
  case atStart => exact ⟨0, Nat.zero_le _, rfl, HF.out, U2.out⟩
  case round =>
    obtain ⟨k, hk, rfl, hm, hu⟩ := hrel
    have HM := Lib.hid hm; have HU := Lib.hid hu
    by_cases hlt : k < 128
    · have c0 : wr.cell? ⟨w.heap.size, k, none⟩ = some (.int .i64 0) := by rw [blk_cell hm k]; exact idK_get hlt
      have z0 := blk_free hm k
      have HSt := Lib.hid (idK_set hlt)
      clear hm hu
      go_wp2_with fail
      go_roundw
      case rel => exact ⟨k + 1, by omega, by go_num, by rw [← HSt.out]; exact block_set HM.out _, HU.out.setCell _ (fun h => by have h' : w.heap.size < w.heap.size := h; omega)⟩
      case measure => simp [intOf]; omega
    · obtain rfl : k = 128 := by omega
      rw [idK_end] at hm
      have HIn := Lib.hid (show Ints wr (.slice (some ⟨w.heap.size, 0, none⟩) 128 128) idL from Ints.ofBlock (xs := idL) (by decide) hm)
      clear hm hu
      go_wp2_with fail
      refine (Gather_any _ idL s _ gs wr HIn.out (HX.out.later HU.out) (HG.out.later HU.out)).mono ?_
      rw [HI.out.1, HI.out.2]
      rintro e w3 ⟨a3, n3, c3, rfl, r3, u3⟩
      have R3 := Lib.hid (row_base r3 HU.out.size); have U3 := Lib.hid (HU.out.then u3)
      clear r3 u3
      go_wp2_with fail
      go_ret2
      exact ⟨_, _, _, rfl, R3.out, U3.out⟩
set_option maxRecDepth 100000 in
set_option maxHeartbeats 2000000 in
theorem rOrder_any (s : Bool) (v : Value) (gs : List Int) (w : World) (h : Ints w v gs) : Calls Tryd.prog 20 #[.bool s, v] w (EInts w (orS s gs) (dE s gs)) := by
  have HI := Lib.hid (rIs_any s v gs w h)
  cases hd : isD s gs with
  | true =>
    have HS := Lib.hid (show orS s gs = plI s gs from if_pos hd)
    have HE := Lib.hid (show dE s gs = 0 from if_pos hd)
    have HB := Lib.hid (rPlaces_any s v gs w h hd)
    obtain ⟨a, cap, rfl⟩ := h.form
    rw [hd] at HI
    rw [HS.out, HE.out]
    obtain ⟨L, hL⟩ : ∃ L, gs.length = L := ⟨_, rfl⟩
    rw [hL] at HI HB ⊢
    clear h hd hL
    go_enter Tryd.func20, Tryd.ntmps20
    go_wp2_with fail
    refine HI.out.mono ?_
    rintro e w' ⟨rfl, rfl⟩
    go_wp2_with fail
    refine HB.out.mono ?_
    rintro e w2 ⟨v2, rfl, r2, u2⟩
    obtain ⟨a2, c2, rfl⟩ := row_form r2
    have R2 := Lib.hid r2; have U2 := Lib.hid u2
    clear r2 u2
    go_wp2_with fail
    go_ret2
    exact ⟨_, _, _, rfl, R2.out, U2.out⟩
  | false =>
    have HS := Lib.hid (show orS s gs = [] from if_neg (by rw [hd]; simp))
    have HE := Lib.hid (show dE s gs = 1 from if_neg (by rw [hd]; simp))
    obtain ⟨a, cap, rfl⟩ := h.form
    rw [hd] at HI
    rw [HS.out, HE.out]
    obtain ⟨L, hL⟩ : ∃ L, gs.length = L := ⟨_, rfl⟩
    rw [hL] at HI ⊢
    clear h hd hL
    go_enter Tryd.func20, Tryd.ntmps20
    go_wp2_with fail
    refine HI.out.mono ?_
    rintro e w' ⟨rfl, rfl⟩
    go_wp2_with fail
    go_ret2
    exact ⟨none, 0, 0, rfl, World.ownsRow_nil _ _ _ _, Upd.refl _ _⟩
end Go.Proofs.YtgdndcbcdoogpaaDoor

namespace Go.Proofs.YtgdndcbcdoogpaaDoor
open Go.RowKit Go.Shelf

theorem gaL_succ {ps c : List Int} {k : Nat} {p : Int} (h : ps[k]? = some p) : gaL (ps.take (k + 1)) c = gaL (ps.take k) c ++ [c.getD p.toNat 0] := by
  unfold gaL; rw [List.take_add_one, h, List.map_append]; rfl
theorem scL_succ {ps c o : List Int} {k : Nat} {p x : Int} (h : ps[k]? = some p) (hx : c[k]? = some x) : scL (ps.take (k + 1)) c o = (scL (ps.take k) c o).set p.toNat x := by
  have hk := (List.getElem?_eq_some_iff.1 h).1
  have hc := (List.getElem?_eq_some_iff.1 hx).1
  rw [List.take_add_one, h, Option.toList_some, scL_append _ _ _ _ (by rw [List.length_take]; omega), List.length_take, Nat.min_eq_left (by omega)]
  have : c.drop k = x :: c.drop (k + 1) := by
    have e := (List.getElem?_eq_some_iff.1 hx).2
    rw [← e, List.getElem_cons_drop]
  rw [this]; rfl
set_option maxRecDepth 100000 in
set_option maxHeartbeats 4000000 in
theorem rGather_any (cv : Value) (c : List Int) (s : Bool) (v : Value) (gs : List Int) (w : World) (hc : Ints w cv c) (h : Ints w v gs) : Calls Tryd.prog 25 #[cv, .bool s, v] w (EInts w (gaS c s gs) (dfE c.length s gs)) := by
  have HI := Lib.hid (rIs_any s v gs w h)
  obtain ⟨ca, cc, rfl⟩ := hc.form
  cases hd : isD s gs with
  | true =>
    have HB := Lib.hid (rPlaces_any s v gs w h hd)
    have HPp := Lib.hid (plI_perm hd)
    have HE0 := Lib.hid (show dfE c.length s gs = if c.length = 128 then 0 else 4 from if_pos hd)
    obtain ⟨a, cap, rfl⟩ := h.form
    rw [hd] at HI
    obtain ⟨L, hL⟩ : ∃ L, gs.length = L := ⟨_, rfl⟩
    rw [hL] at HI HB ⊢
    by_cases hn : c.length = 128
    · have HE := Lib.hid (show dfE c.length s gs = 0 by rw [HE0.out, if_pos hn])
      have HS := Lib.hid (show gaS c s gs = gaL (plI s gs) c from if_pos HE.out)
      have HC := Lib.hid (show Ints w (.slice ca 128 cc) c by rw [← hn]; exact hc)
      have HCl := Lib.hid hn
      rw [HE.out, HS.out, hn]
      clear h hd hL hn hc
      go_enter Tryd.func25, Tryd.ntmps25
      go_wp2_with fail
      refine HI.out.mono ?_
      rintro e w' ⟨rfl, rfl⟩
      go_wp2_with fail
      refine HB.out.mono ?_
      rintro e w2 ⟨v2, rfl, r2, u2⟩
      rw [HPp.out.1] at r2
      obtain ⟨S, c2, rfl⟩ := row_slice r2 (by omega)
      have hS := (r2.lt S rfl).1
      have hSl := (r2.lt S rfl).2
      have XW := Lib.hid (show Ints w2 (.slice (some ⟨S, 0, none⟩) 128 c2) (plI s gs) from Ints.ofRow (xs := plI s gs) (by rw [HPp.out.1]; exact r2) (by rw [HPp.out.1]; omega)); have U2 := Lib.hid u2
      have HAl := Lib.hid (show gaL ((plI s gs).take 128) c = gaL (plI s gs) c by rw [List.take_of_length_le (by rw [HPp.out.1]; omega)])
      have HLen := Lib.hid (show (gaL (plI s gs) c).length = 128 by unfold gaL; rw [List.length_map]; exact HPp.out.1)
      generalize plI s gs = ps at *
      clear r2 u2
      go_wp2_with fail
      go_loopw [8, 22] (fun v i wr => ∃ k : Nat, k ≤ 128 ∧ i = .int .i64 k ∧ wr.ownsRow w.heap.size 3 1 v k (i64s (gaL (ps.take k) c)) ∧ Upd NoB w wr ∧ Ints wr (.slice (some ⟨S, 0, none⟩) 128 c2) ps ∧ (∀ k, v.ownBlock = some k → k ≠ S) ∧ S < wr.heap.size) (fun _ i _ => 128 - (intOf i).toNat)
      case atStart => exact ⟨0, Nat.zero_le _, rfl, World.ownsRow_nil _ _ _ _, U2.out, XW.out, fun k hk e => by simp [Value.ownBlock] at hk, hSl⟩
      case round =>
        obtain ⟨k, hk, rfl, hown, hu, hx, hns, hsl⟩ := hrel
        obtain ⟨va, vc, rfl⟩ := row_form hown
        have HOw := Lib.hid hown; have HU := Lib.hid hu; have NS := Lib.hid hns; have SL := Lib.hid hsl; have XW2 := Lib.hid hx
        have hbs := hu.size
        by_cases hlt : k < 128
        · obtain ⟨p, hp⟩ : ∃ p, ps[k]? = some p := ⟨_, List.getElem?_eq_getElem (by rw [HPp.out.1]; exact hlt)⟩
          obtain ⟨p0, p8⟩ := HPp.out.2.2.1 p (List.mem_of_getElem? hp)
          obtain ⟨bb, boff, e, c1⟩ := hx.cellAt hp
          cases e
          rw [Nat.zero_add] at c1
          obtain ⟨pn, rfl⟩ := Int.eq_ofNat_of_zero_le p0
          obtain ⟨x, hxc⟩ : ∃ x, c[pn]? = some x := ⟨_, List.getElem?_eq_getElem (by rw [HCl.out]; omega)⟩
          obtain ⟨bc, off, e, c3⟩ := (HC.out.later hu).cellAt hxc
          subst e
          have HN := Lib.hid (show gaL (ps.take (k + 1)) c = gaL (ps.take k) c ++ [x] by rw [gaL_succ hp, Int.toNat_natCast, List.getD_eq_getElem?_getD, hxc]; rfl)
          generalize gaL (ps.take k) c = ys at *
          have hp8 : pn < 128 := by omega
          clear hp hxc hown hu hx hns hsl p0 p8
          go_wp2_with (at_builtin; refine wpList_pushF rfl (.tmp 26) (.tmp 31) rfl w.heap.size (.slice va k vc) k ys x rfl rfl HOw.out (by omega) hbs ?_; intro v' w' hown' u' hat; have R' := Lib.hid hown'; have U' := Lib.hid u'; have AT := Lib.hid hat; clear hown' u' hat)
          go_roundw
          case rel =>
            refine ⟨k + 1, by omega, by go_num, by rw [HN.out]; exact R'.out, upd_ge ((upd_ge' HU.out w.heap.size).trans U'.out (fun k hk h => (HOw.out.lt k h).1)), XW2.out.upd U'.out (fun _ k hk h => ?_), fun k hk e => ?_, Nat.lt_of_lt_of_le SL.out U'.out.size⟩
            · have e : k = S := by simpa [Value.ownBlock] using hk.symm
              exact NS.out k h e
            · rcases AT.out with h | ⟨k', h, hk'⟩
              · exact NS.out k (h.symm.trans hk) e
              · rw [h] at hk
                cases hk
                have := SL.out
                omega
          case measure => simp [intOf]; omega
        · obtain rfl : k = 128 := by omega
          rw [HAl.out] at HOw
          clear hown hu hx hns hsl
          go_wp2_with fail
          go_ret2
          exact ⟨_, _, _, rfl, by rw [HLen.out]; exact HOw.out, HU.out⟩
    · have HE := Lib.hid (show dfE c.length s gs = 4 by rw [HE0.out, if_neg hn])
      have HS := Lib.hid (show gaS c s gs = [] from if_neg (by rw [HE.out]; decide))
      have t1 : ((c.length : Int) != 128) = true := by rw [bne_iff_ne]; omega
      rw [HE.out, HS.out]
      generalize c.length = n at *
      clear h hd hL hn hc
      go_enter Tryd.func25, Tryd.ntmps25
      go_wp2_with fail
      refine HI.out.mono ?_
      rintro e w' ⟨rfl, rfl⟩
      go_wp2_with fail
      go_ret2
      exact ⟨none, 0, 0, rfl, World.ownsRow_nil _ _ _ _, Upd.refl _ _⟩
  | false =>
    have HE := Lib.hid (show dfE c.length s gs = 1 from if_neg (by rw [hd]; simp))
    have HS := Lib.hid (show gaS c s gs = [] from if_neg (by rw [HE.out]; decide))
    obtain ⟨a, cap, rfl⟩ := h.form
    rw [hd] at HI
    rw [HS.out, HE.out]
    obtain ⟨L, hL⟩ : ∃ L, gs.length = L := ⟨_, rfl⟩
    rw [hL] at HI ⊢
    clear h hd hL hc
    go_enter Tryd.func25, Tryd.ntmps25
    go_wp2_with fail
    refine HI.out.mono ?_
    rintro e w' ⟨rfl, rfl⟩
    go_wp2_with fail
    go_ret2
    exact ⟨none, 0, 0, rfl, World.ownsRow_nil _ _ _ _, Upd.refl _ _⟩
set_option maxRecDepth 100000 in
set_option maxHeartbeats 4000000 in
theorem rScatter_any (cv : Value) (c : List Int) (s : Bool) (v : Value) (gs : List Int) (w : World) (hc : Ints w cv c) (h : Ints w v gs) : Calls Tryd.prog 27 #[cv, .bool s, v] w (EInts w (scS c s gs) (dfE c.length s gs)) := by
  have HI := Lib.hid (rIs_any s v gs w h)
  obtain ⟨ca, cc, rfl⟩ := hc.form
  cases hd : isD s gs with
  | true =>
    have HB := Lib.hid (fun w' (u : Upd NoB w w') => rPlaces_any s v gs w' (h.later u) hd)
    have HPp := Lib.hid (plI_perm hd)
    have HE0 := Lib.hid (show dfE c.length s gs = if c.length = 128 then 0 else 4 from if_pos hd)
    obtain ⟨i0, hi, hz0, hz1, hz2⟩ := info_parts Tryd.infoInt
    obtain ⟨a, cap, rfl⟩ := h.form
    rw [hd] at HI
    obtain ⟨L, hL⟩ : ∃ L, gs.length = L := ⟨_, rfl⟩
    rw [hL] at HI HB ⊢
    by_cases hn : c.length = 128
    · have HE := Lib.hid (show dfE c.length s gs = 0 by rw [HE0.out, if_pos hn])
      have HS := Lib.hid (show scS c s gs = sc0 (plI s gs) c from if_pos HE.out)
      have HC := Lib.hid (show Ints w (.slice ca 128 cc) c by rw [← hn]; exact hc)
      have HCl := Lib.hid hn
      rw [HE.out, HS.out, hn]
      clear h hd hL hn hc
      go_enter Tryd.func27, Tryd.ntmps27
      go_wp2_with fail
      refine HI.out.mono ?_
      rintro e w' ⟨rfl, rfl⟩
      go_wp2_with (refine wpList_make_full w rfl _ _ 22 rfl w.heap.size 3 i0 (.int .i64 0) 1 Tryd.underlying22 hi hz0 hz1 .i64 .i64 _ _ 128 rfl rfl rfl rfl ?c1 ?c2 ?c3 ?_)
      case c1 => rw [hz2]; omega
      case c2 => unfold maxLen; omega
      case c3 => exact Nat.le_refl _
      intro w1 hown hgr
      rw [made_zero] at hown
      have HF := Lib.hid (show w1.heap[w.heap.size]? = some (.cells (i64s (scL ((plI s gs).take 0) c (List.replicate 128 0))).toArray 3 (0, 0)) from (row_full hown).1)
      have U1 := Lib.hid (show Upd NoB w w1 from (Upd.refl _ _).grown hgr (fun k e => by cases e))
      clear hown hgr
      go_wp2_with fail
      refine (HB.out w1 U1.out).mono ?_
      rintro e w2 ⟨v2, rfl, r2, u2⟩
      rw [HPp.out.1] at r2
      obtain ⟨S, c2, rfl⟩ := row_slice r2 (by omega)
      have hS := (r2.lt S rfl).1
      have hG1 := lt_of_block HF.out
      have XW := Lib.hid (show Ints w2 (.slice (some ⟨S, 0, none⟩) 128 c2) (plI s gs) from Ints.ofRow (xs := plI s gs) (by rw [HPp.out.1]; exact r2) (by rw [HPp.out.1]; omega)); have U2 := Lib.hid (U1.out.then u2)
      have HF2 := Lib.hid (u2.heap HF.out (noB _))
      have HAl := Lib.hid (show scL ((plI s gs).take 128) c (List.replicate 128 0) = sc0 (plI s gs) c by rw [List.take_of_length_le (by rw [HPp.out.1]; omega)]; rfl)
      have HLen := Lib.hid (show ∀ k, (scL ((plI s gs).take k) c (List.replicate 128 0)).length = 128 from fun k => by rw [scL_len, List.length_replicate])
      generalize plI s gs = ps at *
      clear r2 u2
      go_wp2_with fail
      go_loopw [23] (fun i wr => ∃ k : Nat, k ≤ 128 ∧ i = .int .i64 k ∧ wr.heap[w.heap.size]? = some (.cells (i64s (scL (ps.take k) c (List.replicate 128 0))).toArray 3 (0, 0)) ∧ Upd NoB w wr ∧ Ints wr (.slice (some ⟨S, 0, none⟩) 128 c2) ps) (fun i _ => 128 - (intOf i).toNat)
      case atStart => exact ⟨0, Nat.zero_le _, rfl, HF2.out, U2.out, XW.out⟩
      case round =>
        obtain ⟨k, hk, rfl, hm, hu, hx⟩ := hrel
        have HM := Lib.hid hm; have HU := Lib.hid hu; have XW2 := Lib.hid hx
        by_cases hlt : k < 128
        · obtain ⟨p, hp⟩ : ∃ p, ps[k]? = some p := ⟨_, List.getElem?_eq_getElem (by rw [HPp.out.1]; exact hlt)⟩
          obtain ⟨p0, p8⟩ := HPp.out.2.2.1 p (List.mem_of_getElem? hp)
          obtain ⟨bb, boff, e, c1⟩ := hx.cellAt hp
          cases e
          rw [Nat.zero_add] at c1
          obtain ⟨pn, rfl⟩ := Int.eq_ofNat_of_zero_le p0
          have hp8 : pn < 128 := by omega
          obtain ⟨x, hxc⟩ : ∃ x, c[k]? = some x := ⟨_, List.getElem?_eq_getElem (by rw [HCl.out]; omega)⟩
          obtain ⟨bc, off, e, c3⟩ := (HC.out.later hu).cellAt hxc
          subst e
          obtain ⟨o, ho⟩ : ∃ o, (scL (ps.take k) c (List.replicate 128 0))[pn]? = some o := ⟨_, List.getElem?_eq_getElem (by rw [HLen.out]; exact hp8)⟩
          have d0 : wr.cell? ⟨w.heap.size, pn, none⟩ = some (.int .i64 o) := by rw [blk_cell hm pn, List.getElem?_toArray, i64s_get, ho]; rfl
          have z0 := blk_free hm pn
          have HN := Lib.hid (show (i64s (scL (ps.take k) c (List.replicate 128 0))).toArray.setIfInBounds pn (.int .i64 x) = (i64s (scL (ps.take (k + 1)) c (List.replicate 128 0))).toArray by
            rw [scL_succ hp hxc, List.setIfInBounds_toArray, Int.toNat_natCast]
            unfold i64s
            rw [List.map_set])
          clear hp hxc hm hu hx p0 p8 ho
          go_wp2_with fail
          go_roundw
          case rel =>
            exact ⟨k + 1, by omega, by go_num, by rw [← HN.out]; exact block_set HM.out _, HU.out.setCell _ (fun h => by have h' : w.heap.size < w.heap.size := h; omega), XW2.out.upd ((Upd.refl (fun j => j = w.heap.size) wr).setCell _ (fun _ => rfl)) (fun _ j hj e => by
              have e1 : S = j := by simpa [Value.ownBlock] using hj
              have e2 : j = w.heap.size := e
              omega)⟩
          case measure => simp [intOf]; omega
        · obtain rfl : k = 128 := by omega
          rw [HAl.out] at HM
          have HL2 := Lib.hid (show (sc0 ps c).length = 128 by rw [← HAl.out]; exact HLen.out _)
          clear hm hu hx
          go_wp2_with fail
          go_ret2
          exact ⟨_, _, _, rfl, by rw [HL2.out]; exact row_of_full (by rw [i64s_length]; exact HL2.out) (by unfold maxLen; omega) (Nat.le_refl _) HM.out, HU.out⟩
    · have HE := Lib.hid (show dfE c.length s gs = 4 by rw [HE0.out, if_neg hn])
      have HS := Lib.hid (show scS c s gs = [] from if_neg (by rw [HE.out]; decide))
      have t1 : ((c.length : Int) != 128) = true := by rw [bne_iff_ne]; omega
      rw [HE.out, HS.out]
      generalize c.length = n at *
      clear h hd hL hn hc
      go_enter Tryd.func27, Tryd.ntmps27
      go_wp2_with fail
      refine HI.out.mono ?_
      rintro e w' ⟨rfl, rfl⟩
      go_wp2_with fail
      go_ret2
      exact ⟨none, 0, 0, rfl, World.ownsRow_nil _ _ _ _, Upd.refl _ _⟩
  | false =>
    have HE := Lib.hid (show dfE c.length s gs = 1 from if_neg (by rw [hd]; simp))
    have HS := Lib.hid (show scS c s gs = [] from if_neg (by rw [HE.out]; decide))
    obtain ⟨a, cap, rfl⟩ := h.form
    rw [hd] at HI
    rw [HS.out, HE.out]
    obtain ⟨L, hL⟩ : ∃ L, gs.length = L := ⟨_, rfl⟩
    rw [hL] at HI ⊢
    clear h hd hL hc
    go_enter Tryd.func27, Tryd.ntmps27
    go_wp2_with fail
    refine HI.out.mono ?_
    rintro e w' ⟨rfl, rfl⟩
    go_wp2_with fail
    go_ret2
    exact ⟨none, 0, 0, rfl, World.ownsRow_nil _ _ _ _, Upd.refl _ _⟩
end Go.Proofs.YtgdndcbcdoogpaaDoor

namespace Go.Proofs.YtgdndcbcdoogpaaDoor
open Go.RowKit Go.Shelf

theorem Ints.cutAt {w : World} {g n cap : Nat} {xs ys : List Int} (f m : Nat) (h : ∀ j x, xs[j]? = some x → w.cell? ⟨g, j, none⟩ = some (.int .i64 x)) (hy : (xs.drop f).take m = ys) (hl : ys.length = n) (hc : n ≤ cap) (hb : n ≤ 1000000) : Ints w (.slice (some ⟨g, f, none⟩) n cap) ys := by
  subst hl
  refine ⟨by omega, _, _, rfl, ⟨hc, fun e => by cases e⟩, .inr ⟨g, f, rfl, fun j x hx => ?_⟩⟩
  rw [← hy, List.getElem?_take] at hx
  split at hx
  · rw [List.getElem?_drop] at hx; exact h _ _ hx
  · cases hx
theorem row_cells {w : World} {base g n cap : Nat} {xs : List Int} (h : w.ownsRow base 3 1 (.slice (some ⟨g, 0, none⟩) n cap) n (i64s xs)) (hn : xs.length = n) : ∀ j x, xs[j]? = some x → w.cell? ⟨g, j, none⟩ = some (.int .i64 x) := fun j x hx => by
  have := (List.getElem?_eq_some_iff.1 hx).1
  rw [h.cellAt j (by omega), i64s_get, hx]; rfl
end Go.Proofs.YtgdndcbcdoogpaaDoor
