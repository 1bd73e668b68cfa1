/- bands: Order of the program; Order, Gather and Scatter of the reference -/
import Derived.Test.YtaplmdkjoijcgaaDoorNY
namespace Go.Proofs.YtaplmdkjoijcgaaDoor
open Go.RowKit Go.Shelf

def orS (s : Bool) (gs : List Int) : List Int := if isD s gs then plI s gs else []
theorem gaL_id {ps : List Int} (h : ∀ p ∈ ps, 0 ≤ p ∧ p < 128) : gaL ps idL = ps := by
  unfold gaL
  conv => rhs; rw [← List.map_id ps]
  apply List.map_congr_left
  intro p hp
  obtain ⟨h0, h1⟩ := h p hp
  unfold idL
  rw [List.getD_eq_getElem?_getD, List.getElem?_map, List.getElem?_range (by omega)]
  simp; omega
theorem gaS_id (s : Bool) (gs : List Int) : gaS idL s gs = orS s gs ∧ dfE idL.length s gs = dE s gs := by
  have hl : idL.length = 128 := by unfold idL; simp
  unfold gaS orS dfE dE
  rw [hl]
  by_cases h : isD s gs = true
  · rw [if_pos h, if_pos rfl, if_pos rfl, if_pos h, if_pos h]
    exact ⟨gaL_id (plI_perm h).2.2.1, rfl⟩
  · rw [if_neg h, if_neg (by decide), if_neg h, if_neg h]
    exact ⟨rfl, rfl⟩
def idK (k : Nat) : List Int := ((List.range k).map fun (k : Nat) => (k : Int)) ++ List.replicate (128 - k) 0
theorem idK_set {k : Nat} (h : k < 128) : (i64s (idK k)).toArray.setIfInBounds k (.int .i64 (k : Int)) = (i64s (idK (k + 1))).toArray := by
  rw [List.setIfInBounds_toArray]
  congr 1
  unfold idK i64s
  rw [mp_succ, show 128 - k = (128 - (k + 1)) + 1 by omega, List.replicate_succ]
  simp only [List.map_append, List.map_cons]
  rw [List.set_append_right _ _ (by simp)]
  simp
theorem idK_get {k : Nat} (h : k < 128) : (i64s (idK k)).toArray[k]? = some (.int .i64 0) := by
  rw [List.getElem?_toArray, i64s_get]
  unfold idK
  rw [List.getElem?_append_right (by simp), List.length_map, List.length_range, Nat.sub_self, show 128 - k = (128 - (k + 1)) + 1 by omega, List.replicate_succ]; rfl
theorem idK_end : idK 128 = idL := by unfold idK idL; simp
set_option maxRecDepth 100000 in
set_option maxHeartbeats 4000000 in
theorem Order_any (s : Bool) (v : Value) (gs : List Int) (w : World) (h : Ints w v gs) (hg : Gv w) : Calls Tryd.prog 19 #[.bool s, v] w (EInts w (orS s gs) (dE s gs)) := by
  obtain ⟨a, cap, rfl⟩ := h.form
  obtain ⟨i0, hi, hz0, hz1, hz2⟩ := info_parts Tryd.infoInt
  have HX := Lib.hid h; have HG := Lib.hid hg
  have HI := Lib.hid (gaS_id s gs)
  obtain ⟨L, hL⟩ : ∃ L, gs.length = L := ⟨_, rfl⟩
  rw [hL] at HX ⊢
  clear h hg hL
  go_enter Tryd.func19, Tryd.ntmps19
  go_wp2_with (refine wpList_make_full w rfl _ _ 22 rfl w.heap.size 3 i0 (.int .i64 0) 1 Tryd.underlying22 hi hz0 hz1 .i64 .i64 _ _ 128 rfl rfl rfl rfl ?c1 ?c2 ?c3 ?_)
  case c1 => rw [hz2]; omega
  case c2 => unfold maxLen; omega
  case c3 => exact Nat.le_refl _
  intro w2 hown hgr
  rw [made_zero] at hown
  have HF := Lib.hid (show w2.heap[w.heap.size]? = some (.cells (i64s (idK 0)).toArray 3 (0, 0)) from (row_full hown).1)
  have U2 := Lib.hid (show Upd NoB w w2 from (Upd.refl _ _).grown hgr (fun k e => by cases e))
  clear hown hgr
  go_wp2_with fail
  go_loopw [11] (fun i wr => ∃ k : Nat, k ≤ 128 ∧ i = .int .i64 k ∧ wr.heap[w.heap.size]? = some (.cells (i64s (idK k)).toArray 3 (0, 0)) ∧ Upd NoB w wr) (fun i _ => 128 - (intOf i).toNat)
  case atStart => exact ⟨0, Nat.zero_le _, rfl, HF.out, U2.out⟩
  case round =>
    obtain ⟨k, hk, rfl, hm, hu⟩ := hrel
    have HM := Lib.hid hm; have HU := Lib.hid hu
    by_cases hlt : k < 128
    · have c0 : wr.cell? ⟨w.heap.size, k, none⟩ = some (.int .i64 0) := by rw [blk_cell hm k]; exact idK_get hlt
      have z0 := blk_free hm k
      have HSt := Lib.hid (idK_set hlt)
      clear hm hu
      go_wp2_with fail
      go_roundw
      case rel => exact ⟨k + 1, by omega, by go_num, by rw [← HSt.out]; exact block_set HM.out _, HU.out.setCell _ (fun h => by have h' : w.heap.size < w.heap.size := h; omega)⟩
      case measure => simp [intOf]; omega
    · obtain rfl : k = 128 := by omega
      rw [idK_end] at hm
      have HIn := Lib.hid (show Ints wr (.slice (some ⟨w.heap.size, 0, none⟩) 128 128) idL from Ints.ofBlock (xs := idL) (by decide) hm)
      clear hm hu
      go_wp2_with fail
      refine (Gather_any _ idL s _ gs wr HIn.out (HX.out.later HU.out) (HG.out.later HU.out)).mono ?_
      rw [HI.out.1, HI.out.2]
      rintro e w3 ⟨a3, n3, c3, rfl, r3, u3⟩
      have R3 := Lib.hid (row_base r3 HU.out.size); have U3 := Lib.hid (HU.out.then u3)
      clear r3 u3
      go_wp2_with fail
      go_ret2
      exact ⟨_, _, _, rfl, R3.out, U3.out⟩
set_option maxRecDepth 100000 in
set_option maxHeartbeats 2000000 in
theorem rOrder_any (s : Bool) (v : Value) (gs : List Int) (w : World) (h : Ints w v gs) : Calls Tryd.prog 20 #[.bool s, v] w (EInts w (orS s gs) (dE s gs)) := by
  have HI := Lib.hid (rIs_any s v gs w h)
  cases hd : isD s gs with
  | true =>
    have HS := Lib.hid (show orS s gs = plI s gs from if_pos hd)
    have HE := Lib.hid (show dE s gs = 0 from if_pos hd)
    have HB := Lib.hid (rPlaces_any s v gs w h hd)
    obtain ⟨a, cap, rfl⟩ := h.form
    rw [hd] at HI
    rw [HS.out, HE.out]
    obtain ⟨L, hL⟩ : ∃ L, gs.length = L := ⟨_, rfl⟩
    rw [hL] at HI HB ⊢
    clear h hd hL
    go_enter Tryd.func20, Tryd.ntmps20
    go_wp2_with fail
    refine HI.out.mono ?_
    rintro e w' ⟨rfl, rfl⟩
    go_wp2_with fail
    refine HB.out.mono ?_
    rintro e w2 ⟨v2, rfl, r2, u2⟩
    obtain ⟨a2, c2, rfl⟩ := row_form r2
    have R2 := Lib.hid r2; have U2 := Lib.hid u2
    clear r2 u2
    go_wp2_with fail
    go_ret2
    exact ⟨_, _, _, rfl, R2.out, U2.out⟩
  | false =>
    have HS := Lib.hid (show orS s gs = [] from if_neg (by rw [hd]; simp))
    have HE := Lib.hid (show dE s gs = 1 from if_neg (by rw [hd]; simp))
    obtain ⟨a, cap, rfl⟩ := h.form
    rw [hd] at HI
    rw [HS.out, HE.out]
    obtain ⟨L, hL⟩ : ∃ L, gs.length = L := ⟨_, rfl⟩
    rw [hL] at HI ⊢
    clear h hd hL
    go_enter Tryd.func20, Tryd.ntmps20
    go_wp2_with fail
    refine HI.out.mono ?_
    rintro e w' ⟨rfl, rfl⟩
    go_wp2_with fail
    go_ret2
    exact ⟨none, 0, 0, rfl, World.ownsRow_nil _ _ _ _, Upd.refl _ _⟩
end Go.Proofs.YtaplmdkjoijcgaaDoor
