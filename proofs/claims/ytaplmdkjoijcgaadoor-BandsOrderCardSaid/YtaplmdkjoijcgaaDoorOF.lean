/- bands: the order's law -/
import Derived.Test.YtaplmdkjoijcgaaDoorOE
namespace Go.Proofs.YtaplmdkjoijcgaaDoor
open Go.RowKit Go.Shelf

theorem Tryd.infoBool : (Tryd.prog.info? 4).map (fun i => (i.zero, i.size, i.bytes)) = some (some (.bool false), 1, 1) := by kernel_rfl
/-- which positions were seen among the first k -/
def snK (ps : List Int) (k : Nat) : List Value := (List.range 128).map fun (i : Nat) => Value.bool (decide ((i : Int) ∈ ps.take k))
theorem snK_zero (ps : List Int) : (madeCells #[Value.bool false] 128).toList = snK ps 0 := by
  rw [toList_madeCells_one]
  unfold snK
  rw [List.take_zero]
  have e : ∀ i ∈ List.range 128, Value.bool (decide ((i : Int) ∈ ([] : List Int))) = Value.bool false := fun i _ => by simp
  rw [List.map_congr_left e, List.map_const', List.length_range]
theorem snK_len (ps : List Int) (k : Nat) : (snK ps k).length = 128 := by unfold snK; simp
theorem snK_get {ps : List Int} {k p : Nat} (hp : p < 128) : (snK ps k)[p]? = some (.bool (decide ((p : Int) ∈ ps.take k))) := by
  unfold snK
  rw [List.getElem?_map, List.getElem?_range hp]; rfl
theorem snK_set {ps : List Int} {k p : Nat} (hp8 : p < 128) (h : ps[k]? = some (p : Int)) : (snK ps k).toArray.setIfInBounds p (.bool true) = (snK ps (k + 1)).toArray := by
  rw [List.setIfInBounds_toArray]
  congr 1
  apply List.ext_getElem?
  intro i
  rw [List.getElem?_set]
  by_cases hi : i < 128
  · rw [snK_get hi, snK_get hi, List.take_add_one, h]
    by_cases e : p = i
    · subst e
      rw [if_pos rfl, if_pos (by rw [snK_len]; exact hi)]
      simp
    · rw [if_neg e]
      have : ¬ (i : Int) = (p : Int) := by omega
      simp [this]
  · rw [if_neg (by omega), List.getElem?_eq_none (by rw [snK_len]; omega), List.getElem?_eq_none (by rw [snK_len]; omega)]
theorem notin_take {ps : List Int} {k : Nat} {p : Int} (hn : ps.Nodup) (h : ps[k]? = some p) : p ∉ ps.take k := by
  rw [← List.take_append_drop k ps, List.nodup_append] at hn
  exact fun hm => hn.2.2 p hm p (List.mem_of_getElem? (i := 0) (by rw [List.getElem?_drop]; exact h)) rfl
set_option maxRecDepth 100000 in
set_option maxHeartbeats 4000000 in
theorem order_law (cv : Value) (c : List Int) (s : Bool) (v : Value) (gs : List Int) (w : World) (hc : Ints w cv c) (h : Ints w v gs) (hg : Gv w) :
    Calls Tryd.prog 7 #[cv, .bool s, v] w fun e w' => e = .returned (.bool true) ∧ Upd NoB w w' := by
  obtain ⟨ca, cc, rfl⟩ := hc.form
  have HC := Lib.hid hc
  have HI := Lib.hid (rIs_any s v gs w h)
  obtain ⟨a, cap, rfl⟩ := h.form
  have HX := Lib.hid h; have HG := Lib.hid hg
  obtain ⟨j0, hj, hy0, hy1, hy2⟩ := info_parts Tryd.infoBool
  obtain ⟨L, hL⟩ : ∃ L, gs.length = L := ⟨_, rfl⟩
  rw [hL] at HX HI ⊢
  clear hc h hg hL
  by_cases hn : c.length = 128
  · have HCl := Lib.hid hn
    rw [hn] at HC ⊢
    clear hn
    by_cases hf : 100 < L
    · have t1 : decide ((100 : Int) < (L : Int)) = true := decide_eq_true (by omega)
      have t1n : decide (100 < L) = true := decide_eq_true hf
      clear hf
      go_enter Tryd.func7, Tryd.ntmps7
      go_wp2_with fail
      refine (awake_any _ HG.out).mono ?_
      rintro e w' ⟨rfl, u1⟩
      have U1 := Lib.hid u1
      clear u1
      go_wp2_with fail
      go_ret
      exact ⟨rfl, U1.out⟩
    · have t1 : decide ((100 : Int) < (L : Int)) = false := decide_eq_false (by omega)
      have t1n : decide (100 < L) = false := decide_eq_false hf
      clear hf
      cases hd : isD s gs with
      | false =>
        rw [hd] at HI
        clear hd
        go_enter Tryd.func7, Tryd.ntmps7
        go_wp2_with fail
        refine HI.out.mono ?_
        rintro e w' ⟨rfl, rfl⟩
        go_wp2_with fail
        refine (awake_any _ HG.out).mono ?_
        rintro e w' ⟨rfl, u1⟩
        have U1 := Lib.hid u1
        clear u1
        go_wp2_with fail
        go_ret
        exact ⟨rfl, U1.out⟩
      | true =>
        rw [hd] at HI
        have HO := Lib.hid (show orS s gs = plI s gs ∧ dE s gs = 0 from ⟨if_pos hd, if_pos hd⟩)
        have HPp := Lib.hid (plI_perm hd)
        have hdf : ∀ n, n = 128 → dfE n s gs = 0 := fun n hn => by unfold dfE; rw [if_pos hd, if_pos hn]
        have hla : (gaL (plI s gs) c).length = 128 := by unfold gaL; rw [List.length_map]; exact (plI_perm hd).1
        have hlx : (sc0 (plI s gs) c).length = 128 := by unfold sc0; rw [scL_len, List.length_replicate]
        have HA := Lib.hid (show gaS c s gs = gaL (plI s gs) c ∧ dfE c.length s gs = 0 from ⟨if_pos (hdf _ HCl.out), hdf _ HCl.out⟩)
        have HSA := Lib.hid (show scS (gaL (plI s gs) c) s gs = c ∧ dfE (gaL (plI s gs) c).length s gs = 0 from ⟨(if_pos (hdf _ hla)).trans (sc_ga HCl.out (plI_perm hd).2.1 (plI_perm hd).2.2.1 (plI_perm hd).2.2.2), hdf _ hla⟩)
        have HSX := Lib.hid (show scS c s gs = sc0 (plI s gs) c ∧ dfE c.length s gs = 0 from ⟨if_pos (hdf _ HCl.out), hdf _ HCl.out⟩)
        have HGX := Lib.hid (show gaS (sc0 (plI s gs) c) s gs = c ∧ dfE (sc0 (plI s gs) c).length s gs = 0 from ⟨(if_pos (hdf _ hlx)).trans (ga_sc (plI_perm hd).1 HCl.out (plI_perm hd).2.1 (plI_perm hd).2.2.1), hdf _ hlx⟩)
        have HLa := Lib.hid hla; have HLx := Lib.hid hlx
        generalize plI s gs = ps at *
        clear hd hdf hla hlx
        go_enter Tryd.func7, Tryd.ntmps7
        go_wp2_with fail
        refine HI.out.mono ?_
        rintro e w' ⟨rfl, rfl⟩
        go_wp2_with fail
        refine (Order_any s _ gs w HX.out HG.out).mono ?_
        rw [HO.out.1, HO.out.2]
        rintro e w2 ⟨a0, n0, c0, rfl, r0, u0⟩
        rw [HPp.out.1] at r0
        obtain rfl := (by have := row_form r0; obtain ⟨_, _, e⟩ := this; injection e : n0 = 128)
        have I2 := Lib.hid (show Ints w2 (.slice a0 128 c0) ps from Ints.ofRow (xs := ps) (by rw [HPp.out.1]; exact r0) (by rw [HPp.out.1]; omega)); have U2 := Lib.hid u0
        clear r0 u0
        go_wp2_with (refine wpList_make_full w2 rfl _ _ 40 rfl w2.heap.size 4 j0 (.bool false) 1 Tryd.underlying40 hj hy0 hy1 .i64 .i64 _ _ 128 rfl rfl rfl rfl ?c1 ?c2 ?c3 ?_)
        case c1 => rw [hy2]; omega
        case c2 => unfold maxLen; omega
        case c3 => exact Nat.le_refl _
        intro w3 hown hgr
        rw [snK_zero ps] at hown
        have u3 : Upd NoB w2 w3 := (Upd.refl _ _).grown hgr (fun k e => by cases e)
        have HF3 := Lib.hid (row_full hown).1; have I3 := Lib.hid (I2.out.later u3); have U3 := Lib.hid (U2.out.then u3)
        have HLt := Lib.hid (fun k (hk : (Value.slice a0 128 c0).ownBlock = some k) => I2.out.lt (by intro e; have := HPp.out.1; rw [e] at this; simp at this) k hk)
        obtain ⟨g, hg⟩ : ∃ g, w2.heap.size = g := ⟨_, rfl⟩
        rw [hg] at HF3 HLt ⊢
        have hgw : w.heap.size ≤ g := by rw [← hg]; exact U2.out.size
        clear hown hgr u3 hg I2
        go_wp2_with fail
        go_loopw [51] (fun i wr => ∃ k : Nat, k ≤ 128 ∧ i = .int .i64 k ∧ wr.heap[g]? = some (.cells (snK ps k).toArray 4 (0, 0)) ∧ Upd (fun q => q = g) w3 wr) (fun i _ => 128 - (intOf i).toNat)
        case atStart => exact ⟨0, Nat.zero_le _, rfl, HF3.out, Upd.refl _ _⟩
        case round =>
          obtain ⟨k, hk, rfl, hm, hu⟩ := hrel
          have HM := Lib.hid hm; have HU := Lib.hid hu
          have Ir := Lib.hid (I3.out.upd hu (fun _ j hj e => by have := HLt.out j hj; have e' : j = g := e; omega))
          by_cases hlt : k < 128
          · obtain ⟨p, hp⟩ : ∃ p, ps[k]? = some p := ⟨_, List.getElem?_eq_getElem (by rw [HPp.out.1]; exact hlt)⟩
            obtain ⟨p0, p8⟩ := HPp.out.2.2.1 p (List.mem_of_getElem? hp)
            obtain ⟨pn, rfl⟩ := Int.eq_ofNat_of_zero_le p0
            have hpn : pn < 128 := by omega
            obtain ⟨bb, off, e, cI⟩ := Ir.out.cellAt hp
            subst e
            have hns := notin_take HPp.out.2.1 hp
            have cB : wr.cell? ⟨g, pn, none⟩ = some (.bool false) := by rw [blk_cell hm pn, List.getElem?_toArray, snK_get hpn, decide_eq_false hns]
            have zB := blk_free hm pn
            have HSt := Lib.hid (snK_set hpn hp)
            clear hp hm hu hns p0 p8
            go_wp2_with fail
            go_roundw
            case rel => exact ⟨k + 1, by omega, by go_num, by rw [← HSt.out]; exact block_set HM.out _, HU.out.setCell _ (fun _ => rfl)⟩
            case measure => simp [intOf]; omega
          · obtain rfl : k = 128 := by omega
            have U4 := Lib.hid (show Upd NoB w wr from (U3.out.trans (hu.mono (T := fun q => q = g) (fun _ _ h => h)) (fun k hk h => by have h' : k = g := h; omega)))
            clear hm hu Ir
            go_wp2_with fail
            refine (Gather_any _ c s _ gs wr (HC.out.later U4.out) (HX.out.later U4.out) (HG.out.later U4.out)).mono ?_
            rw [HA.out.1, HA.out.2]
            rintro e w5 ⟨a1, n1, c1, rfl, r1, u1⟩
            have I5 := Lib.hid (eints_ints r1 (by rw [HLa.out]; omega)); have U5 := Lib.hid (U4.out.then u1)
            clear r1 u1
            go_wp2_with fail
            refine (Scatter_any _ (gaL ps c) s _ gs w5 I5.out (HX.out.later U5.out) (HG.out.later U5.out)).mono ?_
            rw [HSA.out.1, HSA.out.2]
            rintro e w6 ⟨a2, n2, c2, rfl, r2, u2⟩
            have I6 := Lib.hid (eints_ints r2 (by rw [HCl.out]; omega)); have U6 := Lib.hid (U5.out.then u2)
            clear r2 u2 I5
            go_wp2_with fail
            refine (Scatter_any _ c s _ gs w6 (HC.out.later U6.out) (HX.out.later U6.out) (HG.out.later U6.out)).mono ?_
            rw [HSX.out.1, HSX.out.2]
            rintro e w7 ⟨a3, n3, c3, rfl, r3, u3⟩
            have I7 := Lib.hid (eints_ints r3 (by rw [HLx.out]; omega)); have J7 := Lib.hid (I6.out.later u3); have U7 := Lib.hid (U6.out.then u3)
            clear r3 u3 I6
            go_wp2_with fail
            refine (Gather_any _ (sc0 ps c) s _ gs w7 I7.out (HX.out.later U7.out) (HG.out.later U7.out)).mono ?_
            rw [HGX.out.1, HGX.out.2]
            rintro e w8 ⟨a4, n4, c4, rfl, r4, u4⟩
            have I8 := Lib.hid (eints_ints r4 (by rw [HCl.out]; omega)); have J8 := Lib.hid (J7.out.later u4); have U8 := Lib.hid (U7.out.then u4)
            clear r4 u4 I7 J7
            go_wp2_with fail
            refine (qints_any _ _ c c w8 J8.out (HC.out.later U8.out)).mono ?_
            rw [intsB_self]
            rintro e w9 ⟨rfl, m9, hm9⟩
            have u9 : Upd NoB w8 w9 := by rw [hm9]; exact (Upd.refl _ _).draw _
            have I9 := Lib.hid (I8.out.later u9); have U9 := Lib.hid (U8.out.then u9)
            clear hm9 u9 I8 J8
            go_wp2_with fail
            refine (qints_any _ _ c c w9 I9.out (HC.out.later U9.out)).mono ?_
            rw [intsB_self]
            rintro e w10 ⟨rfl, m10, hm10⟩
            have u10 : Upd NoB w9 w10 := by rw [hm10]; exact (Upd.refl _ _).draw _
            have U10 := Lib.hid (U9.out.then u10)
            clear hm10 u10 I9
            go_wp2_with fail
            refine (awake_any _ (HG.out.later U10.out)).mono ?_
            rintro e w11 ⟨rfl, u11⟩
            have U11 := Lib.hid (U10.out.then u11)
            clear u11
            go_wp2_with fail
            go_ret
            exact ⟨rfl, U11.out⟩
  · have t0 : ((c.length : Int) != 128) = true := by rw [bne_iff_ne]; omega
    generalize c.length = n at *
    clear hn
    go_enter Tryd.func7, Tryd.ntmps7
    go_wp2_with fail
    refine (awake_any _ HG.out).mono ?_
    rintro e w' ⟨rfl, u1⟩
    have U1 := Lib.hid u1
    clear u1
    go_wp2_with fail
    go_ret
    exact ⟨rfl, U1.out⟩
end Go.Proofs.YtaplmdkjoijcgaaDoor
