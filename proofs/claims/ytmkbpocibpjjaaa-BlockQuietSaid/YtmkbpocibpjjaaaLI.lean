/- block: Flags -/
import Derived.Test.YtmkbpocibpjjaaaLH
namespace Go.Proofs.Ytmkbpocibpjjaaa
open Go.RowKit Go.Shelf

theorem row_full {w : World} {base : Nat} {e : TypeId} {g n : Nat} {xs : List Value} (h : w.ownsRow base e 1 (.slice (some ⟨g, 0, none⟩) n n) n xs) : w.heap[g]? = some (.cells xs.toArray e (0, 0)) ∧ base ≤ g := by
  rcases h.2 with ⟨e, _⟩ | ⟨g', cap, cur, e, hb, hg, _, _, hs, ht⟩
  · cases e
  · cases e
    refine ⟨?_, hb⟩
    rw [hg, ← ht, List.take_of_length_le (by rw [Array.length_toList, hs]; exact Nat.le_refl _)]
theorem row_of_full {w : World} {base : Nat} {e : TypeId} {g n : Nat} {xs : List Value} (hn : xs.length = n) (hm : n ≤ maxLen) (hb : base ≤ g) (h : w.heap[g]? = some (.cells xs.toArray e (0, 0))) : w.ownsRow base e 1 (.slice (some ⟨g, 0, none⟩) n n) n xs :=
  ⟨by omega, .inr ⟨g, n, _, rfl, hb, h, Nat.le_refl _, hm, by simp [hn], by simp [← hn]⟩⟩
theorem Try.infoBool : (Try.prog.info? 4).map (fun i => (i.zero, i.size, i.bytes)) = some (some (.bool false), 1, 1) := by kernel_rfl
theorem made_false (n : Nat) : (madeCells #[Value.bool false] n).toList = bls (List.replicate n false) := by
  rw [toList_madeCells_one]; simp [bls]
/-- What a function answers that makes a list of flags, or an error. -/
def EBls (w : World) (fs : List Bool) (E : Int) (e : Ending) (w' : World) : Prop := ∃ a n c, e = .returned (.tuple #[.slice a n c, .int .i64 E]) ∧ w'.ownsRow w.heap.size 4 1 (.slice a n c) fs.length (bls fs) ∧ Upd NoB w w'
/-- is an attack at one of the parts of a frame? -/
def flB (es : List Int) (f : Nat) : Bool := (List.range 8).any fun p => attB es (8 * f + p)
theorem flB_yes {es : List Int} {f p : Nat} (hp : p < 8) (h : attB es (8 * f + p) = true) : flB es f = true := List.any_eq_true.2 ⟨p, List.mem_range.2 hp, h⟩
theorem flB_no {es : List Int} {f : Nat} (h : ∀ p, p < 8 → attB es (8 * f + p) = false) : flB es f = false := by
  unfold flB
  rw [List.any_eq_false]
  intro p hp
  rw [h p (List.mem_range.1 hp)]
  simp
def stF (es : List Int) (F k : Nat) : List Bool := (List.range F).map fun f => if f < k then flB es f else false
theorem stF_length (es : List Int) (F k : Nat) : (stF es F k).length = F := by simp [stF]
theorem stF_zero (es : List Int) (F : Nat) : stF es F 0 = List.replicate F false := by
  refine List.ext_getElem (by simp [stF]) fun i h1 h2 => ?_
  simp [stF]
theorem stF_no {es : List Int} {F k : Nat} (h : flB es k = false) : stF es F (k + 1) = stF es F k := by
  refine List.ext_getElem (by simp [stF]) fun i h1 h2 => ?_
  simp only [stF, List.getElem_map, List.getElem_range]
  by_cases e : i = k
  · subst e; rw [if_pos (by omega), if_neg (by omega)]; exact h
  · by_cases h3 : i < k
    · rw [if_pos (by omega), if_pos h3]
    · rw [if_neg (by omega), if_neg h3]
theorem stF_yes {es : List Int} {F k : Nat} (h : flB es k = true) : (bls (stF es F k)).toArray.setIfInBounds k (.bool true) = (bls (stF es F (k + 1))).toArray := by
  rw [List.setIfInBounds_toArray]
  congr 1
  refine List.ext_getElem (by simp [stF, bls]) fun i h1 h2 => ?_
  rw [List.getElem_set]
  simp only [bls, stF, List.getElem_map, List.getElem_range]
  by_cases e : k = i
  · subst e; rw [if_pos rfl, if_pos (by omega), h]
  · rw [if_neg e]
    by_cases h3 : i < k
    · rw [if_pos h3, if_pos (by omega)]
    · rw [if_neg h3, if_neg (by omega)]
def flS (xs : List Int) : List Bool := if ckE xs = 0 then stF (ens xs) (xs.length / 128) (xs.length / 128) else []
set_option maxRecDepth 100000 in
set_option maxHeartbeats 4000000 in
theorem Flags_any (v : Value) (xs : List Int) (w : World) (h : Ints w v xs) : Calls Try.prog 16 #[v] w (EBls w (flS xs) (ckE xs)) := by
  have HP := Lib.hid (Parts_any v xs w h)
  obtain ⟨xa, cap, rfl⟩ := h.form
  by_cases h0 : ckE xs = 0
  · have HO := Lib.hid (ens_ok h0)
    have HS := Lib.hid (show flS xs = stF (ens xs) (xs.length / 128) (xs.length / 128) from if_pos h0)
    have HPa := Lib.hid (show paS xs = ens xs from if_pos h0)
    obtain ⟨g1, g2, g3⟩ := ckE_ok h0
    have hlen := ens_length xs
    rw [HS.out, h0]
    rw [h0, HPa.out] at HP
    obtain ⟨F, hF⟩ : ∃ F, xs.length / 128 = F := ⟨_, rfl⟩
    have hdF : (xs.length : Int) / 128 = (F : Int) := by omega
    have hF64 : F ≤ 64 := by omega
    have hN8 : (ens xs).length = 8 * F := by omega
    rw [hF]
    generalize ens xs = es at *
    generalize xs.length = L0 at *
    have HN8 := Lib.hid hN8
    obtain ⟨i0, hi, hz0, hz1, hz2⟩ := info_parts Try.infoBool
    clear h h0 HS HPa hF g1 g2 g3 hlen hN8
    go_enter Try.func16, Try.ntmps16
    go_wp2_with fail
    go_step3
    go_wp2_with fail
    refine HP.out.mono ?_
    rintro e w1 ⟨a, n, c, rfl, hr, u1⟩
    have hnl : n = es.length := by
      rcases hr.2 with ⟨h1, h2⟩ | ⟨g, cap', cur, h1, _⟩
      · cases h1; exact h2.symm
      · cases h1; rfl
    subst hnl
    have hx1 := Lib.hid (Ints.ofRow hr (by have := HN8.out; omega))
    have U1 := Lib.hid u1
    clear hr u1
    go_wp2_with (refine wpList_make_full w1 rfl _ _ 27 rfl w1.heap.size 4 i0 (.bool false) 1 Try.underlying27 hi hz0 hz1 .i64 .i64 _ _ F rfl rfl rfl rfl ?c1 ?c2 ?c3 ?_)
    case c1 => rw [hz2]; omega
    case c2 => unfold maxLen; omega
    case c3 => exact Nat.le_refl _
    intro w2 hown hgr
    rw [made_false] at hown
    have hu2 : Upd NoB w1 w2 := (Upd.refl _ _).grown hgr (fun k e => by cases e)
    have hfull := (row_full hown).1
    have hg2 := lt_of_block hfull
    obtain ⟨W, hW⟩ : ∃ W, W = w2.alloc (.cells #[.slice a es.length c] 22) := ⟨_, rfl⟩
    have uW : Upd NoB w2 W := by rw [hW]; exact (Upd.refl _ _).alloc _
    have bw : W.heap[w2.heap.size]? = some (.cells #[.slice a es.length c] 22 (0, 0)) := by rw [hW]; exact heap_alloc_new w2 _
    have HW := Lib.hid hW; have UW := Lib.hid (hu2.then uW)
    have HFull := Lib.hid (show W.heap[w1.heap.size]? = some (.cells (bls (stF es F 0)).toArray 4 (0, 0)) by rw [stF_zero]; exact uW.heap hfull (noB _))
    have hxW := (hx1.out.later hu2).later uW
    have HAt := Lib.hid (fun (k : Nat) (hk : k < es.length) (w' : World) (u : Upd (fun q => q = w1.heap.size) W w') => attack1_any w2.heap.size (.slice a es.length c) es k w' (u.cell (blk_cell bw 0) (by simp only; omega)) (hxW.upd u (fun hne j hj => by have := hx1.out.lt hne j hj; omega)) HO.out hk)
    have HG := Lib.hid hg2
    obtain ⟨N, hN⟩ : ∃ N, es.length = N := ⟨_, rfl⟩
    have HN := Lib.hid hN
    rw [hN] at HAt HW ⊢
    have hNF : 8 * F ≤ N := by have := HN8.out; omega
    clear hown hgr hu2 hfull hW uW bw hxW hN hg2
    go_wp2_with (go_at_call 43; refine (attacksIn_any _ _ ⟨_, _, _, rfl⟩).mono ?_; rintro e w' ⟨rfl, rfl⟩; rw [← HW.out])
    go_step3
    go_wp2_with fail
    go_loopw [26] (fun i wr => ∃ k : Nat, k ≤ F ∧ i = .int .i64 k ∧ wr.heap[w1.heap.size]? = some (.cells (bls (stF es F k)).toArray 4 (0, 0)) ∧ Upd (fun q => q = w1.heap.size) W wr) (fun i _ => F - (intOf i).toNat)
    case atStart => exact ⟨0, Nat.zero_le _, rfl, HFull.out, Upd.refl _ _⟩
    case round =>
      obtain ⟨k, hk, rfl, hm, hu⟩ := hrel
      have HM := Lib.hid hm; have HU := Lib.hid hu
      clear hm hu
      by_cases hlt : k < F
      · obtain ⟨wo, rfl⟩ : ∃ wo : World, wo = wr := ⟨_, rfl⟩
        go_wp2_with fail
        go_loopw [9, 29] (fun _ i wr => ∃ p : Nat, p ≤ 8 ∧ i = .int .i64 p ∧ (∀ q, q < p → attB es (8 * k + q) = false) ∧ wr.heap[w1.heap.size]? = some (.cells (bls (stF es F k)).toArray 4 (0, 0)) ∧ Upd (fun q => q = w1.heap.size) W wr) (fun _ i _ => 8 - (intOf i).toNat)
        case atStart => exact ⟨0, Nat.zero_le _, rfl, fun q hq => by omega, HM.out, HU.out⟩
        case round =>
          obtain ⟨p, hp, rfl, hno, hm, hu⟩ := hrel
          have HNo := Lib.hid hno; have HM2 := Lib.hid hm; have HU2 := Lib.hid hu
          clear hno hm hu
          by_cases hlt2 : p < 8
          · have HK := Lib.hid (HAt.out (8 * k + p) (by omega) wr HU2.out)
            rw [show ((8 * k + p : Nat) : Int) = 8 * (k : Int) + (p : Int) by omega] at HK
            cases hb : attB es (8 * k + p) with
            | true =>
              have HB := Lib.hid hb
              have HSt := Lib.hid (stF_yes (F := F) (flB_yes hlt2 hb))
              clear hb
              go_wp2_with fail
              refine HK.out.mono ?_
              rw [HB.out]
              rintro e w3 ⟨rfl, u3⟩
              have hm3 := u3.heap HM2.out (noB _)
              have f3 := blk_free hm3 k
              have c3 : w3.cell? ⟨w1.heap.size, k, none⟩ = some (.bool ((stF es F k).getD k false)) := by
                rw [blk_cell hm3 k, List.getElem?_toArray, bls_get]
                rw [List.getD_eq_getElem?_getD, List.getElem?_eq_getElem (by rw [stF_length]; exact hlt)]
                rfl
              have HM3 := Lib.hid hm3; have U3 := Lib.hid (HU2.out.then u3)
              have kF : (k : Int) < (F : Int) := by omega
              clear hm3 u3
              go_wp2_with fail
              go_roundw
              case rel => exact ⟨k + 1, by omega, by go_num, by have := block_set (i := k) HM3.out (.bool true); rw [HSt.out] at this; exact this, U3.out.setCell _ (fun _ => rfl)⟩
              case measure => simp [intOf]; omega
            | false =>
              have HB := Lib.hid hb
              clear hb
              go_wp2_with fail
              refine HK.out.mono ?_
              rw [HB.out]
              rintro e w3 ⟨rfl, u3⟩
              have U3 := Lib.hid u3; clear u3
              go_wp2_with fail
              go_roundw
              case rel =>
                refine ⟨p + 1, by omega, by go_num, fun q hq => ?_, U3.out.heap HM2.out (noB _), HU2.out.then U3.out⟩
                rcases Nat.lt_or_ge q p with h | h
                · exact HNo.out q h
                · obtain rfl : q = p := by omega
                  exact HB.out
              case measure => simp [intOf]; omega
          · obtain rfl : p = 8 := by omega
            have HSt := Lib.hid (stF_no (F := F) (flB_no HNo.out))
            go_wp2_with fail
            go_roundw
            case rel => exact ⟨k + 1, by omega, by go_num, by rw [HSt.out]; exact HM2.out, HU2.out⟩
            case measure => simp [intOf]; omega
      · obtain rfl : k = F := by omega
        go_wp2_with fail
        go_ret2
        refine ⟨_, _, _, rfl, ?_, ?_⟩
        · rw [stF_length]
          exact row_of_full (by rw [bls_length, stF_length]) (by unfold maxLen; omega) U1.out.size HM.out
        · exact upd_ge (((upd_ge' U1.out w.heap.size).trans (upd_ge' UW.out w.heap.size) (fun _ _ h => h)).trans HU.out (fun j _ e => by have := U1.out.size; omega))
  · have HS := Lib.hid (show flS xs = [] from if_neg h0)
    have t : (ckE xs != 0) = true := by simpa using h0
    rw [HS.out]
    have HPa := Lib.hid (show paS xs = [] from if_neg h0)
    rw [HPa.out] at HP
    generalize ckE xs = E at *
    clear h h0
    go_enter Try.func16, Try.ntmps16
    go_wp2_with fail
    go_step3
    go_wp2_with fail
    refine HP.out.mono ?_
    rintro e w1 ⟨a, n, c, rfl, hr, u1⟩
    have U1 := Lib.hid u1; clear u1 hr
    go_wp2_with fail
    go_ret2
    exact ⟨none, 0, 0, rfl, World.ownsRow_nil _ _ _ _, U1.out⟩
end Go.Proofs.Ytmkbpocibpjjaaa
