/- stereo: Choose, Couple, Part -/
import Derived.Test.YtopjjdfnnjgnlaaUO
import Derived.Test.YtopjjdfnnjgnlaaUN
namespace Go.Proofs.Ytopjjdfnnjgnlaa
open Go.RowKit Go.Shelf

theorem row_full {w : World} {base : Nat} {e : TypeId} {g n : Nat} {xs : List Value} (h : w.ownsRow base e 1 (.slice (some ⟨g, 0, none⟩) n n) n xs) : w.heap[g]? = some (.cells xs.toArray e (0, 0)) ∧ base ≤ g := by
  rcases h.2 with ⟨e, _⟩ | ⟨g', cap, cur, e, hb, hg, _, _, hs, ht⟩
  · cases e
  · cases e
    refine ⟨?_, hb⟩
    rw [hg, ← ht, List.take_of_length_le (by rw [Array.length_toList, hs]; exact Nat.le_refl _)]
theorem row_of_full {w : World} {base : Nat} {e : TypeId} {g n : Nat} {xs : List Value} (hn : xs.length = n) (hm : n ≤ maxLen) (hb : base ≤ g) (h : w.heap[g]? = some (.cells xs.toArray e (0, 0))) : w.ownsRow base e 1 (.slice (some ⟨g, 0, none⟩) n n) n xs :=
  ⟨by omega, .inr ⟨g, n, _, rfl, hb, h, Nat.le_refl _, hm, by simp [hn], by simp [← hn]⟩⟩
theorem Try.infoBool : (Try.prog.info? 4).map (fun i => (i.zero, i.size, i.bytes)) = some (some (.bool false), 1, 1) := by kernel_rfl
theorem made_false (n : Nat) : (madeCells #[Value.bool false] n).toList = bls (List.replicate n false) := by
  rw [toList_madeCells_one]; simp [bls]
def EBls (w : World) (fs : List Bool) (E : Int) (e : Ending) (w' : World) : Prop := ∃ a n c, e = .returned (.tuple #[.slice a n c, .int .i64 E]) ∧ w'.ownsRow w.heap.size 4 1 (.slice a n c) fs.length (bls fs) ∧ Upd NoB w w'
theorem EBls.open {w w' : World} {xs : List Bool} {E : Int} {e : Ending} (h : EBls w xs E e w') (hl : xs.length ≤ 1000000) : ∃ a c, e = .returned (.tuple #[.slice a xs.length c, .int .i64 E]) ∧ Bls w' (.slice a xs.length c) xs ∧ Upd NoB w w' := by
  obtain ⟨a, n, c, rfl, r, u⟩ := h
  obtain ⟨a', c', e⟩ := row_form r
  injection e with e1 e2 e3
  subst e1; subst e2; subst e3
  exact ⟨_, _, rfl, Bls.ofRow r (by omega), u⟩
/-- which bands have a gain above 0 -/
def posL (gs : List Int) : List Bool := gs.map fun g => decide (0 < g)
def posT (gs : List Int) (k : Nat) : List Bool := posL (gs.take k) ++ List.replicate (gs.length - k) false
theorem posT_zero (gs : List Int) : posT gs 0 = List.replicate gs.length false := by simp [posT, posL]
theorem posT_all (gs : List Int) : posT gs gs.length = posL gs := by simp [posT]
theorem posT_len {gs : List Int} {k : Nat} (h : k ≤ gs.length) : (posT gs k).length = gs.length := by simp [posT, posL]; omega
theorem posT_set {gs : List Int} {k : Nat} {g : Int} (h : gs[k]? = some g) : (bls (posT gs k)).toArray.setIfInBounds k (.bool (decide (0 < g))) = (bls (posT gs (k + 1))).toArray := by
  have hk := (List.getElem?_eq_some_iff.1 h).1
  rw [List.setIfInBounds_toArray]
  congr 1
  unfold posT posL bls
  rw [List.take_add_one, h, show gs.length - k = (gs.length - (k + 1)) + 1 by omega, List.replicate_succ]
  simp only [Option.toList_some, List.map_append, List.map_cons, List.map_nil, List.append_assoc, List.cons_append, List.nil_append]
  have hm : min k gs.length = k := by omega
  rw [List.set_append_right _ _ (by simp; omega)]
  simp [hm]
def chS (l r ws : List Int) : List Bool := if chE l r ws 2097152 = 0 then posL (gnL l r ws) else []
set_option maxRecDepth 100000 in
set_option maxHeartbeats 4000000 in
theorem Choose_any (lv rv wv : Value) (l r ws : List Int) (w : World) (hl : Ints w lv l) (hr : Ints w rv r) (hw : Ints w wv ws) : Calls Try.prog 18 #[lv, rv, wv] w (EBls w (chS l r ws) (chE l r ws 2097152)) := by
  have HG := Lib.hid (Gains_any lv rv wv l r ws w hl hr hw)
  by_cases hE : chE l r ws 2097152 = 0
  · have hw1 := (chE_ok hE).1
    have hN8 := (isW_ok hw1).1
    have HS := Lib.hid (show chS l r ws = posL (gnL l r ws) from if_pos hE)
    have HGs := Lib.hid (show gnS l r ws = gnL l r ws from if_pos hE)
    rw [HGs.out, hE] at HG
    rw [HS.out, hE]
    have hlen := gnL_len l r ws
    generalize gnL l r ws = gs at *
    obtain ⟨la, lc, rfl⟩ := hl.form
    obtain ⟨ra, rc, rfl⟩ := hr.form
    obtain ⟨wa, wc, rfl⟩ := hw.form
    generalize l.length = L at *
    generalize r.length = R at *
    rw [← hlen] at hN8
    generalize ws.length = N0 at *
    have H0 := Lib.hid (posT_zero gs); have HA := Lib.hid (posT_all gs); have HSt := Lib.hid (fun k g (h : gs[k]? = some g) => posT_set h); have HPl := Lib.hid (show (posL gs).length = gs.length by simp [posL])
    obtain ⟨N, hN⟩ : ∃ N, gs.length = N := ⟨_, rfl⟩
    have HN := Lib.hid hN
    rw [hN] at hN8 H0 HA HPl
    obtain ⟨i0, hi, hz0, hz1, hz2⟩ := info_parts Try.infoBool
    clear hl hr hw hE hw1 hlen hN
    go_enter Try.func18, Try.ntmps18
    go_wp2_with fail
    refine HG.out.mono ?_
    intro e w1 hr
    obtain ⟨a1, c1, rfl, i1, u1⟩ := EInts.open hr (by rw [HN.out]; omega)
    rw [HN.out] at i1 ⊢
    have I1 := Lib.hid i1; have U1 := Lib.hid u1
    clear hr i1 u1
    go_wp2_with (refine wpList_make_full w1 rfl _ _ 27 rfl w1.heap.size 4 i0 (.bool false) 1 Try.underlying27 hi hz0 hz1 .i64 .i64 _ _ N rfl rfl rfl rfl ?c1 ?c2 ?c3 ?_)
    case c1 => rw [hz2]; omega
    case c2 => unfold maxLen; omega
    case c3 => exact Nat.le_refl _
    intro w2 hown hgr
    rw [made_false] at hown
    have hu2 : Upd NoB w1 w2 := (Upd.refl _ _).grown hgr (fun k e => by cases e)
    have hfull := (row_full hown).1
    rw [← H0.out] at hfull
    have HFull := Lib.hid hfull; have U2 := Lib.hid hu2
    obtain ⟨G, hG⟩ : ∃ G, w1.heap.size = G := ⟨_, rfl⟩
    have HG1 := Lib.hid hG
    rw [hG] at HFull ⊢
    clear hown hgr hu2 hfull hG
    go_wp2_with fail
    go_loopw [28] (fun i wr => ∃ k : Nat, k ≤ N ∧ i = .int .i64 k ∧ wr.heap[G]? = some (.cells (bls (posT gs k)).toArray 4 (0, 0)) ∧ Upd (fun q => q = G) w2 wr) (fun i _ => N - (intOf i).toNat)
    case atStart => exact ⟨0, Nat.zero_le _, rfl, HFull.out, Upd.refl _ _⟩
    case round =>
      obtain ⟨k, hk, rfl, hb, hu⟩ := hrel
      by_cases hlt : k < N
      · obtain ⟨x, hx⟩ : ∃ x, gs[k]? = some x := ⟨_, List.getElem?_eq_getElem (by rw [HN.out]; exact hlt)⟩
        have hgs0 : gs ≠ [] := by rintro rfl; simp at hx
        obtain ⟨bb, off, rfl, c0⟩ := ((I1.out.later U2.out).upd hu (fun _ j hj e => by have := I1.out.lt hgs0 j hj; have := HG1.out; omega)).cellAt hx
        have hlen : (bls (posT gs k)).toArray.size = N := by rw [List.size_toArray, bls_length, posT_len (by rw [HN.out]; exact hk), HN.out]
        obtain ⟨z, hz⟩ : ∃ z, (bls (posT gs k)).toArray[k]? = some z := ⟨_, Array.getElem?_eq_getElem (by omega)⟩
        have d0 : wr.cell? ⟨G, k, none⟩ = some z := (blk_cell hb k).trans hz
        have f0 := blk_free hb k
        have HX := Lib.hid (HSt.out k x hx); have HB := Lib.hid hb; have HU := Lib.hid hu
        have q1 : (k : Int) < (N : Int) := by omega
        clear hx hgs0 hlen hz hb hu
        go_wp2_with fail
        go_roundw
        case rel => exact ⟨k + 1, by omega, by go_num, by rw [← HX.out]; exact block_set HB.out _, HU.out.setCell (p := ⟨G, k, none⟩) _ (fun _ => rfl)⟩
        case measure => simp [intOf]; omega
      · obtain rfl : k = N := by omega
        have HB := Lib.hid hb; have HU := Lib.hid hu
        clear hb hu hlt
        go_wp2_with fail
        go_ret2
        have hb := HB.out
        rw [HA.out] at hb
        have hs1 := U1.out.size
        refine ⟨_, _, _, rfl, ?_, ?_⟩
        · rw [HPl.out]
          exact row_of_full (by rw [bls_length, HPl.out]) (by unfold maxLen; omega) (by have := HG1.out; omega) hb
        · exact (U1.out.then U2.out).trans HU.out (fun j hj e => by have := HG1.out; have e : j = G := e; omega)
  · have HS := Lib.hid (show chS l r ws = [] from if_neg hE)
    have HGs := Lib.hid (show gnS l r ws = [] from if_neg hE)
    rw [HGs.out] at HG
    rw [HS.out]
    generalize chE l r ws 2097152 = E at *
    obtain ⟨la, lc, rfl⟩ := hl.form
    obtain ⟨ra, rc, rfl⟩ := hr.form
    obtain ⟨wa, wc, rfl⟩ := hw.form
    have t1 : (E != 0) = true := bne_iff_ne.2 hE
    generalize l.length = L at *
    generalize r.length = R at *
    generalize ws.length = N at *
    clear hl hr hw hE
    go_enter Try.func18, Try.ntmps18
    go_wp2_with fail
    refine HG.out.mono ?_
    rintro e w2 ⟨a2, n2, c2, rfl, r2, u2⟩
    have U2 := Lib.hid u2
    clear u2 r2
    go_wp2_with fail
    go_ret2
    exact ⟨none, 0, 0, rfl, World.ownsRow_nil _ _ _ _, U2.out⟩
/-- Two lists and an error. -/
def ETwo (w : World) (xs ys : List Int) (E : Int) (e : Ending) (w' : World) : Prop := ∃ a n c b m d, e = .returned (.tuple #[.slice a n c, .slice b m d, .int .i64 E]) ∧ w'.ownsRow w.heap.size 3 1 (.slice a n c) xs.length (i64s xs) ∧ w'.ownsRow w.heap.size 3 1 (.slice b m d) ys.length (i64s ys) ∧ Upd NoB w w'
theorem ETwo.open {w w' : World} {xs ys : List Int} {E : Int} {e : Ending} (h : ETwo w xs ys E e w') (hl : xs.length ≤ 1000000) (hl2 : ys.length ≤ 1000000) : ∃ a c b d, e = .returned (.tuple #[.slice a xs.length c, .slice b ys.length d, .int .i64 E]) ∧ Ints w' (.slice a xs.length c) xs ∧ Ints w' (.slice b ys.length d) ys ∧ Upd NoB w w' := by
  obtain ⟨a, n, c, b, m, d, rfl, r, r2, u⟩ := h
  obtain ⟨a', c', e⟩ := row_form r
  injection e with e1 e2 e3
  subst e1; subst e2; subst e3
  obtain ⟨a', c', e⟩ := row_form r2
  injection e with e1 e2 e3
  subst e1; subst e2; subst e3
  exact ⟨_, _, _, _, rfl, Ints.ofRow r (by omega), Ints.ofRow r2 (by omega), u⟩
def couA (tn : Int × Int → Int × Int) (M : Int) (l r ws : List Int) (mid : List Bool) : List Int := if cpE l r ws mid M = 0 then cpA tn l r ws mid 128 else []
def couB (tn : Int × Int → Int × Int) (M : Int) (l r ws : List Int) (mid : List Bool) : List Int := if cpE l r ws mid M = 0 then cpB tn l r ws mid 128 else []
theorem cpA_len (tn : Int × Int → Int × Int) (l r ws : List Int) (mid : List Bool) (n : Nat) : (cpA tn l r ws mid n).length = n := by simp [cpA]
theorem cpB_len (tn : Int × Int → Int × Int) (l r ws : List Int) (mid : List Bool) (n : Nat) : (cpB tn l r ws mid n).length = n := by simp [cpB]
set_option maxRecDepth 100000 in
set_option maxHeartbeats 4000000 in
theorem Couple_any (lv rv wv mv : Value) (l r ws : List Int) (mid : List Bool) (w : World) (hl : Ints w lv l) (hr : Ints w rv r) (hw : Ints w wv ws) (hm : Bls w mv mid) : Calls Try.prog 26 #[lv, rv, wv, mv] w (ETwo w (couA midP 2097152 l r ws mid) (couB midP 2097152 l r ws mid) (cpE l r ws mid 2097152)) := by
  obtain ⟨ma, mc, rfl⟩ := hm.form
  have HC := Lib.hid (coupling_any lv rv wv ma mc mid.length l r ws mid 2097152 w (by decide) hl hr hw rfl)
  by_cases hE : cpE l r ws mid 2097152 = 0
  · obtain ⟨hK, hE2⟩ := cpE_ok hE
    obtain ⟨h1, h2, h3, h4, h5⟩ := chE_ok hE2
    have HT := Lib.hid (fun g c m1 V (u : Upd NoB w V) (hp : PrsA V g 0 (P2 l r) 128) (hc : 128 ≤ c) (hm1 : V.cell? ⟨m1, 0, none⟩ = some (.slice ma ws.length mc)) (hm2 : V.cell? ⟨m1 + 1, 0, none⟩ = some (.func (.func 59) #[] #[])) =>
      turnedM_any g c m1 mc ma wv l r ws mid V h1 (hw.later u) hp hc (fun i => (P2_in (by decide) h4 h5 i).mono (by decide)) hK hm1 hm2 (by rw [← hK]; exact hm.later u))
    have HS := Lib.hid (show couA midP 2097152 l r ws mid = cpA midP l r ws mid 128 from if_pos hE)
    have HS2 := Lib.hid (show couB midP 2097152 l r ws mid = cpB midP l r ws mid 128 from if_pos hE)
    have HL1 := Lib.hid (cpA_len midP l r ws mid 128); have HL2 := Lib.hid (cpB_len midP l r ws mid 128)
    rw [hE] at HC ⊢
    rw [HS.out, HS2.out]
    generalize cpA midP l r ws mid 128 = A at *
    generalize cpB midP l r ws mid 128 = B at *
    rw [hK] at HC ⊢
    obtain ⟨la, lc, rfl⟩ := hl.form
    obtain ⟨ra, rc, rfl⟩ := hr.form
    obtain ⟨wa, wc, rfl⟩ := hw.form
    generalize l.length = L at *
    generalize r.length = R at *
    obtain ⟨N, hN⟩ : ∃ N, ws.length = N := ⟨_, rfl⟩
    rw [hN] at HC HT ⊢
    clear hl hr hw hm hE hE2 h1 h2 h3 h4 h5 hN hK
    go_enter Try.func26, Try.ntmps26
    go_wp2_with fail
    refine HC.out.mono ?_
    rintro e w2 ⟨u2, hr⟩
    rw [if_pos rfl] at hr
    obtain ⟨g, c, rfl, hc, hp, _⟩ := hr
    have u3 : Upd NoB w2 (w2.alloc (.cells #[.slice (some ⟨g, 0, none⟩) 128 c, .slice wa N wc] 51)) := (Upd.refl _ _).alloc _
    have HP3 := Lib.hid (hp.later u3); have U3 := Lib.hid (u2.then u3); have HCc := Lib.hid hc
    have hb3 := heap_alloc_new w2 (.cells #[.slice (some ⟨g, 0, none⟩) 128 c, .slice wa N wc] 51)
    clear u2 u3 hp hc
    go_upto_region 4 with fail
    generalize w2.alloc (.cells #[.slice (some ⟨g, 0, none⟩) 128 c, .slice wa N wc] 51) = w3 at *
    generalize w2.heap.size = g3 at *
    have HB3 := Lib.hid hb3
    have d0 := cell_of_block0 hb3
    have d1 := cell_of_block1 hb3
    have dd0 := cell_of_block0 (show w3.drew.heap[g3]? = _ from hb3)
    have dd1 := cell_of_block1 (show w3.drew.heap[g3]? = _ from hb3)
    clear hb3
    go_region_with (first
      | (go_at_call 58; (with_reducible refine (choice_any (.slice ma N mc) 59 _ ⟨_, _, _, rfl⟩).mono ?_); rintro e w4 ⟨rfl, hw4⟩; have H4 := Lib.hid hw4; have n4 := boxes2 w3.drew (.cells #[.slice ma N mc] 27) (.cells #[.func (.func 59) #[] #[]] 63); rw [← hw4] at n4; have U4 := Lib.hid (show Upd NoB w w4 from U3.out.drew.then n4.2.2); have HT4 := Lib.hid (HT.out g c w3.heap.size w4 U4.out (HP3.out.later ((Upd.refl NoB w3).drew.then n4.2.2)) HCc.out (blk_cell n4.1 0) (blk_cell n4.2.1 0)); have e0 := cell_of_block0 (n4.2.2.heap (show w3.drew.heap[g3]? = _ from HB3.out) (noB _)); have e1 := cell_of_block1 (n4.2.2.heap (show w3.drew.heap[g3]? = _ from HB3.out) (noB _)); clear hw4 n4)
      | (go_at_call 57; (with_reducible refine HT4.out.mono ?_); rintro e w5 ⟨a5, c5, b5, d5, rfl, r5, r6, u5⟩; have R5 := Lib.hid (row_base r5 U4.out.size); have R6 := Lib.hid (row_base r6 U4.out.size); have U5 := Lib.hid (U4.out.then u5); clear r5 r6 u5))
    all_goals
      go_wp2_with fail
      go_ret3
      exact ⟨_, _, _, _, _, _, rfl, by rw [HL1.out]; exact R5.out, by rw [HL2.out]; exact R6.out, U5.out⟩
  · have HS := Lib.hid (show couA midP 2097152 l r ws mid = [] from if_neg hE)
    have HS2 := Lib.hid (show couB midP 2097152 l r ws mid = [] from if_neg hE)
    rw [HS.out, HS2.out]
    generalize cpE l r ws mid 2097152 = E at *
    obtain ⟨la, lc, rfl⟩ := hl.form
    obtain ⟨ra, rc, rfl⟩ := hr.form
    obtain ⟨wa, wc, rfl⟩ := hw.form
    have HEn := Lib.hid hE
    have t1 : (E != 0) = true := bne_iff_ne.2 hE
    generalize l.length = L at *
    generalize r.length = R at *
    generalize ws.length = N at *
    generalize mid.length = K at *
    clear hl hr hw hm hE
    go_enter Try.func26, Try.ntmps26
    go_wp2_with fail
    refine HC.out.mono ?_
    rintro e w2 ⟨u2, hr⟩
    rw [if_neg HEn.out] at hr
    subst hr
    have U2 := Lib.hid u2
    clear u2
    go_wp2_with fail
    go_ret3
    exact ⟨none, 0, 0, none, 0, 0, rfl, World.ownsRow_nil _ _ _ _, World.ownsRow_nil _ _ _ _, U2.out.alloc _⟩
set_option maxRecDepth 100000 in
set_option maxHeartbeats 4000000 in
theorem Part_any (lv rv wv mv : Value) (l r ws : List Int) (mid : List Bool) (w : World) (hl : Ints w lv l) (hr : Ints w rv r) (hw : Ints w wv ws) (hm : Bls w mv mid) : Calls Try.prog 28 #[lv, rv, wv, mv] w (ETwo w (couA sidP 8388608 l r ws mid) (couB sidP 8388608 l r ws mid) (cpE l r ws mid 8388608)) := by
  obtain ⟨ma, mc, rfl⟩ := hm.form
  have HC := Lib.hid (coupling_any lv rv wv ma mc mid.length l r ws mid 8388608 w (by decide) hl hr hw rfl)
  by_cases hE : cpE l r ws mid 8388608 = 0
  · obtain ⟨hK, hE2⟩ := cpE_ok hE
    obtain ⟨h1, h2, h3, h4, h5⟩ := chE_ok hE2
    have HT := Lib.hid (fun g c m1 V (u : Upd NoB w V) (hp : PrsA V g 0 (P2 l r) 128) (hc : 128 ≤ c) (hm1 : V.cell? ⟨m1, 0, none⟩ = some (.slice ma ws.length mc)) (hm2 : V.cell? ⟨m1 + 1, 0, none⟩ = some (.func (.func 62) #[] #[])) =>
      turnedS_any g c m1 mc ma wv l r ws mid V h1 (hw.later u) hp hc (fun i => (P2_in (by decide) h4 h5 i).mono (by decide)) hK hm1 hm2 (by rw [← hK]; exact hm.later u))
    have HS := Lib.hid (show couA sidP 8388608 l r ws mid = cpA sidP l r ws mid 128 from if_pos hE)
    have HS2 := Lib.hid (show couB sidP 8388608 l r ws mid = cpB sidP l r ws mid 128 from if_pos hE)
    have HL1 := Lib.hid (cpA_len sidP l r ws mid 128); have HL2 := Lib.hid (cpB_len sidP l r ws mid 128)
    rw [hE] at HC ⊢
    rw [HS.out, HS2.out]
    generalize cpA sidP l r ws mid 128 = A at *
    generalize cpB sidP l r ws mid 128 = B at *
    rw [hK] at HC ⊢
    obtain ⟨la, lc, rfl⟩ := hl.form
    obtain ⟨ra, rc, rfl⟩ := hr.form
    obtain ⟨wa, wc, rfl⟩ := hw.form
    generalize l.length = L at *
    generalize r.length = R at *
    obtain ⟨N, hN⟩ : ∃ N, ws.length = N := ⟨_, rfl⟩
    rw [hN] at HC HT ⊢
    clear hl hr hw hm hE hE2 h1 h2 h3 h4 h5 hN hK
    go_enter Try.func28, Try.ntmps28
    go_wp2_with fail
    refine HC.out.mono ?_
    rintro e w2 ⟨u2, hr⟩
    rw [if_pos rfl] at hr
    obtain ⟨g, c, rfl, hc, hp, _⟩ := hr
    have u3 : Upd NoB w2 (w2.alloc (.cells #[.slice (some ⟨g, 0, none⟩) 128 c, .slice wa N wc] 51)) := (Upd.refl _ _).alloc _
    have HP3 := Lib.hid (hp.later u3); have U3 := Lib.hid (u2.then u3); have HCc := Lib.hid hc
    have hb3 := heap_alloc_new w2 (.cells #[.slice (some ⟨g, 0, none⟩) 128 c, .slice wa N wc] 51)
    clear u2 u3 hp hc
    go_upto_region 4 with fail
    generalize w2.alloc (.cells #[.slice (some ⟨g, 0, none⟩) 128 c, .slice wa N wc] 51) = w3 at *
    generalize w2.heap.size = g3 at *
    have HB3 := Lib.hid hb3
    have d0 := cell_of_block0 hb3
    have d1 := cell_of_block1 hb3
    have dd0 := cell_of_block0 (show w3.drew.heap[g3]? = _ from hb3)
    have dd1 := cell_of_block1 (show w3.drew.heap[g3]? = _ from hb3)
    clear hb3
    go_region_with (first
      | (go_at_call 58; (with_reducible refine (choice_any (.slice ma N mc) 62 _ ⟨_, _, _, rfl⟩).mono ?_); rintro e w4 ⟨rfl, hw4⟩; have H4 := Lib.hid hw4; have n4 := boxes2 w3.drew (.cells #[.slice ma N mc] 27) (.cells #[.func (.func 62) #[] #[]] 63); rw [← hw4] at n4; have U4 := Lib.hid (show Upd NoB w w4 from U3.out.drew.then n4.2.2); have HT4 := Lib.hid (HT.out g c w3.heap.size w4 U4.out (HP3.out.later ((Upd.refl NoB w3).drew.then n4.2.2)) HCc.out (blk_cell n4.1 0) (blk_cell n4.2.1 0)); have e0 := cell_of_block0 (n4.2.2.heap (show w3.drew.heap[g3]? = _ from HB3.out) (noB _)); have e1 := cell_of_block1 (n4.2.2.heap (show w3.drew.heap[g3]? = _ from HB3.out) (noB _)); clear hw4 n4)
      | (go_at_call 57; (with_reducible refine HT4.out.mono ?_); rintro e w5 ⟨a5, c5, b5, d5, rfl, r5, r6, u5⟩; have R5 := Lib.hid (row_base r5 U4.out.size); have R6 := Lib.hid (row_base r6 U4.out.size); have U5 := Lib.hid (U4.out.then u5); clear r5 r6 u5))
    all_goals
      go_wp2_with fail
      go_ret3
      exact ⟨_, _, _, _, _, _, rfl, by rw [HL1.out]; exact R5.out, by rw [HL2.out]; exact R6.out, U5.out⟩
  · have HS := Lib.hid (show couA sidP 8388608 l r ws mid = [] from if_neg hE)
    have HS2 := Lib.hid (show couB sidP 8388608 l r ws mid = [] from if_neg hE)
    rw [HS.out, HS2.out]
    generalize cpE l r ws mid 8388608 = E at *
    obtain ⟨la, lc, rfl⟩ := hl.form
    obtain ⟨ra, rc, rfl⟩ := hr.form
    obtain ⟨wa, wc, rfl⟩ := hw.form
    have HEn := Lib.hid hE
    have t1 : (E != 0) = true := bne_iff_ne.2 hE
    generalize l.length = L at *
    generalize r.length = R at *
    generalize ws.length = N at *
    generalize mid.length = K at *
    clear hl hr hw hm hE
    go_enter Try.func28, Try.ntmps28
    go_wp2_with fail
    refine HC.out.mono ?_
    rintro e w2 ⟨u2, hr⟩
    rw [if_neg HEn.out] at hr
    subst hr
    have U2 := Lib.hid u2
    clear u2
    go_wp2_with fail
    go_ret3
    exact ⟨none, 0, 0, none, 0, 0, rfl, World.ownsRow_nil _ _ _ _, World.ownsRow_nil _ _ _ _, U2.out.alloc _⟩
end Go.Proofs.Ytopjjdfnnjgnlaa
