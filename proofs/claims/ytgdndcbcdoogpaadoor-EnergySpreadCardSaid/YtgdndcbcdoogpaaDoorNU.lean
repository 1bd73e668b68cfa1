/- bands: gathered -/
import Derived.Test.YtgdndcbcdoogpaaDoorGd
import Derived.OwnWalk
namespace Go.Proofs.YtgdndcbcdoogpaaDoor
open Go.RowKit Go.Shelf
attribute [local go_sem] Oper.semAt_some

theorem pieces1_seq (B n : Nat) (ln : Int) (aw ag : Option Addr) (ws gs : List Int) (cw cg : Nat) (R : Nat → Prop) (hln : 0 ≤ ln ∧ ln ≤ 128) (bw : ws.length ≤ 15 ∧ ∀ x ∈ ws, 0 ≤ x ∧ x ≤ 128) (bg : gs.length ≤ 8 ∧ ∀ x ∈ gs, 0 ≤ x ∧ x ≤ 8) (w : World)
    (hb : w.heap[B]? = some (.cells #[.int .i64 ln, .slice aw ws.length cw, .slice ag gs.length cg] 52 (0, 0)))
    (hw : Ints w (.slice aw ws.length cw) ws) (hg : Ints w (.slice ag gs.length cg) gs) (hRB : ¬ R B) (hRw : ∀ b, (Value.slice aw ws.length cw).ownBlock = some b → ¬ R b) (hRg : ∀ b, (Value.slice ag gs.length cg).ownBlock = some b → ¬ R b)
    (hRl : ∀ k, R k → k < w.heap.size) :
    SeqP Fence.wide n Tryd.prog 87 #[.pointer (some ⟨B, 0, none⟩)] encP (KpC R) (fun pre x _ => pre ++ [x] <+: pcL ln ws gs) (fun xs => xs = pcL ln ws gs) 0 (pcL ln ws gs).length w := fun l J W hW hJ hY h0 => by
  have u := Upd.ofBelow hW
  refine (pieces1_in l B n ln aw ag ws gs cw cg R hln bw bg J W hJ (fun pre x V hj hp hV => ?_) (u.heap hb (noB _)) (hw.later u) (hg.later u) hRB hRw hRg (fun k hk => Nat.lt_of_lt_of_le (hRl k hk) u.size) h0).mono ?_
  · refine (hY pre x V hj hp hV (by have := hp.length_le; simp at this; omega)).mono ?_
    rintro e V' ⟨h1, h2, h3, _⟩
    exact ⟨h1, h2, h3⟩
  · rintro e W' ⟨h1, h2⟩
    exact ⟨h1, _, rfl, h2⟩
theorem prefix_len {l : List (Int × Int)} {pre : List (Int × Int)} {x : Int × Int} (h : pre ++ [x] <+: l) : (pre.flatMap upI).length + (upI x).length ≤ (l.flatMap upI).length := by
  obtain ⟨r, rfl⟩ := h
  simp only [List.flatMap_append, List.length_append, List.flatMap_cons, List.flatMap_nil, List.append_nil]
  omega
theorem upI_len (x : Int × Int) : (upI x).length = (x.2 - x.1).toNat := by unfold upI; simp
set_option maxRecDepth 100000 in
set_option maxHeartbeats 4000000 in
theorem gathered_any (B : Nat) (ln : Int) (aw ag a : Option Addr) (ws gs c : List Int) (cw cg cap : Nat) (w : World) (hln : 0 ≤ ln ∧ ln ≤ 128) (bw : ws.length ≤ 15 ∧ ∀ x ∈ ws, 0 ≤ x ∧ x ≤ 128) (bg : gs.length ≤ 8 ∧ ∀ x ∈ gs, 0 ≤ x ∧ x ≤ 8)
    (hb : w.heap[B]? = some (.cells #[.int .i64 ln, .slice aw ws.length cw, .slice ag gs.length cg] 52 (0, 0)))
    (hw : Ints w (.slice aw ws.length cw) ws) (hg : Ints w (.slice ag gs.length cg) gs) (hwn : ws ≠ []) (hgn : gs ≠ []) (hc : Ints w (.slice a 128 cap) c) (hl : c.length = 128)
    (hP : ∀ x ∈ pcL ln ws gs, 0 ≤ x.1 ∧ x.1 ≤ x.2 ∧ x.2 ≤ 128) (hT : ((pcL ln ws gs).flatMap upI).length = 128) :
    Calls Tryd.prog 56 #[.slice a 128 cap, .func (.func 87) #[] #[.pointer (some ⟨B, 0, none⟩)]] w (IRes w (gaL ((pcL ln ws gs).flatMap upI) c)) := by
  obtain ⟨w1, hw1⟩ : ∃ w1, w1 = w.alloc (.cells #[.slice a 128 cap] 22) := ⟨_, rfl⟩
  have b0 : w1.heap[w.heap.size]? = some (.cells #[.slice a 128 cap] 22 (0, 0)) := by rw [hw1]; exact heap_alloc_new w _
  have u1 : Upd NoB w w1 := by rw [hw1]; exact (Upd.refl _ _).alloc _
  have hs1 : w1.heap.size = w.heap.size + 1 := by rw [hw1]; simp
  have HW1 := Lib.hid hw1; have HB0 := Lib.hid b0; have U1 := Lib.hid u1; have HS1 := Lib.hid hs1
  have HB := Lib.hid hb; have HWs := Lib.hid hw; have HGs := Lib.hid hg; have HWn := Lib.hid hwn; have HGn := Lib.hid hgn; have HLn := Lib.hid hln; have BW := Lib.hid bw; have BG := Lib.hid bg
  have HC := Lib.hid hc; have HP := Lib.hid hP; have HT := Lib.hid hT; have HCl := Lib.hid hl
  have d0 : w1.cell? ⟨w.heap.size, 0, none⟩ = some (.slice a 128 cap) := blk_cell b0 0
  obtain ⟨i0, hi, hz0, hz1, hz2⟩ := info_parts Tryd.infoInt
  clear hc hP hT hl b0 u1 hs1 hb hw hg hwn hgn bw bg hln hw1
  refine (callsIn_wide (n := 2)).1 ?_
  refine callsIn_of_wp_marks Tryd.func56 rfl trivial (wpIn_wide.2 ?_) rfl
  simp only [Tryd.ntmps56, List.size_toArray, List.length_cons, List.length_nil, Nat.reduceAdd, Nat.reduceSub, Array.replicate_succ, Array.replicate_zero, List.push_toArray, List.append_toArray, List.nil_append, List.cons_append]
  go_wp2_with (rw [← HW1.out]; refine wpList_make_own w1 rfl _ _ 22 rfl w.heap.size 3 i0 (.int .i64 0) 1 Tryd.underlying22 hi hz0 hz1 .i64 .i64 _ 128 rfl rfl rfl ?c1 ?c2 ?c3 ?_)
  case c1 => rw [hz2]; omega
  case c2 => unfold maxLen; omega
  case c3 => rw [HS1.out]; omega
  intro w2 hown hgr
  have u2 : Upd NoB w1 w2 := (Upd.refl _ _).grown hgr (fun k e => by cases e)
  obtain ⟨G, hG⟩ : ∃ G, w1.heap.size = G := ⟨_, rfl⟩
  rw [hG] at hown ⊢
  have hGw : w.heap.size < G := by rw [← hG, HS1.out]; omega
  have hG2 : G < w2.heap.size := (hown.lt G rfl).2
  obtain ⟨b5, hb5⟩ : ∃ b5, w2.heap.size = b5 := ⟨_, rfl⟩
  rw [hb5] at hG2
  obtain ⟨W, hW⟩ : ∃ W, W = w2.alloc (.cells #[.slice (some ⟨G, 0, none⟩) 0 128] 22) := ⟨_, rfl⟩
  have u3 : Upd NoB w2 W := by rw [hW]; exact (Upd.refl _ _).alloc _
  have hb2 : W.heap[b5]? = some (.cells #[.slice (some ⟨G, 0, none⟩) 0 128] 22 (0, 0)) := by rw [hW, ← hb5]; exact heap_alloc_new w2 _
  have hWs : W.heap.size = b5 + 1 := by rw [hW, ← hb5]; simp
  have u0 : Upd NoB w W := U1.out.then (u2.then u3)
  have hR0 := u3.row hown (fun k _ => noB k)
  have HS := Lib.hid (pieces1_seq B 1 ln aw ag ws gs cw cg (fun k => k = G ∨ k = b5) HLn.out BW.out BG.out W (u0.heap HB.out (noB _)) (HWs.out.later u0) (HGs.out.later u0)
    (fun h => by have := lt_of_block HB.out; omega) (fun b hb h => by have := HWs.out.lt HWn.out b hb; omega) (fun b hb h => by have := HGs.out.lt HGn.out b hb; omega) (fun k h => by omega))
  have HXC := Lib.hid (HC.out.later u0)
  have HB0W := Lib.hid ((u2.then u3).heap HB0.out (noB _))
  have HW := Lib.hid hW; have U0 := Lib.hid u0; have HB2 := Lib.hid hb2; have HR0 := Lib.hid hR0; have HB5 := Lib.hid hb5
  have HSz := Lib.hid hWs
  clear hown hgr u2 hG u3 hb2 u0 hR0 hW hb5 hWs
  go_wp2_with fail
  rw [HB5.out, ← HW.out]
  refine (wpIn_wide (n := 2)).1 (wpIn_rangeQ rfl (by omega) (gf := 87) (lb := #[.pointer (some ⟨B, 0, none⟩)]) rfl trivial (enters_of Tryd.func87 (by kernel_rfl) rfl) HS.out (fun h k => h.trans k) (fun W' l o o' _ h1 h2 => kpC_putObj h1 h2) (Below.refl _ _) (fun _ => rfl)
    (fun pre W' => (∃ L : Nat, L = (pre.flatMap upI).length ∧ W'.heap[b5]? = some (.cells #[.slice (some ⟨G, 0, none⟩) L 128] 22 (0, 0)) ∧ W'.ownsRow w.heap.size 3 1 (.slice (some ⟨G, 0, none⟩) L 128) L (i64s (gaL (pre.flatMap upI) c))) ∧ Upd (fun k => k = G ∨ k = b5) W W')
    ?hI (fun _ _ _ _ _ _ hs _ _ => hs) ⟨⟨0, rfl, HB2.out, HR0.out⟩, Upd.refl _ _⟩
    (fun x a' W' => ∃ s0, b5 + 1 ≤ s0 ∧ W'.heap[s0]? = some (.cells #[.int .i64 x.1, .int .i64 x.2] 66 (0, 0)) ∧ a' = { tmps := #[.slice a 128 cap, .func (.func 87) #[] #[.pointer (some ⟨B, 0, none⟩)], .pointer (some ⟨w.heap.size, 0, none⟩), undef, .slice none 0 0, .pointer (some ⟨b5, 0, none⟩), .pointer (some ⟨s0, 0, none⟩), .slice a 128 cap, .int .i64 128, .slice (some ⟨G, 0, none⟩) 0 128, .func (.func 87) #[] #[.pointer (some ⟨B, 0, none⟩)], .agg #[.int .i64 x.1, .int .i64 x.2], undef, undef, undef, undef, undef, undef, undef, undef, undef, undef, undef], defers := [] }) ?hAx ?assign ?body ?done)
  case hI =>
    rintro pre A B' row ⟨⟨L, h1, h2, h3⟩, h4⟩ hg hr
    refine ⟨⟨L, h1, (hg.block _ (lt_of_block h2) (fun e => ?_)).trans h2, World.ownsRow.kept h3 hg (.inr (fun e => ?_))⟩, h4.grown hg (fun k e hk => ?_)⟩
    · have := (hr _ e.symm).1; have := HSz.out; omega
    · have := (hr G e.symm).1; have := HSz.out; omega
    · have := (hr k e).1; have := HSz.out; omega
  case hAx =>
    rintro x a' _ A A' row ⟨s0, h0, h1, h2⟩ hg hr
    refine ⟨s0, h0, (hg.block _ (lt_of_block h1) (fun e => ?_)).trans h1, h2⟩
    obtain ⟨_, o, ho, hc⟩ := hr _ e.symm
    rw [h1] at ho; cases ho; cases hc
  case assign =>
    rintro l pre x V K ⟨⟨L, hL, hm, hr⟩, hu⟩ hPi hK
    have uA : Upd NoB V (V.alloc (.cells #[.int .i64 x.1, .int .i64 x.2] 66)) := (Upd.refl _ _).alloc _
    gi_wp2
    exact hK _ _ (keeps_of_upd uA (fun _ _ h => h)) ⟨uA.kpC (fun _ h _ => h.elim), fun j h1 h2 => by omega⟩ ⟨⟨L, hL, uA.heap hm (noB _), uA.row hr (fun k _ => noB k)⟩, hu.alloc _⟩ hPi ⟨_, lt_of_block hm, heap_alloc_new V _, rfl⟩
  case body =>
    rintro l pre ⟨f', t'⟩ a' V ⟨⟨L, hL, hm, hr⟩, hu⟩ hPi ⟨s0, hs0, hms, rfl⟩ hVs hlen
    obtain ⟨h0, h1, h2⟩ := HP.out (f', t') (hPi.subset (List.mem_append_right _ (List.mem_singleton.2 rfl)))
    have h0 : 0 ≤ f' := h0
    have h1 : f' ≤ t' := h1
    have h2 : t' ≤ 128 := h2
    obtain ⟨f, rfl⟩ := Int.eq_ofNat_of_zero_le h0
    obtain ⟨t, rfl⟩ := Int.eq_ofNat_of_zero_le (Int.le_trans h0 h1)
    have hft : f ≤ t := by omega
    have ht : t ≤ 128 := by omega
    have hfit : L + (t - f) ≤ 128 := by
      have := prefix_len hPi
      rw [HT.out, upI_len] at this
      simp only at this
      omega
    have c0 : V.cell? ⟨w.heap.size, 0, none⟩ = some (.slice a 128 cap) := blk_cell (hu.heap HB0W.out (by omega)) 0
    have c1 : V.cell? ⟨b5, 0, none⟩ = some (.slice (some ⟨G, 0, none⟩) L 128) := blk_cell hm 0
    have c2 : V.cell? ⟨s0, 0, none⟩ = some (.int .i64 f) := blk_cell hms 0
    have c3 : V.cell? ⟨s0, 1, none⟩ = some (.int .i64 t) := blk_cell hms 1
    have hcap : 128 ≤ cap := by
      obtain ⟨_, a', c', e, ⟨hcc, _⟩, _⟩ := HXC.out
      injection e with _ _ e3
      rw [HCl.out] at hcc
      omega
    have hsl := fun w => run_slice3 w a 128 cap f t hft (by omega)
    have XV := HXC.out.upd hu (fun hne b hb h => by have := HC.out.lt hne b hb; omega)
    obtain ⟨ad, hA, hAd⟩ : ∃ ad, (if t = f then a else a.map (fun p => p.add (f * 1))) = some ad ∧ ∀ j u, (i64s (cutP c ((f : Int), (t : Int))))[j]? = some u → V.cell? (ad.add j) = some u := by
      obtain ⟨x0, hx0⟩ : ∃ x, c[0]? = some x := ⟨_, List.getElem?_eq_getElem (by rw [HCl.out]; omega)⟩
      obtain ⟨b, off, e, _⟩ := XV.cellAt hx0
      by_cases he : t = f
      · refine ⟨_, by rw [if_pos he]; exact e, fun j u hu => ?_⟩
        unfold cutP at hu
        simp only [he] at hu
        simp [i64s] at hu
      · refine ⟨⟨b, off + f, none⟩, by rw [if_neg he, e, Option.map_some, addr_add, Nat.mul_one], fun j u hu => ?_⟩
        unfold cutP at hu
        rw [i64s_get, List.getElem?_take] at hu
        split at hu
        · rw [List.getElem?_drop] at hu
          simp only [Int.toNat_natCast] at hu
          cases hx : c[f + j]? with
          | none => rw [hx] at hu; cases hu
          | some x =>
            rw [hx] at hu
            obtain ⟨b', off', e', hc'⟩ := XV.cellAt hx
            rw [e] at e'
            injection e' with e'
            injection e' with e1 e2
            subst e1; subst e2
            rw [addr_add, Nat.add_assoc, hc', ← hu]; rfl
        · cases hu
    rw [hA] at hsl
    have hcl : (i64s (cutP c ((f : Int), (t : Int)))).length = (t - f) * 1 := by
      rw [i64s_length, cutP_len h0 (by rw [HCl.out]; exact h2)]
      simp only
      omega
    have HGa := Lib.hid (show i64s (gaL ((pre ++ [((f : Int), (t : Int))]).flatMap upI) c) = i64s (gaL (pre.flatMap upI) c) ++ i64s (cutP c ((f : Int), (t : Int))) by
      rw [cutP_eq h0 (by rw [HCl.out]; exact h2), ← i64s_append]
      unfold gaL
      rw [List.flatMap_append, List.map_append]; simp)
    have HLl := Lib.hid (show L + (t - f) = ((pre ++ [((f : Int), (t : Int))]).flatMap upI).length by
      rw [List.flatMap_append, List.length_append, ← hL]
      simp only [List.flatMap_cons, List.flatMap_nil, List.append_nil, upI_len]
      omega)
    have HAd := Lib.hid hAd; have HCL := Lib.hid hcl
    have HOne := Lib.hid (i64s_one (cutP c ((f : Int), (t : Int))))
    generalize i64s (cutP c ((f : Int), (t : Int))) = cs at *
    generalize i64s (gaL (pre.flatMap upI) c) = ys at *
    obtain ⟨m, hm'⟩ : ∃ m, t - f = m := ⟨_, rfl⟩
    rw [hm'] at hsl HCL HLl hfit
    have HM := Lib.hid hm; have HR := Lib.hid hr; have HU := Lib.hid hu; have HMs := Lib.hid hms; have HVs := Lib.hid hVs
    have HPi := Lib.hid hPi
    clear hA hAd hcl hm' hm hr hu hms hVs hPi XV h0 h1 h2 hlen hL hft ht
    gi_wp2
    refine region_still_in 9 (by kernel_rfl) (by kernel_rfl) (by kernel_rfl) (fun ⟨_, _, h⟩ => h) ?_
    simp only [List.take_succ_cons, List.take_zero, List.drop_succ_cons, List.drop_zero]
    repeat still_step
    refine wpStill_nil ?_
    change wpList _ _ _ _ _ (World.drew V)
    obtain ⟨V2, hV2⟩ : ∃ V2, V2 = V.drew := ⟨_, rfl⟩
    have u2 : Upd NoB V V2 := by rw [hV2]; exact (Upd.refl _ _).drew
    have HR2 := Lib.hid (u2.row HR.out (fun k _ => noB k)); have HM2 := Lib.hid (u2.heap HM.out (noB _)); have U2 := Lib.hid u2
    have HAd2 := Lib.hid (show ∀ j u, cs[j]? = some u → V2.cell? (ad.add j) = some u from fun j u h => u2.cell (HAd.out j u h) (noB _))
    rw [← hV2]
    clear hV2 u2 c0 c1 c2 c3
    go_wp2_with (refine wpList_append_fits V2 rfl (.tmp 12) (.tmp 20) 22 rfl w.heap.size 3 i0 1 Tryd.underlying22 hi hz1 G L 128 ys rfl HR2.out ad m m cs rfl HCL.out HAd2.out HOne.out hfit ?_; intro w6 hown6 hg6; have M6 := Lib.hid ((hg6.block _ (lt_of_block HM2.out) (fun e => by have e' : b5 = G := (by injection e); omega)).trans HM2.out); have d6 := blk_cell M6.out 0; have f6 := blk_free M6.out 0; have R6 := Lib.hid hown6; have G6 := Lib.hid hg6; clear hown6 hg6)
    have u9 : Upd (fun k => k = G ∨ k = b5) V (w6.setCell ⟨b5, 0, none⟩ (.slice (some ⟨G, 0, none⟩) (L + m) 128)) :=
      ((U2.out.mono (T := fun k => k = G ∨ k = b5) (fun _ _ h => h.elim)).grown G6.out (fun j hj _ => by injection hj with hj; exact .inl hj.symm)).setCell _ (fun _ => .inr rfl)
    have u10 : Upd (fun j => j = b5) w6 (w6.setCell ⟨b5, 0, none⟩ (.slice (some ⟨G, 0, none⟩) (L + m) 128)) := (Upd.refl _ w6).setCell _ (fun _ => rfl)
    have hrow := u10.row R6.out (fun j hj (e : j = b5) => by
      have h' : G = j := (by simpa [Value.ownBlock] using hj)
      omega)
    have hSz := HSz.out
    exact ⟨keeps_of_upd u9 (fun k h1 h2 => by omega), ⟨u9.kpC (fun k h _ => h), fun j h1 h2 => by omega⟩, ⟨⟨L + m, HLl.out, block_set M6.out _, by rw [HGa.out]; exact hrow⟩, HU.out.trans u9 (fun _ _ h => h)⟩⟩
  case done =>
    rintro D xs V hD hS ⟨⟨L, hL, hm, hr⟩, hu⟩ hK
    subst hS
    have hL2 : L = 128 := by rw [hL, HT.out]
    subst hL2
    have c1 : V.cell? ⟨b5, 0, none⟩ = some (.slice (some ⟨G, 0, none⟩) 128 128) := blk_cell hm 0
    have HR := Lib.hid hr; have HU := Lib.hid hu; have HK := Lib.hid hK
    have HTg := Lib.hid (show (gaL ((pcL ln ws gs).flatMap upI) c).length = 128 by unfold gaL; rw [List.length_map]; exact HT.out)
    have hSz := HSz.out
    clear hm hr hu hK hL
    go_wp2
    refine ⟨by simp, .inl ⟨_, _, rfl, run_takeDeferred HK.out, ?_⟩⟩
    refine ⟨_, results_tmp rfl _ _ _, _, rfl, ?_, ?_⟩
    · rw [HTg.out]
      exact World.ownsRow.kept HR.out (grownBy_putObj' _ _ _) (.inr (fun e => by have e' : G = D := (by injection e); omega))
    · have hall : Upd (fun j => w.heap.size ≤ j) w (V.putObj D (.deferred none)) :=
        (((U0.out.mono (T := fun j => w.heap.size ≤ j) (fun _ _ h => h.elim)).trans HU.out (fun k _ h => by omega))).grown (grownBy_putObj' _ _ _) (fun k e hlt => by cases e; omega)
      exact hall.mono (fun k hk h => by omega)
end Go.Proofs.YtgdndcbcdoogpaaDoor
