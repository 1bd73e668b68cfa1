/- bands: scattered -/
import Derived.Test.YtgdndcbcdoogpaaDoorNU
import Derived.Deep.RegionHeldLaw
namespace Go.Proofs.YtgdndcbcdoogpaaDoor
open Go.RowKit Go.Shelf
attribute [local go_sem] Oper.semAt_some

/-- a region that draws, in a round, by a class of worlds -/
theorem region_held_in {id l₀ n₀ : Nat} {P : Program} {Q : Exit → Act → World → Prop} {a : Act} {w : World} {l : List Oper} (S : World → Prop) (hm : P.follows .mixedOrders = true) (hd : noDefer l = true) (hQ : ¬ LetsOut Q)
    (h : wpAnyH P .any l.toArray Q S l.toArray.size (Array.replicate l.toArray.size false) a w.drew) : (Code.region id l.toArray true).wpIn (Fence.wide.inRound l₀) n₀ P Q a w :=
  wpIn_region_any hm (any_in (noDefer_spec hd) hQ _ _ _ _ (wpAny_of_held _ _ _ _ h))
theorem intSz : (Tryd.prog.info? 3).map (·.size) = some 1 := by kernel_rfl
theorem splice_i64 (o cs : List Int) (k : Nat) : splice (i64s o) k (i64s cs) = i64s (splice o k cs) := by
  unfold splice i64s
  simp [List.map_take, List.map_drop]
theorem upd_setRow (w : World) (g : Nat) (cs : Array Value) : Upd (fun k => k = g) w (w.setRow g cs) := ⟨rfl, rfl, rfl, by simp [World.setRow], fun k _ hn => setRow_other w g k cs hn⟩
/-- copy into a row, the other blocks staying -/
theorem step_copy_at {P : Program} {ops : Array Oper} {o : Oper} {a : Act} {w : World} {K : Act → World → Prop} {Q : Exit → Act → World → Prop} {E : Prop} (hgd : o.guard = none) (d s : Operand) (dT sT : TypeId)
    (ho : o.op = .call { callee := .builtin .copy, args := #[d, s], argTypes := #[dT, sT] }) (elem : TypeId) (hu : P.underlying dT = some (.slice elem)) (hsz : (P.info? elem).map (·.size) = some 1)
    (dp sp : Option Addr) (dLen dCap sLen sCap : Nat) (hd : a.eval d = .slice dp dLen dCap) (hs : a.eval s = .slice sp sLen sCap)
    (g off : Nat) (cur : List Value) (t : TypeId) (hg : w.heap[g]? = some (.cells cur.toArray t (0, 0))) (cs : List Value) (hn : cs.length = Nat.min sLen dLen)
    (hpos : 0 < cs.length → dp = some ⟨g, off, none⟩ ∧ ∃ ad, sp = some ad ∧ ∀ j v, cs[j]? = some v → w.cell? (ad.add j) = some v)
    (hfit : off + cs.length ≤ cur.length) (h1 : ∀ v ∈ cs, v.oneCell' = true)
    (h : ∀ w', Hid (w'.heap[g]? = some (.cells (splice cur off cs).toArray t (0, 0))) → Upd (fun k => k = g) w w' → K (a.put o.dst (goInt cs.length)) w') :
    if Region.wanted o (yielded ops a.tmps) = true then Oper.wp P o a w K Q else E := by
  have hw : Region.wanted o (yielded ops a.tmps) = true := by simp [Region.wanted, hgd]
  rw [if_pos hw]
  by_cases h0 : cs.length = 0
  · obtain rfl : cs = [] := List.eq_nil_of_length_eq_zero h0
    have hrun := run_copy_none (P := P) w dT sT o.type elem dp sp dLen dCap sLen sCap hu hsz (by simpa using hn.symm)
    unfold Oper.wp
    simp [execOp, ho, resolve, invoke, builtin, hd, hs, hrun, Result.andThen]
    exact h w (show _ = _ by simpa [splice] using hg) (Upd.refl _ _)
  · obtain ⟨rfl, ad, rfl, hsrc⟩ := hpos (by omega)
    have hrun := run_copy_row (P := P) w dT sT o.type elem g off dLen dCap ad sLen sCap cur.toArray t cs hu hsz hg hn hsrc (by simpa using hfit) h1
    unfold Oper.wp
    simp [execOp, ho, resolve, invoke, builtin, hd, hs, hrun, Result.andThen]
    exact h _ (show _ = _ by simpa [splice] using setRow_heap w g _ _ t _ hg) (upd_setRow _ _ _)
set_option maxRecDepth 100000 in
set_option maxHeartbeats 4000000 in
theorem scattered_any (B : Nat) (ln : Int) (aw ag a : Option Addr) (ws gs c : List Int) (cw cg cap : Nat) (w : World) (hln : 0 ≤ ln ∧ ln ≤ 128) (bw : ws.length ≤ 15 ∧ ∀ x ∈ ws, 0 ≤ x ∧ x ≤ 128) (bg : gs.length ≤ 8 ∧ ∀ x ∈ gs, 0 ≤ x ∧ x ≤ 8)
    (hb : w.heap[B]? = some (.cells #[.int .i64 ln, .slice aw ws.length cw, .slice ag gs.length cg] 52 (0, 0)))
    (hw : Ints w (.slice aw ws.length cw) ws) (hg : Ints w (.slice ag gs.length cg) gs) (hwn : ws ≠ []) (hgn : gs ≠ []) (hc : Ints w (.slice a 128 cap) c) (hl : c.length = 128)
    (hP : ∀ x ∈ pcL ln ws gs, 0 ≤ x.1 ∧ x.1 ≤ x.2 ∧ x.2 ≤ 128) (hT : ((pcL ln ws gs).flatMap upI).length = 128) :
    Calls Tryd.prog 58 #[.slice a 128 cap, .func (.func 87) #[] #[.pointer (some ⟨B, 0, none⟩)]] w (IRes w (sc0 ((pcL ln ws gs).flatMap upI) c)) := by
  obtain ⟨w1, hw1⟩ : ∃ w1, w1 = w.alloc (.cells #[.slice a 128 cap] 22) := ⟨_, rfl⟩
  have b0 : w1.heap[w.heap.size]? = some (.cells #[.slice a 128 cap] 22 (0, 0)) := by rw [hw1]; exact heap_alloc_new w _
  have u1 : Upd NoB w w1 := by rw [hw1]; exact (Upd.refl _ _).alloc _
  have hs1 : w1.heap.size = w.heap.size + 1 := by rw [hw1]; simp
  have HW1 := Lib.hid hw1; have HB0 := Lib.hid b0; have U1 := Lib.hid u1; have HS1 := Lib.hid hs1
  have HB := Lib.hid hb; have HWs := Lib.hid hw; have HGs := Lib.hid hg; have HWn := Lib.hid hwn; have HGn := Lib.hid hgn; have HLn := Lib.hid hln; have BW := Lib.hid bw; have BG := Lib.hid bg
  have HC := Lib.hid hc; have HP := Lib.hid hP; have HT := Lib.hid hT; have HCl := Lib.hid hl
  have d0 : w1.cell? ⟨w.heap.size, 0, none⟩ = some (.slice a 128 cap) := blk_cell b0 0
  obtain ⟨i0, hi, hz0, hz1, hz2⟩ := info_parts Tryd.infoInt
  clear hc hP hT hl b0 u1 hs1 hb hw hg hwn hgn bw bg hln hw1
  refine (callsIn_wide (n := 2)).1 ?_
  refine callsIn_of_wp_marks Tryd.func58 rfl trivial (wpIn_wide.2 ?_) rfl
  simp only [Tryd.ntmps58, List.size_toArray, List.length_cons, List.length_nil, Nat.reduceAdd, Nat.reduceSub, Array.replicate_succ, Array.replicate_zero, List.push_toArray, List.append_toArray, List.nil_append, List.cons_append]
  go_wp2_with (rw [← HW1.out]; refine wpList_make_full w1 rfl _ _ 22 rfl w.heap.size 3 i0 (.int .i64 0) 1 Tryd.underlying22 hi hz0 hz1 .i64 .i64 _ _ 128 rfl rfl rfl rfl ?c1 ?c2 ?c3 ?_)
  case c1 => rw [hz2]; omega
  case c2 => unfold maxLen; omega
  case c3 => rw [HS1.out]; omega
  intro w2 hown hgr
  rw [made_zero] at hown
  have u2 : Upd NoB w1 w2 := (Upd.refl _ _).grown hgr (fun k e => by cases e)
  obtain ⟨G, hG⟩ : ∃ G, w1.heap.size = G := ⟨_, rfl⟩
  rw [hG] at hown ⊢
  have hGw : w.heap.size < G := by rw [← hG, HS1.out]; omega
  have hG2 : G < w2.heap.size := (hown.lt G rfl).2
  have hf2 := (row_full hown).1
  obtain ⟨b5, hb5⟩ : ∃ b5, w2.heap.size = b5 := ⟨_, rfl⟩
  rw [hb5] at hG2
  obtain ⟨W5, hW5⟩ : ∃ W, W = w2.alloc (.cells #[.slice (some ⟨G, 0, none⟩) 128 128] 22) := ⟨_, rfl⟩
  have u5 : Upd NoB w2 W5 := by rw [hW5]; exact (Upd.refl _ _).alloc _
  have n5 : W5.heap[b5]? = some (.cells #[.slice (some ⟨G, 0, none⟩) 128 128] 22 (0, 0)) := by rw [hW5, ← hb5]; exact heap_alloc_new w2 _
  have s5 : W5.heap.size = b5 + 1 := by rw [hW5, ← hb5]; simp
  obtain ⟨b6, hb6⟩ : ∃ b6, W5.heap.size = b6 := ⟨_, rfl⟩
  have h56 : b5 < b6 := by omega
  obtain ⟨W, hW⟩ : ∃ W, W = W5.alloc (.cells #[.int .i64 0] 3) := ⟨_, rfl⟩
  have u6 : Upd NoB W5 W := by rw [hW]; exact (Upd.refl _ _).alloc _
  have n6 : W.heap[b6]? = some (.cells #[.int .i64 0] 3 (0, 0)) := by rw [hW, ← hb6]; exact heap_alloc_new W5 _
  have hWs : W.heap.size = b6 + 1 := by rw [hW, ← hb6]; simp
  have u0 : Upd NoB w W := U1.out.then (u2.then (u5.then u6))
  have HS := Lib.hid (pieces1_seq B 1 ln aw ag ws gs cw cg (fun k => k = G ∨ k = b6) HLn.out BW.out BG.out W (u0.heap HB.out (noB _)) (HWs.out.later u0) (HGs.out.later u0)
    (fun h => by have := lt_of_block HB.out; omega) (fun b hb h => by have := HWs.out.lt HWn.out b hb; omega) (fun b hb h => by have := HGs.out.lt HGn.out b hb; omega) (fun k h => by omega))
  have HXC := Lib.hid (HC.out.later u0)
  have HB0W := Lib.hid ((u2.then (u5.then u6)).heap HB0.out (noB _))
  have HB5W := Lib.hid (u6.heap n5 (noB _))
  have HGW := Lib.hid ((u5.then u6).heap hf2 (noB _))
  have HW := Lib.hid hW; have U0 := Lib.hid u0; have HB6 := Lib.hid n6; have HB5 := Lib.hid hb5; have HW5 := Lib.hid hW5; have HB6' := Lib.hid (show b5 + 1 = b6 by omega)
  have HSz := Lib.hid hWs
  clear hown hgr u2 hG u5 n5 s5 u6 n6 u0 hW hW5 hb5 hb6 hWs hf2
  go_wp2_with fail
  rw [HB5.out, ← HW5.out, HB6'.out, ← HW.out]
  refine (wpIn_wide (n := 2)).1 (wpIn_rangeQ rfl (by omega) (gf := 87) (lb := #[.pointer (some ⟨B, 0, none⟩)]) rfl trivial (enters_of Tryd.func87 (by kernel_rfl) rfl) HS.out (fun h k => h.trans k) (fun W' l o o' _ h1 h2 => kpC_putObj h1 h2) (Below.refl _ _) (fun _ => rfl)
    (fun pre W' => (∃ L : Nat, L = (pre.flatMap upI).length ∧ W'.heap[b6]? = some (.cells #[.int .i64 L] 3 (0, 0)) ∧ W'.heap[G]? = some (.cells (i64s (sc0 (pre.flatMap upI) c)).toArray 3 (0, 0))) ∧ Upd (fun k => k = G ∨ k = b6) W W')
    ?hI (fun _ _ _ _ _ _ hs _ _ => hs) ⟨⟨0, rfl, HB6.out, HGW.out⟩, Upd.refl _ _⟩
    (fun x a' W' => ∃ s0, b6 + 1 ≤ s0 ∧ W'.heap[s0]? = some (.cells #[.int .i64 x.1, .int .i64 x.2] 66 (0, 0)) ∧ a' = { tmps := #[.slice a 128 cap, .func (.func 87) #[] #[.pointer (some ⟨B, 0, none⟩)], .pointer (some ⟨w.heap.size, 0, none⟩), undef, .slice none 0 0, .pointer (some ⟨b5, 0, none⟩), .pointer (some ⟨b6, 0, none⟩), .pointer (some ⟨s0, 0, none⟩), .slice a 128 cap, .int .i64 128, .slice (some ⟨G, 0, none⟩) 128 128, .func (.func 87) #[] #[.pointer (some ⟨B, 0, none⟩)], .agg #[.int .i64 x.1, .int .i64 x.2], undef, undef, undef, undef, undef, undef, undef, undef, undef, undef, undef, undef, undef, undef, undef], defers := [] }) ?hAx ?assign ?body ?done)
  case hI =>
    rintro pre A B' row ⟨⟨L, h1, h2, h3⟩, h4⟩ hg hr
    refine ⟨⟨L, h1, (hg.block _ (lt_of_block h2) (fun e => ?_)).trans h2, (hg.block _ (lt_of_block h3) (fun e => ?_)).trans h3⟩, h4.grown hg (fun k e hk => ?_)⟩
    · have := (hr _ e.symm).1; have := HSz.out; omega
    · have := (hr G e.symm).1; have := HSz.out; omega
    · have := (hr k e).1; have := HSz.out; omega
  case hAx =>
    rintro x a' _ A A' row ⟨s0, h0, h1, h2⟩ hg hr
    refine ⟨s0, h0, (hg.block _ (lt_of_block h1) (fun e => ?_)).trans h1, h2⟩
    obtain ⟨_, o, ho, hc⟩ := hr _ e.symm
    rw [h1] at ho; cases ho; cases hc
  case assign =>
    rintro l pre x V K ⟨⟨L, hL, hm, hr⟩, hu⟩ hPi hK
    have uA : Upd NoB V (V.alloc (.cells #[.int .i64 x.1, .int .i64 x.2] 66)) := (Upd.refl _ _).alloc _
    gi_wp2
    exact hK _ _ (keeps_of_upd uA (fun _ _ h => h)) ⟨uA.kpC (fun _ h _ => h.elim), fun j h1 h2 => by omega⟩ ⟨⟨L, hL, uA.heap hm (noB _), uA.heap hr (noB _)⟩, hu.alloc _⟩ hPi ⟨_, lt_of_block hm, heap_alloc_new V _, rfl⟩
  case body =>
    rintro l pre ⟨f', t'⟩ a' V ⟨⟨L, hL, hm, hr⟩, hu⟩ hPi ⟨s0, hs0, hms, rfl⟩ hVs hlen
    obtain ⟨h0, h1, h2⟩ := HP.out (f', t') (hPi.subset (List.mem_append_right _ (List.mem_singleton.2 rfl)))
    have h0 : 0 ≤ f' := h0
    have h1 : f' ≤ t' := h1
    have h2 : t' ≤ 128 := h2
    obtain ⟨f, rfl⟩ := Int.eq_ofNat_of_zero_le h0
    obtain ⟨t, rfl⟩ := Int.eq_ofNat_of_zero_le (Int.le_trans h0 h1)
    have hft : f ≤ t := by omega
    have ht : t ≤ 128 := by omega
    have hfit : L + (t - f) ≤ 128 := by
      have := prefix_len hPi
      rw [HT.out, upI_len] at this
      simp only at this
      omega
    have hcap : 128 ≤ cap := by
      obtain ⟨_, a', c', e, ⟨hcc, _⟩, _⟩ := HXC.out
      injection e with _ _ e3
      rw [HCl.out] at hcc
      omega
    have hsl := fun w => run_slice3 w (some ⟨G, 0, none⟩) 128 128 f t hft ht
    have hs2 := fun w => run_slice_lo w a 128 cap L (by omega) hcap
    have XV := HXC.out.upd hu (fun hne b hb h => by have := HC.out.lt hne b hb; omega)
    obtain ⟨d1, hd1⟩ : ∃ d1, (if t = f then (some ⟨G, 0, none⟩ : Option Addr) else (some ⟨G, 0, none⟩ : Option Addr).map (fun p => p.add (f * 1))) = d1 := ⟨_, rfl⟩
    obtain ⟨d2, hd2⟩ : ∃ d2, (if cap = L then a else a.map (fun p => p.add (L * 1))) = d2 := ⟨_, rfl⟩
    have hcs : ((c.drop L).take (t - f)).length = t - f := by rw [List.length_take, List.length_drop, HCl.out]; omega
    have hpos : 0 < (i64s ((c.drop L).take (t - f))).length → d1 = some ⟨G, f, none⟩ ∧ ∃ ad, d2 = some ad ∧ ∀ j v, (i64s ((c.drop L).take (t - f)))[j]? = some v → ∀ Z, Upd (fun k => k = G ∨ k = b6) V Z → Z.cell? (ad.add j) = some v := by
      intro hp
      rw [i64s_length, hcs] at hp
      obtain ⟨x0, hx0⟩ : ∃ x, c[0]? = some x := ⟨_, List.getElem?_eq_getElem (by rw [HCl.out]; omega)⟩
      obtain ⟨b, off, e, _⟩ := XV.cellAt hx0
      refine ⟨by rw [← hd1, if_neg (by omega), Option.map_some, addr_add, Nat.mul_one, Nat.zero_add], ⟨b, off + L, none⟩, by rw [← hd2, if_neg (by omega), e, Option.map_some, addr_add, Nat.mul_one], fun j v hv Z hZ => ?_⟩
      rw [i64s_get, List.getElem?_take] at hv
      split at hv
      · rw [List.getElem?_drop] at hv
        cases hx : c[L + j]? with
        | none => rw [hx] at hv; cases hv
        | some x =>
          rw [hx] at hv
          obtain ⟨b', off', e', hc'⟩ := (XV.upd hZ (fun hne b hb h => by have := HC.out.lt hne b hb; omega)).cellAt hx
          rw [e] at e'
          injection e' with e'
          injection e' with e1 e2
          subst e1; subst e2
          rw [addr_add, Nat.add_assoc, hc', ← hv]; rfl
      · cases hv
    rw [hd1] at hsl
    rw [hd2] at hs2
    have HGa := Lib.hid (show splice (i64s (sc0 (pre.flatMap upI) c)) f (i64s ((c.drop L).take (t - f))) = i64s (sc0 ((pre ++ [((f : Int), (t : Int))]).flatMap upI) c) by
      rw [splice_i64]
      unfold sc0
      have hzl : (scL (pre.flatMap upI) c (List.replicate 128 0)).length = 128 := by rw [scL_len, List.length_replicate]
      rw [List.flatMap_append, scL_append _ _ _ _ (by rw [← hL, HCl.out]; omega), ← hL]
      simp only [List.flatMap_cons, List.flatMap_nil, List.append_nil]
      rw [scL_piece h0 h1 (by rw [hzl]; exact h2) (by rw [List.length_drop, HCl.out]; simp only; omega)]
      simp only [Int.toNat_natCast]
      rw [show ((t : Int) - (f : Int)).toNat = t - f by omega])
    have HLl := Lib.hid (show L + (t - f) = ((pre ++ [((f : Int), (t : Int))]).flatMap upI).length by
      rw [List.flatMap_append, List.length_append, ← hL]
      simp only [List.flatMap_cons, List.flatMap_nil, List.append_nil, upI_len]
      omega)
    have HCs := Lib.hid (show (i64s ((c.drop L).take (t - f))).length = t - f by rw [i64s_length]; exact hcs)
    have HOne := Lib.hid (i64s_one ((c.drop L).take (t - f)))
    have HPos := Lib.hid hpos
    have HZl := Lib.hid (show (i64s (sc0 (pre.flatMap upI) c)).length = 128 by unfold sc0; rw [i64s_length, scL_len, List.length_replicate])
    generalize i64s ((c.drop L).take (t - f)) = cs at *
    generalize i64s (sc0 (pre.flatMap upI) c) = ys at *
    obtain ⟨m, hm'⟩ : ∃ m, t - f = m := ⟨_, rfl⟩
    rw [hm'] at hsl HLl hfit HCs
    have hfm : f + m ≤ 128 := by omega
    have HM := Lib.hid hm; have HR := Lib.hid hr; have HU := Lib.hid hu; have HMs := Lib.hid hms; have HVs := Lib.hid hVs
    have HPi := Lib.hid hPi
    have c0 : V.cell? ⟨w.heap.size, 0, none⟩ = some (.slice a 128 cap) := blk_cell (hu.heap HB0W.out (by omega)) 0
    have c1 : V.cell? ⟨b5, 0, none⟩ = some (.slice (some ⟨G, 0, none⟩) 128 128) := blk_cell (hu.heap HB5W.out (by omega)) 0
    have c2 : V.cell? ⟨s0, 0, none⟩ = some (.int .i64 f) := blk_cell hms 0
    have c3 : V.cell? ⟨s0, 1, none⟩ = some (.int .i64 t) := blk_cell hms 1
    have c4 : V.cell? ⟨b6, 0, none⟩ = some (.int .i64 L) := blk_cell hm 0
    clear hpos hcs hd1 hd2 hm' hm hr hu hms hVs hPi XV h0 h1 h2 hlen hL hft ht
    gi_wp2
    refine region_held_in (S := fun Z => Z.cell? ⟨w.heap.size, 0, none⟩ = some (.slice a 128 cap) ∧ Z.cell? ⟨b5, 0, none⟩ = some (.slice (some ⟨G, 0, none⟩) 128 128) ∧ Z.cell? ⟨s0, 0, none⟩ = some (.int .i64 f) ∧ Z.cell? ⟨s0, 1, none⟩ = some (.int .i64 t)) (by kernel_rfl) (by kernel_rfl) (fun ⟨_, _, h⟩ => h) ?_
    have hS : V.drew.cell? ⟨w.heap.size, 0, none⟩ = some (.slice a 128 cap) ∧ V.drew.cell? ⟨b5, 0, none⟩ = some (.slice (some ⟨G, 0, none⟩) 128 128) ∧ V.drew.cell? ⟨s0, 0, none⟩ = some (.int .i64 f) ∧ V.drew.cell? ⟨s0, 1, none⟩ = some (.int .i64 t) := ⟨c0, c1, c2, c3⟩
    have u2 : Upd NoB V V.drew := (Upd.refl _ _).drew
    have HRd := Lib.hid (show V.drew.heap[G]? = some (.cells ys.toArray 3 (0, 0)) from HR.out)
    have HN := Lib.hid (show cs.length = Nat.min (128 - L) m by rw [HCs.out]; exact (Nat.min_eq_right (by omega)).symm)
    have HPd := Lib.hid (show 0 < cs.length → d1 = some ⟨G, f, none⟩ ∧ ∃ ad, d2 = some ad ∧ ∀ j v, cs[j]? = some v → V.drew.cell? (ad.add j) = some v from fun hp => by
      obtain ⟨e1, ad, e2, h⟩ := HPos.out hp
      exact ⟨e1, ad, e2, fun j v hv => h j v hv V.drew (u2.mono (fun _ _ h => h.elim))⟩)
    have HFit := Lib.hid (show f + cs.length ≤ ys.length by rw [HCs.out, HZl.out]; exact hfm)
    have hLm : (L : Int) + (m : Int) ≤ 128 := by omega
    have hw1 : IntKind.i64.wrap ((L : Int) + (m : Int)) = (L : Int) + m := IntWalk.i64_in _ (by omega)
    have hw2 : wrap64 ((L : Int) + (m : Int)) = (L : Int) + m := IntWalk.wrap64_in _ (by omega)
    have hsb : w.heap.size < s0 := by omega
    have FIN := Lib.hid (fun (w4 : World) (hh : Hid (w4.heap[G]? = some (.cells (splice ys f cs).toArray 3 (0, 0)))) (hu4 : Upd (fun k => k = G) V.drew w4) => by
      have kp : ∀ {p : Addr} {v : Value}, V.drew.cell? p = some v → p.block ≠ G → w4.cell? p = some v := fun h1 h2 => hu4.cell h1 h2
      have hb6 := hu4.heap (show V.drew.heap[b6]? = some (.cells #[.int .i64 L] 3 (0, 0)) from HM.out) (show ¬ b6 = G by omega)
      have hS4 : w4.cell? ⟨w.heap.size, 0, none⟩ = some (.slice a 128 cap) ∧ w4.cell? ⟨b5, 0, none⟩ = some (.slice (some ⟨G, 0, none⟩) 128 128) ∧ w4.cell? ⟨s0, 0, none⟩ = some (.int .i64 f) ∧ w4.cell? ⟨s0, 1, none⟩ = some (.int .i64 t) :=
        ⟨kp hS.1 (by simp only; omega), kp hS.2.1 (by simp only; omega), kp hS.2.2.1 (by simp only; omega), kp hS.2.2.2 (by simp only; omega)⟩
      have u9 : Upd (fun k => k = G ∨ k = b6) V (w4.setCell ⟨b6, 0, none⟩ (.int .i64 ((L : Int) + (m : Int)))) := (((u2.mono (T := fun k => k = G ∨ k = b6) (fun _ _ h => h.elim)).trans hu4 (fun k _ h => .inl h))).setCell _ (fun _ => .inr rfl)
      have u10 : Upd (fun j => j = b6) w4 (w4.setCell ⟨b6, 0, none⟩ (.int .i64 ((L : Int) + (m : Int)))) := (Upd.refl _ w4).setCell _ (fun _ => rfl)
      have kq : ∀ {p : Addr} {v : Value}, w4.cell? p = some v → p.block ≠ b6 → (w4.setCell ⟨b6, 0, none⟩ (.int .i64 ((L : Int) + (m : Int)))).cell? p = some v := fun h1 h2 => u10.cell h1 h2
      have hSz := HSz.out
      exact (show (w4.cell? ⟨w.heap.size, 0, none⟩ = some (.slice a 128 cap) ∧ w4.cell? ⟨b5, 0, none⟩ = some (.slice (some ⟨G, 0, none⟩) 128 128) ∧ w4.cell? ⟨s0, 0, none⟩ = some (.int .i64 f) ∧ w4.cell? ⟨s0, 1, none⟩ = some (.int .i64 t)) ∧ w4.cell? ⟨b6, 0, none⟩ = some (.int .i64 L) ∧ w4.frozen? ⟨b6, 0, none⟩ = false ∧
          (((w4.setCell ⟨b6, 0, none⟩ (.int .i64 ((L : Int) + (m : Int)))).cell? ⟨w.heap.size, 0, none⟩ = some (.slice a 128 cap) ∧ (w4.setCell ⟨b6, 0, none⟩ (.int .i64 ((L : Int) + (m : Int)))).cell? ⟨b5, 0, none⟩ = some (.slice (some ⟨G, 0, none⟩) 128 128) ∧ (w4.setCell ⟨b6, 0, none⟩ (.int .i64 ((L : Int) + (m : Int)))).cell? ⟨s0, 0, none⟩ = some (.int .i64 f) ∧ (w4.setCell ⟨b6, 0, none⟩ (.int .i64 ((L : Int) + (m : Int)))).cell? ⟨s0, 1, none⟩ = some (.int .i64 t)) ∧
           (KeepsFrom W.heap.size V (w4.setCell ⟨b6, 0, none⟩ (.int .i64 ((L : Int) + (m : Int)))) ∧ (KpC (fun k => k = G ∨ k = b6) V (w4.setCell ⟨b6, 0, none⟩ (.int .i64 ((L : Int) + (m : Int)))) ∧ Win (W.heap.size + 2) 0 V (w4.setCell ⟨b6, 0, none⟩ (.int .i64 ((L : Int) + (m : Int))))) ∧
            (∃ L' : Nat, L' = ((pre ++ [((f : Int), (t : Int))]).flatMap upI).length ∧ (w4.setCell ⟨b6, 0, none⟩ (.int .i64 ((L : Int) + (m : Int)))).heap[b6]? = some (.cells #[.int .i64 L'] 3 (0, 0)) ∧ (w4.setCell ⟨b6, 0, none⟩ (.int .i64 ((L : Int) + (m : Int)))).heap[G]? = some (.cells (i64s (sc0 ((pre ++ [((f : Int), (t : Int))]).flatMap upI) c)).toArray 3 (0, 0))) ∧ Upd (fun k => k = G ∨ k = b6) W (w4.setCell ⟨b6, 0, none⟩ (.int .i64 ((L : Int) + (m : Int)))))) from
        ⟨hS4, blk_cell hb6 0, blk_free hb6 0, ⟨kq hS4.1 (by simp only; omega), kq hS4.2.1 (by simp only; omega), kq hS4.2.2.1 (by simp only; omega), kq hS4.2.2.2 (by simp only; omega)⟩,
          keeps_of_upd u9 (fun k h1 h2 => by omega), ⟨u9.kpC (fun k h _ => h), fun j h1 h2 => by omega⟩, ⟨L + m, HLl.out, by have := block_set (i := 0) hb6 (.int .i64 ((L : Int) + (m : Int))); rw [Int.natCast_add]; exact this, by rw [← HGa.out]; exact u10.heap hh.out (show ¬ G = b6 by omega)⟩, HU.out.trans u9 (fun _ _ h => h)⟩))
    change wpAnyH _ _ _ _ _ 15 #[false, false, false, false, false, false, false, false, false, false, false, false, false, false, false] { tmps := #[.slice a 128 cap, .func (.func 87) #[] #[.pointer (some ⟨B, 0, none⟩)], .pointer (some ⟨w.heap.size, 0, none⟩), undef, .slice none 0 0, .pointer (some ⟨b5, 0, none⟩), .pointer (some ⟨b6, 0, none⟩), .pointer (some ⟨s0, 0, none⟩), .slice a 128 cap, .int .i64 128, .slice (some ⟨G, 0, none⟩) 128 128, .func (.func 87) #[] #[.pointer (some ⟨B, 0, none⟩)], .agg #[.int .i64 f, .int .i64 t], undef, undef, undef, undef, undef, undef, undef, undef, undef, undef, undef, undef, undef, undef, undef], defers := [] } (World.drew V)
    refine wpAnyH_take (i := 1) (v := .slice (some ⟨G, 0, none⟩) 128 128) rfl (by kernel_rfl) (by kernel_rfl) (by kernel_rfl) (fun _ _ _ h => h) (Or.inl ⟨by rfl, fun Z hZ => ?_⟩) hS ?_
    · obtain ⟨k0, k1, k2, k3⟩ := hZ
      go_simp
    change wpAnyH _ _ _ _ _ 14 #[false, true, false, false, false, false, false, false, false, false, false, false, false, false, false] { tmps := #[.slice a 128 cap, .func (.func 87) #[] #[.pointer (some ⟨B, 0, none⟩)], .pointer (some ⟨w.heap.size, 0, none⟩), undef, .slice none 0 0, .pointer (some ⟨b5, 0, none⟩), .pointer (some ⟨b6, 0, none⟩), .pointer (some ⟨s0, 0, none⟩), .slice a 128 cap, .int .i64 128, .slice (some ⟨G, 0, none⟩) 128 128, .func (.func 87) #[] #[.pointer (some ⟨B, 0, none⟩)], .agg #[.int .i64 f, .int .i64 t], undef, .slice (some ⟨G, 0, none⟩) 128 128, undef, undef, undef, undef, undef, undef, undef, undef, undef, undef, undef, undef, undef], defers := [] } (World.drew V)
    refine wpAnyH_take (i := 2) (v := .pointer (some ⟨s0, 0, none⟩)) rfl (by kernel_rfl) (by kernel_rfl) (by kernel_rfl) (fun _ _ _ h => h) (Or.inl ⟨by rfl, fun Z hZ => ?_⟩) hS ?_
    · obtain ⟨k0, k1, k2, k3⟩ := hZ
      go_simp
    change wpAnyH _ _ _ _ _ 13 #[false, true, true, false, false, false, false, false, false, false, false, false, false, false, false] { tmps := #[.slice a 128 cap, .func (.func 87) #[] #[.pointer (some ⟨B, 0, none⟩)], .pointer (some ⟨w.heap.size, 0, none⟩), undef, .slice none 0 0, .pointer (some ⟨b5, 0, none⟩), .pointer (some ⟨b6, 0, none⟩), .pointer (some ⟨s0, 0, none⟩), .slice a 128 cap, .int .i64 128, .slice (some ⟨G, 0, none⟩) 128 128, .func (.func 87) #[] #[.pointer (some ⟨B, 0, none⟩)], .agg #[.int .i64 f, .int .i64 t], undef, .slice (some ⟨G, 0, none⟩) 128 128, .pointer (some ⟨s0, 0, none⟩), undef, undef, undef, undef, undef, undef, undef, undef, undef, undef, undef, undef], defers := [] } (World.drew V)
    refine wpAnyH_take (i := 3) (v := .int .i64 (f : Int)) rfl (by kernel_rfl) (by kernel_rfl) (by kernel_rfl) (fun _ _ _ h => h) (Or.inl ⟨by rfl, fun Z hZ => ?_⟩) hS ?_
    · obtain ⟨k0, k1, k2, k3⟩ := hZ
      go_simp
    change wpAnyH _ _ _ _ _ 12 #[false, true, true, true, false, false, false, false, false, false, false, false, false, false, false] { tmps := #[.slice a 128 cap, .func (.func 87) #[] #[.pointer (some ⟨B, 0, none⟩)], .pointer (some ⟨w.heap.size, 0, none⟩), undef, .slice none 0 0, .pointer (some ⟨b5, 0, none⟩), .pointer (some ⟨b6, 0, none⟩), .pointer (some ⟨s0, 0, none⟩), .slice a 128 cap, .int .i64 128, .slice (some ⟨G, 0, none⟩) 128 128, .func (.func 87) #[] #[.pointer (some ⟨B, 0, none⟩)], .agg #[.int .i64 f, .int .i64 t], undef, .slice (some ⟨G, 0, none⟩) 128 128, .pointer (some ⟨s0, 0, none⟩), .int .i64 (f : Int), undef, undef, undef, undef, undef, undef, undef, undef, undef, undef, undef], defers := [] } (World.drew V)
    refine wpAnyH_take (i := 4) (v := .pointer (some ⟨s0, 1, none⟩)) rfl (by kernel_rfl) (by kernel_rfl) (by kernel_rfl) (fun _ _ _ h => h) (Or.inl ⟨by rfl, fun Z hZ => ?_⟩) hS ?_
    · obtain ⟨k0, k1, k2, k3⟩ := hZ
      go_simp
    change wpAnyH _ _ _ _ _ 11 #[false, true, true, true, true, false, false, false, false, false, false, false, false, false, false] { tmps := #[.slice a 128 cap, .func (.func 87) #[] #[.pointer (some ⟨B, 0, none⟩)], .pointer (some ⟨w.heap.size, 0, none⟩), undef, .slice none 0 0, .pointer (some ⟨b5, 0, none⟩), .pointer (some ⟨b6, 0, none⟩), .pointer (some ⟨s0, 0, none⟩), .slice a 128 cap, .int .i64 128, .slice (some ⟨G, 0, none⟩) 128 128, .func (.func 87) #[] #[.pointer (some ⟨B, 0, none⟩)], .agg #[.int .i64 f, .int .i64 t], undef, .slice (some ⟨G, 0, none⟩) 128 128, .pointer (some ⟨s0, 0, none⟩), .int .i64 (f : Int), .pointer (some ⟨s0, 1, none⟩), undef, undef, undef, undef, undef, undef, undef, undef, undef, undef], defers := [] } (World.drew V)
    refine wpAnyH_take (i := 5) (v := .int .i64 (t : Int)) rfl (by kernel_rfl) (by kernel_rfl) (by kernel_rfl) (fun _ _ _ h => h) (Or.inl ⟨by rfl, fun Z hZ => ?_⟩) hS ?_
    · obtain ⟨k0, k1, k2, k3⟩ := hZ
      go_simp
    change wpAnyH _ _ _ _ _ 10 #[false, true, true, true, true, true, false, false, false, false, false, false, false, false, false] { tmps := #[.slice a 128 cap, .func (.func 87) #[] #[.pointer (some ⟨B, 0, none⟩)], .pointer (some ⟨w.heap.size, 0, none⟩), undef, .slice none 0 0, .pointer (some ⟨b5, 0, none⟩), .pointer (some ⟨b6, 0, none⟩), .pointer (some ⟨s0, 0, none⟩), .slice a 128 cap, .int .i64 128, .slice (some ⟨G, 0, none⟩) 128 128, .func (.func 87) #[] #[.pointer (some ⟨B, 0, none⟩)], .agg #[.int .i64 f, .int .i64 t], undef, .slice (some ⟨G, 0, none⟩) 128 128, .pointer (some ⟨s0, 0, none⟩), .int .i64 (f : Int), .pointer (some ⟨s0, 1, none⟩), .int .i64 (t : Int), undef, undef, undef, undef, undef, undef, undef, undef, undef], defers := [] } (World.drew V)
    refine wpAnyH_take (i := 6) (v := .pointer (some ⟨s0, 1, none⟩)) rfl (by kernel_rfl) (by kernel_rfl) (by kernel_rfl) (fun _ _ _ h => h) (Or.inl ⟨by rfl, fun Z hZ => ?_⟩) hS ?_
    · obtain ⟨k0, k1, k2, k3⟩ := hZ
      go_simp
    change wpAnyH _ _ _ _ _ 9 #[false, true, true, true, true, true, true, false, false, false, false, false, false, false, false] { tmps := #[.slice a 128 cap, .func (.func 87) #[] #[.pointer (some ⟨B, 0, none⟩)], .pointer (some ⟨w.heap.size, 0, none⟩), undef, .slice none 0 0, .pointer (some ⟨b5, 0, none⟩), .pointer (some ⟨b6, 0, none⟩), .pointer (some ⟨s0, 0, none⟩), .slice a 128 cap, .int .i64 128, .slice (some ⟨G, 0, none⟩) 128 128, .func (.func 87) #[] #[.pointer (some ⟨B, 0, none⟩)], .agg #[.int .i64 f, .int .i64 t], undef, .slice (some ⟨G, 0, none⟩) 128 128, .pointer (some ⟨s0, 0, none⟩), .int .i64 (f : Int), .pointer (some ⟨s0, 1, none⟩), .int .i64 (t : Int), .pointer (some ⟨s0, 1, none⟩), undef, undef, undef, undef, undef, undef, undef, undef], defers := [] } (World.drew V)
    refine wpAnyH_take (i := 7) (v := .int .i64 (t : Int)) rfl (by kernel_rfl) (by kernel_rfl) (by kernel_rfl) (fun _ _ _ h => h) (Or.inl ⟨by rfl, fun Z hZ => ?_⟩) hS ?_
    · obtain ⟨k0, k1, k2, k3⟩ := hZ
      go_simp
    change wpAnyH _ _ _ _ _ 8 #[false, true, true, true, true, true, true, true, false, false, false, false, false, false, false] { tmps := #[.slice a 128 cap, .func (.func 87) #[] #[.pointer (some ⟨B, 0, none⟩)], .pointer (some ⟨w.heap.size, 0, none⟩), undef, .slice none 0 0, .pointer (some ⟨b5, 0, none⟩), .pointer (some ⟨b6, 0, none⟩), .pointer (some ⟨s0, 0, none⟩), .slice a 128 cap, .int .i64 128, .slice (some ⟨G, 0, none⟩) 128 128, .func (.func 87) #[] #[.pointer (some ⟨B, 0, none⟩)], .agg #[.int .i64 f, .int .i64 t], undef, .slice (some ⟨G, 0, none⟩) 128 128, .pointer (some ⟨s0, 0, none⟩), .int .i64 (f : Int), .pointer (some ⟨s0, 1, none⟩), .int .i64 (t : Int), .pointer (some ⟨s0, 1, none⟩), .int .i64 (t : Int), undef, undef, undef, undef, undef, undef, undef], defers := [] } (World.drew V)
    refine wpAnyH_take (i := 8) (v := .slice d1 m m) rfl (by kernel_rfl) (by kernel_rfl) (by kernel_rfl) (fun _ _ _ h => h) (Or.inl ⟨by rfl, fun Z hZ => ?_⟩) hS ?_
    · obtain ⟨k0, k1, k2, k3⟩ := hZ
      go_simp
    change wpAnyH _ _ _ _ _ 7 #[false, true, true, true, true, true, true, true, true, false, false, false, false, false, false] { tmps := #[.slice a 128 cap, .func (.func 87) #[] #[.pointer (some ⟨B, 0, none⟩)], .pointer (some ⟨w.heap.size, 0, none⟩), undef, .slice none 0 0, .pointer (some ⟨b5, 0, none⟩), .pointer (some ⟨b6, 0, none⟩), .pointer (some ⟨s0, 0, none⟩), .slice a 128 cap, .int .i64 128, .slice (some ⟨G, 0, none⟩) 128 128, .func (.func 87) #[] #[.pointer (some ⟨B, 0, none⟩)], .agg #[.int .i64 f, .int .i64 t], undef, .slice (some ⟨G, 0, none⟩) 128 128, .pointer (some ⟨s0, 0, none⟩), .int .i64 (f : Int), .pointer (some ⟨s0, 1, none⟩), .int .i64 (t : Int), .pointer (some ⟨s0, 1, none⟩), .int .i64 (t : Int), .slice d1 m m, undef, undef, undef, undef, undef, undef], defers := [] } (World.drew V)
    refine wpAnyH_take (i := 9) (v := .slice a 128 cap) rfl (by kernel_rfl) (by kernel_rfl) (by kernel_rfl) (fun _ _ _ h => h) (Or.inl ⟨by rfl, fun Z hZ => ?_⟩) hS ?_
    · obtain ⟨k0, k1, k2, k3⟩ := hZ
      go_simp
    change wpAnyH _ _ _ _ _ 6 #[false, true, true, true, true, true, true, true, true, true, false, false, false, false, false] { tmps := #[.slice a 128 cap, .func (.func 87) #[] #[.pointer (some ⟨B, 0, none⟩)], .pointer (some ⟨w.heap.size, 0, none⟩), undef, .slice none 0 0, .pointer (some ⟨b5, 0, none⟩), .pointer (some ⟨b6, 0, none⟩), .pointer (some ⟨s0, 0, none⟩), .slice a 128 cap, .int .i64 128, .slice (some ⟨G, 0, none⟩) 128 128, .func (.func 87) #[] #[.pointer (some ⟨B, 0, none⟩)], .agg #[.int .i64 f, .int .i64 t], undef, .slice (some ⟨G, 0, none⟩) 128 128, .pointer (some ⟨s0, 0, none⟩), .int .i64 (f : Int), .pointer (some ⟨s0, 1, none⟩), .int .i64 (t : Int), .pointer (some ⟨s0, 1, none⟩), .int .i64 (t : Int), .slice d1 m m, .slice a 128 cap, undef, undef, undef, undef, undef], defers := [] } (World.drew V)
    refine wpAnyH_ready (rs := [0, 10]) (by kernel_rfl) (by simp) ?_
    refine AllReadyH.cons rfl (fun K hK => ?_) ?_
    · go_simp
      refine hK.out _ _ hS (fun _ => ?_)
      change wpAnyH _ _ _ _ _ 5 #[true, true, true, true, true, true, true, true, true, true, false, false, false, false, false] { tmps := #[.slice a 128 cap, .func (.func 87) #[] #[.pointer (some ⟨B, 0, none⟩)], .pointer (some ⟨w.heap.size, 0, none⟩), undef, .slice none 0 0, .pointer (some ⟨b5, 0, none⟩), .pointer (some ⟨b6, 0, none⟩), .pointer (some ⟨s0, 0, none⟩), .slice a 128 cap, .int .i64 128, .slice (some ⟨G, 0, none⟩) 128 128, .func (.func 87) #[] #[.pointer (some ⟨B, 0, none⟩)], .agg #[.int .i64 f, .int .i64 t], .int .i64 (L : Int), .slice (some ⟨G, 0, none⟩) 128 128, .pointer (some ⟨s0, 0, none⟩), .int .i64 (f : Int), .pointer (some ⟨s0, 1, none⟩), .int .i64 (t : Int), .pointer (some ⟨s0, 1, none⟩), .int .i64 (t : Int), .slice d1 m m, .slice a 128 cap, undef, undef, undef, undef, undef], defers := [] } (World.drew V)
      refine wpAnyH_ready (rs := [10]) (by kernel_rfl) (by simp) ?_
      refine AllReadyH.cons rfl (fun K hK => ?_) ?_
      · go_simp
        refine hK.out _ _ hS (fun _ => ?_)
        change wpAnyH _ _ _ _ _ 4 #[true, true, true, true, true, true, true, true, true, true, true, false, false, false, false] { tmps := #[.slice a 128 cap, .func (.func 87) #[] #[.pointer (some ⟨B, 0, none⟩)], .pointer (some ⟨w.heap.size, 0, none⟩), undef, .slice none 0 0, .pointer (some ⟨b5, 0, none⟩), .pointer (some ⟨b6, 0, none⟩), .pointer (some ⟨s0, 0, none⟩), .slice a 128 cap, .int .i64 128, .slice (some ⟨G, 0, none⟩) 128 128, .func (.func 87) #[] #[.pointer (some ⟨B, 0, none⟩)], .agg #[.int .i64 f, .int .i64 t], .int .i64 (L : Int), .slice (some ⟨G, 0, none⟩) 128 128, .pointer (some ⟨s0, 0, none⟩), .int .i64 (f : Int), .pointer (some ⟨s0, 1, none⟩), .int .i64 (t : Int), .pointer (some ⟨s0, 1, none⟩), .int .i64 (t : Int), .slice d1 m m, .slice a 128 cap, .int .i64 (L : Int), undef, undef, undef, undef], defers := [] } (World.drew V)
        refine wpAnyH_take (i := 11) (v := .slice d2 (128 - L) (cap - L)) rfl (by kernel_rfl) (by kernel_rfl) (by kernel_rfl) (fun _ _ _ h => h) (Or.inl ⟨by rfl, fun Z hZ => ?_⟩) hS ?_
        · obtain ⟨k0, k1, k2, k3⟩ := hZ
          go_simp
        change wpAnyH _ _ _ _ _ 3 #[true, true, true, true, true, true, true, true, true, true, true, true, false, false, false] { tmps := #[.slice a 128 cap, .func (.func 87) #[] #[.pointer (some ⟨B, 0, none⟩)], .pointer (some ⟨w.heap.size, 0, none⟩), undef, .slice none 0 0, .pointer (some ⟨b5, 0, none⟩), .pointer (some ⟨b6, 0, none⟩), .pointer (some ⟨s0, 0, none⟩), .slice a 128 cap, .int .i64 128, .slice (some ⟨G, 0, none⟩) 128 128, .func (.func 87) #[] #[.pointer (some ⟨B, 0, none⟩)], .agg #[.int .i64 f, .int .i64 t], .int .i64 (L : Int), .slice (some ⟨G, 0, none⟩) 128 128, .pointer (some ⟨s0, 0, none⟩), .int .i64 (f : Int), .pointer (some ⟨s0, 1, none⟩), .int .i64 (t : Int), .pointer (some ⟨s0, 1, none⟩), .int .i64 (t : Int), .slice d1 m m, .slice a 128 cap, .int .i64 (L : Int), .slice d2 (128 - L) (cap - L), undef, undef, undef], defers := [] } (World.drew V)
        refine wpAnyH_ready (rs := [12]) (by kernel_rfl) (by simp) ?_
        refine AllReadyH.cons rfl (fun K hK => ?_) ?_
        · refine step_copy_at rfl (.tmp 21) (.tmp 24) 22 22 rfl 3 Tryd.underlying22 intSz d1 d2 m m (128 - L) (cap - L) rfl rfl G f ys 3 HRd.out cs HN.out HPd.out HFit.out HOne.out ?_
          intro w4 hh hu4
          obtain ⟨hS4, hL4, hf4, HFin⟩ := FIN.out w4 hh hu4
          rw [HCs.out]
          refine hK.out _ _ hS4 (fun _ => ?_)
          change wpAnyH _ _ _ _ _ 2 #[true, true, true, true, true, true, true, true, true, true, true, true, true, false, false] { tmps := #[.slice a 128 cap, .func (.func 87) #[] #[.pointer (some ⟨B, 0, none⟩)], .pointer (some ⟨w.heap.size, 0, none⟩), undef, .slice none 0 0, .pointer (some ⟨b5, 0, none⟩), .pointer (some ⟨b6, 0, none⟩), .pointer (some ⟨s0, 0, none⟩), .slice a 128 cap, .int .i64 128, .slice (some ⟨G, 0, none⟩) 128 128, .func (.func 87) #[] #[.pointer (some ⟨B, 0, none⟩)], .agg #[.int .i64 f, .int .i64 t], .int .i64 (L : Int), .slice (some ⟨G, 0, none⟩) 128 128, .pointer (some ⟨s0, 0, none⟩), .int .i64 (f : Int), .pointer (some ⟨s0, 1, none⟩), .int .i64 (t : Int), .pointer (some ⟨s0, 1, none⟩), .int .i64 (t : Int), .slice d1 m m, .slice a 128 cap, .int .i64 (L : Int), .slice d2 (128 - L) (cap - L), .int .i64 (m : Int), undef, undef], defers := [] } w4
          refine wpAnyH_take (i := 13) (v := .int .i64 ((L : Int) + (m : Int))) rfl (by kernel_rfl) (by kernel_rfl) (by kernel_rfl) (fun _ _ _ h => h) (Or.inl ⟨by rfl, fun Z hZ => ?_⟩) hS4 ?_
          · obtain ⟨k0, k1, k2, k3⟩ := hZ
            go_simp
          change wpAnyH _ _ _ _ _ 1 #[true, true, true, true, true, true, true, true, true, true, true, true, true, true, false] { tmps := #[.slice a 128 cap, .func (.func 87) #[] #[.pointer (some ⟨B, 0, none⟩)], .pointer (some ⟨w.heap.size, 0, none⟩), undef, .slice none 0 0, .pointer (some ⟨b5, 0, none⟩), .pointer (some ⟨b6, 0, none⟩), .pointer (some ⟨s0, 0, none⟩), .slice a 128 cap, .int .i64 128, .slice (some ⟨G, 0, none⟩) 128 128, .func (.func 87) #[] #[.pointer (some ⟨B, 0, none⟩)], .agg #[.int .i64 f, .int .i64 t], .int .i64 (L : Int), .slice (some ⟨G, 0, none⟩) 128 128, .pointer (some ⟨s0, 0, none⟩), .int .i64 (f : Int), .pointer (some ⟨s0, 1, none⟩), .int .i64 (t : Int), .pointer (some ⟨s0, 1, none⟩), .int .i64 (t : Int), .slice d1 m m, .slice a 128 cap, .int .i64 (L : Int), .slice d2 (128 - L) (cap - L), .int .i64 (m : Int), .int .i64 ((L : Int) + (m : Int)), undef], defers := [] } w4
          refine wpAnyH_ready (rs := [14]) (by kernel_rfl) (by simp) ?_
          refine AllReadyH.cons rfl (fun K hK => ?_) ?_
          · go_simp
            refine hK.out _ _ (HFin.1) (fun _ => ?_)
            exact wpAnyH_done (by kernel_rfl) HFin.2 _
          · exact AllReadyH.nil
        · exact AllReadyH.nil
      · exact AllReadyH.nil
    refine AllReadyH.cons rfl (fun K hK => ?_) ?_
    · go_simp
      refine hK.out _ _ hS (fun _ => ?_)
      change wpAnyH _ _ _ _ _ 5 #[false, true, true, true, true, true, true, true, true, true, true, false, false, false, false] { tmps := #[.slice a 128 cap, .func (.func 87) #[] #[.pointer (some ⟨B, 0, none⟩)], .pointer (some ⟨w.heap.size, 0, none⟩), undef, .slice none 0 0, .pointer (some ⟨b5, 0, none⟩), .pointer (some ⟨b6, 0, none⟩), .pointer (some ⟨s0, 0, none⟩), .slice a 128 cap, .int .i64 128, .slice (some ⟨G, 0, none⟩) 128 128, .func (.func 87) #[] #[.pointer (some ⟨B, 0, none⟩)], .agg #[.int .i64 f, .int .i64 t], undef, .slice (some ⟨G, 0, none⟩) 128 128, .pointer (some ⟨s0, 0, none⟩), .int .i64 (f : Int), .pointer (some ⟨s0, 1, none⟩), .int .i64 (t : Int), .pointer (some ⟨s0, 1, none⟩), .int .i64 (t : Int), .slice d1 m m, .slice a 128 cap, .int .i64 (L : Int), undef, undef, undef, undef], defers := [] } (World.drew V)
      refine wpAnyH_take (i := 11) (v := .slice d2 (128 - L) (cap - L)) rfl (by kernel_rfl) (by kernel_rfl) (by kernel_rfl) (fun _ _ _ h => h) (Or.inl ⟨by rfl, fun Z hZ => ?_⟩) hS ?_
      · obtain ⟨k0, k1, k2, k3⟩ := hZ
        go_simp
      change wpAnyH _ _ _ _ _ 4 #[false, true, true, true, true, true, true, true, true, true, true, true, false, false, false] { tmps := #[.slice a 128 cap, .func (.func 87) #[] #[.pointer (some ⟨B, 0, none⟩)], .pointer (some ⟨w.heap.size, 0, none⟩), undef, .slice none 0 0, .pointer (some ⟨b5, 0, none⟩), .pointer (some ⟨b6, 0, none⟩), .pointer (some ⟨s0, 0, none⟩), .slice a 128 cap, .int .i64 128, .slice (some ⟨G, 0, none⟩) 128 128, .func (.func 87) #[] #[.pointer (some ⟨B, 0, none⟩)], .agg #[.int .i64 f, .int .i64 t], undef, .slice (some ⟨G, 0, none⟩) 128 128, .pointer (some ⟨s0, 0, none⟩), .int .i64 (f : Int), .pointer (some ⟨s0, 1, none⟩), .int .i64 (t : Int), .pointer (some ⟨s0, 1, none⟩), .int .i64 (t : Int), .slice d1 m m, .slice a 128 cap, .int .i64 (L : Int), .slice d2 (128 - L) (cap - L), undef, undef, undef], defers := [] } (World.drew V)
      refine wpAnyH_ready (rs := [0, 12]) (by kernel_rfl) (by simp) ?_
      refine AllReadyH.cons rfl (fun K hK => ?_) ?_
      · go_simp
        refine hK.out _ _ hS (fun _ => ?_)
        change wpAnyH _ _ _ _ _ 3 #[true, true, true, true, true, true, true, true, true, true, true, true, false, false, false] { tmps := #[.slice a 128 cap, .func (.func 87) #[] #[.pointer (some ⟨B, 0, none⟩)], .pointer (some ⟨w.heap.size, 0, none⟩), undef, .slice none 0 0, .pointer (some ⟨b5, 0, none⟩), .pointer (some ⟨b6, 0, none⟩), .pointer (some ⟨s0, 0, none⟩), .slice a 128 cap, .int .i64 128, .slice (some ⟨G, 0, none⟩) 128 128, .func (.func 87) #[] #[.pointer (some ⟨B, 0, none⟩)], .agg #[.int .i64 f, .int .i64 t], .int .i64 (L : Int), .slice (some ⟨G, 0, none⟩) 128 128, .pointer (some ⟨s0, 0, none⟩), .int .i64 (f : Int), .pointer (some ⟨s0, 1, none⟩), .int .i64 (t : Int), .pointer (some ⟨s0, 1, none⟩), .int .i64 (t : Int), .slice d1 m m, .slice a 128 cap, .int .i64 (L : Int), .slice d2 (128 - L) (cap - L), undef, undef, undef], defers := [] } (World.drew V)
        refine wpAnyH_ready (rs := [12]) (by kernel_rfl) (by simp) ?_
        refine AllReadyH.cons rfl (fun K hK => ?_) ?_
        · refine step_copy_at rfl (.tmp 21) (.tmp 24) 22 22 rfl 3 Tryd.underlying22 intSz d1 d2 m m (128 - L) (cap - L) rfl rfl G f ys 3 HRd.out cs HN.out HPd.out HFit.out HOne.out ?_
          intro w4 hh hu4
          obtain ⟨hS4, hL4, hf4, HFin⟩ := FIN.out w4 hh hu4
          rw [HCs.out]
          refine hK.out _ _ hS4 (fun _ => ?_)
          change wpAnyH _ _ _ _ _ 2 #[true, true, true, true, true, true, true, true, true, true, true, true, true, false, false] { tmps := #[.slice a 128 cap, .func (.func 87) #[] #[.pointer (some ⟨B, 0, none⟩)], .pointer (some ⟨w.heap.size, 0, none⟩), undef, .slice none 0 0, .pointer (some ⟨b5, 0, none⟩), .pointer (some ⟨b6, 0, none⟩), .pointer (some ⟨s0, 0, none⟩), .slice a 128 cap, .int .i64 128, .slice (some ⟨G, 0, none⟩) 128 128, .func (.func 87) #[] #[.pointer (some ⟨B, 0, none⟩)], .agg #[.int .i64 f, .int .i64 t], .int .i64 (L : Int), .slice (some ⟨G, 0, none⟩) 128 128, .pointer (some ⟨s0, 0, none⟩), .int .i64 (f : Int), .pointer (some ⟨s0, 1, none⟩), .int .i64 (t : Int), .pointer (some ⟨s0, 1, none⟩), .int .i64 (t : Int), .slice d1 m m, .slice a 128 cap, .int .i64 (L : Int), .slice d2 (128 - L) (cap - L), .int .i64 (m : Int), undef, undef], defers := [] } w4
          refine wpAnyH_take (i := 13) (v := .int .i64 ((L : Int) + (m : Int))) rfl (by kernel_rfl) (by kernel_rfl) (by kernel_rfl) (fun _ _ _ h => h) (Or.inl ⟨by rfl, fun Z hZ => ?_⟩) hS4 ?_
          · obtain ⟨k0, k1, k2, k3⟩ := hZ
            go_simp
          change wpAnyH _ _ _ _ _ 1 #[true, true, true, true, true, true, true, true, true, true, true, true, true, true, false] { tmps := #[.slice a 128 cap, .func (.func 87) #[] #[.pointer (some ⟨B, 0, none⟩)], .pointer (some ⟨w.heap.size, 0, none⟩), undef, .slice none 0 0, .pointer (some ⟨b5, 0, none⟩), .pointer (some ⟨b6, 0, none⟩), .pointer (some ⟨s0, 0, none⟩), .slice a 128 cap, .int .i64 128, .slice (some ⟨G, 0, none⟩) 128 128, .func (.func 87) #[] #[.pointer (some ⟨B, 0, none⟩)], .agg #[.int .i64 f, .int .i64 t], .int .i64 (L : Int), .slice (some ⟨G, 0, none⟩) 128 128, .pointer (some ⟨s0, 0, none⟩), .int .i64 (f : Int), .pointer (some ⟨s0, 1, none⟩), .int .i64 (t : Int), .pointer (some ⟨s0, 1, none⟩), .int .i64 (t : Int), .slice d1 m m, .slice a 128 cap, .int .i64 (L : Int), .slice d2 (128 - L) (cap - L), .int .i64 (m : Int), .int .i64 ((L : Int) + (m : Int)), undef], defers := [] } w4
          refine wpAnyH_ready (rs := [14]) (by kernel_rfl) (by simp) ?_
          refine AllReadyH.cons rfl (fun K hK => ?_) ?_
          · go_simp
            refine hK.out _ _ (HFin.1) (fun _ => ?_)
            exact wpAnyH_done (by kernel_rfl) HFin.2 _
          · exact AllReadyH.nil
        · exact AllReadyH.nil
      refine AllReadyH.cons rfl (fun K hK => ?_) ?_
      · refine step_copy_at rfl (.tmp 21) (.tmp 24) 22 22 rfl 3 Tryd.underlying22 intSz d1 d2 m m (128 - L) (cap - L) rfl rfl G f ys 3 HRd.out cs HN.out HPd.out HFit.out HOne.out ?_
        intro w4 hh hu4
        obtain ⟨hS4, hL4, hf4, HFin⟩ := FIN.out w4 hh hu4
        rw [HCs.out]
        refine hK.out _ _ hS4 (fun _ => ?_)
        change wpAnyH _ _ _ _ _ 3 #[false, true, true, true, true, true, true, true, true, true, true, true, true, false, false] { tmps := #[.slice a 128 cap, .func (.func 87) #[] #[.pointer (some ⟨B, 0, none⟩)], .pointer (some ⟨w.heap.size, 0, none⟩), undef, .slice none 0 0, .pointer (some ⟨b5, 0, none⟩), .pointer (some ⟨b6, 0, none⟩), .pointer (some ⟨s0, 0, none⟩), .slice a 128 cap, .int .i64 128, .slice (some ⟨G, 0, none⟩) 128 128, .func (.func 87) #[] #[.pointer (some ⟨B, 0, none⟩)], .agg #[.int .i64 f, .int .i64 t], undef, .slice (some ⟨G, 0, none⟩) 128 128, .pointer (some ⟨s0, 0, none⟩), .int .i64 (f : Int), .pointer (some ⟨s0, 1, none⟩), .int .i64 (t : Int), .pointer (some ⟨s0, 1, none⟩), .int .i64 (t : Int), .slice d1 m m, .slice a 128 cap, .int .i64 (L : Int), .slice d2 (128 - L) (cap - L), .int .i64 (m : Int), undef, undef], defers := [] } w4
        refine wpAnyH_ready (rs := [0]) (by kernel_rfl) (by simp) ?_
        refine AllReadyH.cons rfl (fun K hK => ?_) ?_
        · go_simp
          refine hK.out _ _ hS4 (fun _ => ?_)
          change wpAnyH _ _ _ _ _ 2 #[true, true, true, true, true, true, true, true, true, true, true, true, true, false, false] { tmps := #[.slice a 128 cap, .func (.func 87) #[] #[.pointer (some ⟨B, 0, none⟩)], .pointer (some ⟨w.heap.size, 0, none⟩), undef, .slice none 0 0, .pointer (some ⟨b5, 0, none⟩), .pointer (some ⟨b6, 0, none⟩), .pointer (some ⟨s0, 0, none⟩), .slice a 128 cap, .int .i64 128, .slice (some ⟨G, 0, none⟩) 128 128, .func (.func 87) #[] #[.pointer (some ⟨B, 0, none⟩)], .agg #[.int .i64 f, .int .i64 t], .int .i64 (L : Int), .slice (some ⟨G, 0, none⟩) 128 128, .pointer (some ⟨s0, 0, none⟩), .int .i64 (f : Int), .pointer (some ⟨s0, 1, none⟩), .int .i64 (t : Int), .pointer (some ⟨s0, 1, none⟩), .int .i64 (t : Int), .slice d1 m m, .slice a 128 cap, .int .i64 (L : Int), .slice d2 (128 - L) (cap - L), .int .i64 (m : Int), undef, undef], defers := [] } w4
          refine wpAnyH_take (i := 13) (v := .int .i64 ((L : Int) + (m : Int))) rfl (by kernel_rfl) (by kernel_rfl) (by kernel_rfl) (fun _ _ _ h => h) (Or.inl ⟨by rfl, fun Z hZ => ?_⟩) hS4 ?_
          · obtain ⟨k0, k1, k2, k3⟩ := hZ
            go_simp
          change wpAnyH _ _ _ _ _ 1 #[true, true, true, true, true, true, true, true, true, true, true, true, true, true, false] { tmps := #[.slice a 128 cap, .func (.func 87) #[] #[.pointer (some ⟨B, 0, none⟩)], .pointer (some ⟨w.heap.size, 0, none⟩), undef, .slice none 0 0, .pointer (some ⟨b5, 0, none⟩), .pointer (some ⟨b6, 0, none⟩), .pointer (some ⟨s0, 0, none⟩), .slice a 128 cap, .int .i64 128, .slice (some ⟨G, 0, none⟩) 128 128, .func (.func 87) #[] #[.pointer (some ⟨B, 0, none⟩)], .agg #[.int .i64 f, .int .i64 t], .int .i64 (L : Int), .slice (some ⟨G, 0, none⟩) 128 128, .pointer (some ⟨s0, 0, none⟩), .int .i64 (f : Int), .pointer (some ⟨s0, 1, none⟩), .int .i64 (t : Int), .pointer (some ⟨s0, 1, none⟩), .int .i64 (t : Int), .slice d1 m m, .slice a 128 cap, .int .i64 (L : Int), .slice d2 (128 - L) (cap - L), .int .i64 (m : Int), .int .i64 ((L : Int) + (m : Int)), undef], defers := [] } w4
          refine wpAnyH_ready (rs := [14]) (by kernel_rfl) (by simp) ?_
          refine AllReadyH.cons rfl (fun K hK => ?_) ?_
          · go_simp
            refine hK.out _ _ (HFin.1) (fun _ => ?_)
            exact wpAnyH_done (by kernel_rfl) HFin.2 _
          · exact AllReadyH.nil
        · exact AllReadyH.nil
      exact AllReadyH.nil
    exact AllReadyH.nil
  case done =>
    rintro D xs V hD hS ⟨⟨L, hL, hm, hr⟩, hu⟩ hK
    subst hS
    have c1 : V.cell? ⟨b5, 0, none⟩ = some (.slice (some ⟨G, 0, none⟩) 128 128) := blk_cell (hu.heap HB5W.out (by omega)) 0
    have HR := Lib.hid hr; have HU := Lib.hid hu; have HK := Lib.hid hK
    have HTg := Lib.hid (show (sc0 ((pcL ln ws gs).flatMap upI) c).length = 128 by unfold sc0; rw [scL_len, List.length_replicate])
    have hSz := HSz.out
    clear hm hr hu hK hL
    go_wp2
    refine ⟨by simp, .inl ⟨_, _, rfl, run_takeDeferred HK.out, ?_⟩⟩
    refine ⟨_, results_tmp rfl _ _ _, _, rfl, ?_, ?_⟩
    · rw [HTg.out]
      refine row_of_full (by rw [i64s_length]; exact HTg.out) (by unfold maxLen; omega) (by omega) ?_
      exact (World.putObj_heap_other (by omega)).trans HR.out
    · have hall : Upd (fun j => w.heap.size ≤ j) w (V.putObj D (.deferred none)) :=
        (((U0.out.mono (T := fun j => w.heap.size ≤ j) (fun _ _ h => h.elim)).trans HU.out (fun k _ h => by omega))).grown (grownBy_putObj' _ _ _) (fun k e hlt => by cases e; omega)
      exact hall.mono (fun k hk h => by omega)
end Go.Proofs.YtgdndcbcdoogpaaDoor
