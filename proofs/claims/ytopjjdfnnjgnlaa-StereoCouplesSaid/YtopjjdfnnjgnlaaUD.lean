/- stereo: channelsOf, coupling -/
import Derived.Test.YtopjjdfnnjgnlaaUC
import Derived.Deep.RegionLaw
import Derived.Deep.AppendLies
namespace Go.Proofs.Ytopjjdfnnjgnlaa
open Go.RowKit Go.Shelf

theorem Try.infoPair : (Try.prog.info? 66).map (fun i => (i.zero, i.size, i.bytes)) = some (some (.agg #[.int .i64 0, .int .i64 0]), 2, 16) := by kernel_rfl
theorem chan_size : (Try.prog.info? 51).map (·.size) = some 2 := by kernel_rfl
theorem ret_chan {fn : Func} {p u : Tmp} (h : fn.results = #[.cell p 51, .tmp u]) (tmps : Array Value) (w : World) (g : Nat) (x y : Value)
    (hp : tmps.getD p undef = .pointer (some ⟨g, 0, none⟩)) (hg : w.heap[g]? = some (.cells #[x, y] 51 (0, 0))) :
    (results fn tmps).run Try.prog w = .ok (.tuple #[.agg #[x, y], tmps.getD u undef]) w := by
  rw [results_cell_tmp h, hp]
  simp [asAddr, run_loadVar_row w g 51 51 #[x, y] (0, 0) _ hg Try.underlying51 rfl (by rw [chan_size]; rfl), Result.andThen]
theorem upd_cell2 {w w' : World} (h : Upd NoB w w') {g : Nat} (hg : w.heap.size ≤ g) (x y : Value) : Upd NoB w ((w'.setCell ⟨g, 0, none⟩ x).setCell ⟨g, 1, none⟩ y) :=
  (h.setCell x (fun h => by exfalso; have h : g < w.heap.size := h; omega)).setCell y (fun h => by exfalso; have h : g < w.heap.size := h; omega)
theorem upd_setc {w w' : World} (h : Upd NoB w w') {g : Nat} (hg : w.heap.size ≤ g) (i : Nat) (x : Value) : Upd NoB w (w'.setCell ⟨g, i, none⟩ x) :=
  h.setCell x (fun h => by exfalso; have h : g < w.heap.size := h; omega)
theorem heap_cell2 {w : World} {g : Nat} {p q x y : Value} {t : TypeId} (h : w.heap[g]? = some (.cells #[p, q] t (0, 0))) : ((w.setCell ⟨g, 0, none⟩ x).setCell ⟨g, 1, none⟩ y).heap[g]? = some (.cells #[x, y] t (0, 0)) :=
  block_set (block_set h x) y
/-- the pairs lie at a place -/
def PrsA (w : World) (b off : Nat) (p : Nat → Int × Int) (n : Nat) : Prop := ∀ t, t < n → w.cell? ⟨b, off + t * 2, none⟩ = some (.int .i64 (p t).1) ∧ w.cell? ⟨b, off + t * 2 + 1, none⟩ = some (.int .i64 (p t).2)
theorem PrsA.upd {S : Nat → Prop} {w w' : World} {b off n : Nat} {p : Nat → Int × Int} (h : PrsA w b off p n) (u : Upd S w w') (hs : ¬ S b) : PrsA w' b off p n := fun t ht => ⟨u.cell (h t ht).1 hs, u.cell (h t ht).2 hs⟩
theorem PrsA.later {w w' : World} {b off n : Nat} {p : Nat → Int × Int} (h : PrsA w b off p n) (u : Upd NoB w w') : PrsA w' b off p n := h.upd u (noB _)
/-- the cells of the first k pairs -/
def prC (p : Nat → Int × Int) (k : Nat) : List Value := (List.range k).flatMap fun t => [Value.int .i64 (p t).1, .int .i64 (p t).2]
theorem prC_succ (p : Nat → Int × Int) (k : Nat) : prC p (k + 1) = prC p k ++ [Value.int .i64 (p k).1, .int .i64 (p k).2] := by
  unfold prC; rw [List.range_succ, List.flatMap_append]; simp
theorem prC_length (p : Nat → Int × Int) : ∀ k, (prC p k).length = 2 * k
  | 0 => rfl
  | k + 1 => by rw [prC_succ, List.length_append, prC_length p k]; simp; omega
theorem prC_get (p : Nat → Int × Int) : ∀ {n k : Nat}, k < n → (prC p n)[2 * k]? = some (.int .i64 (p k).1) ∧ (prC p n)[2 * k + 1]? = some (.int .i64 (p k).2)
  | 0, k, h => by omega
  | n + 1, k, h => by
    rw [prC_succ]
    by_cases e : k = n
    · subst e
      rw [List.getElem?_append_right (by rw [prC_length]; omega), List.getElem?_append_right (by rw [prC_length]; omega), prC_length, Nat.sub_self, show 2 * k + 1 - 2 * k = 1 by omega]
      exact ⟨rfl, rfl⟩
    · rw [List.getElem?_append_left (by rw [prC_length]; omega), List.getElem?_append_left (by rw [prC_length]; omega)]
      exact prC_get p (by omega)
theorem prsA_of {w : World} {B b c n : Nat} {p : Nat → Int × Int} (h : w.ownsRow B 66 2 (.slice (some ⟨b, 0, none⟩) n c) n (prC p n)) : PrsA w b 0 p n := fun t ht => by
  have l := prC_length p n
  obtain ⟨s1, s2⟩ := prC_get p ht
  have d0 := h.cellAt (2 * t) (by omega)
  have d1 := h.cellAt (2 * t + 1) (by omega)
  rw [s1] at d0
  rw [s2] at d1
  rw [Nat.zero_add, Nat.mul_comm t 2]
  exact ⟨d0, d1⟩
theorem ch_step {W3 wr w6 : World} {G k : Nat} {va : Option Addr} {vc : Nat} {wv : Value} {t : TypeId} {cs : List Value} {o : Obj} (hu : Upd (fun j => j = G) W3 wr) (hG : G < W3.heap.size) (hb : wr.heap[G]? = some (.cells #[.slice va k vc, wv] t (0, 0)))
    (hrow : wr.ownsRow W3.heap.size 66 2 (.slice va k vc) k cs) (hg : (wr.drew.alloc o).grownBy w6 (Value.slice va k vc).ownBlock) : w6.heap[G]? = some (.cells #[.slice va k vc, wv] t (0, 0)) ∧ Upd (fun j => j = G) W3 w6 := by
  have hl := fun k e => (hrow.lt k e).1
  refine ⟨?_, (hu.then ((Upd.refl NoB wr).drew.alloc o)).grown hg (fun k e hk => absurd hk (Nat.not_lt.2 (hl k e)))⟩
  have h1 := ((Upd.refl NoB wr).drew.alloc o).heap hb (noB _)
  exact ((Upd.refl (fun q => (Value.slice va k vc).ownBlock = some q) _).grown hg (fun k hk _ => hk)).heap h1 (fun e => by have := hl G e; omega)
/-- What channelsOf answers. -/
def ChRes (w : World) (wv : Value) (p : Nat → Int × Int) (E : Int) (e : Ending) (w' : World) : Prop :=
  Upd NoB w w' ∧ if E = 0 then ∃ g c, e = .returned (.tuple #[.agg #[.slice (some ⟨g, 0, none⟩) 128 c, wv], .int .i64 0]) ∧ 128 ≤ c ∧ PrsA w' g 0 p 128 ∧ w.heap.size ≤ g else e = .returned (.tuple #[.agg #[.slice none 0 0, .slice none 0 0], .int .i64 E])
theorem ChRes.no {w w' : World} {wv : Value} {p : Nat → Int × Int} {E : Int} (hE : E ≠ 0) (u : Upd NoB w w') : ChRes w wv p E (.returned (.tuple #[.agg #[.slice none 0 0, .slice none 0 0], .int .i64 E])) w' := ⟨u, by rw [if_neg hE]⟩
set_option maxRecDepth 100000 in
set_option maxHeartbeats 8000000 in
theorem channelsOf_any (lv rv wv : Value) (l r ws : List Int) (M : Int) (w : World) (hM : 0 ≤ M ∧ M ≤ 1152921504606846976) (hl : Ints w lv l) (hr : Ints w rv r) (hw : Ints w wv ws) :
    Calls Try.prog 49 #[lv, rv, wv, .int .i64 M] w (ChRes w wv (P2 l r) (chE l r ws M)) := by
  obtain ⟨W, hW⟩ : ∃ W, W = w.alloc (.cells #[.slice none 0 0, .slice none 0 0] 51) := ⟨_, rfl⟩
  have u0 : Upd NoB w W := by rw [hW]; exact (Upd.refl _ _).alloc _
  have hs0 : W.heap.size = w.heap.size + 1 := by rw [hW]; simp
  have b0 : W.heap[w.heap.size]? = some (.cells #[.slice none 0 0, .slice none 0 0] 51 (0, 0)) := by rw [hW]; exact heap_alloc_new w _
  have HW := Lib.hid hW
  have HA := Lib.hid (areWidths_any wv ws W (hw.later u0))
  have HB1 := Lib.hid (fun V (u : Upd NoB w V) => sWithin_any lv l M V hM (hl.later u))
  have HB2 := Lib.hid (fun V (u : Upd NoB w V) => sWithin_any rv r M V hM (hr.later u))
  have HE := Lib.hid (show chE l r ws M = if isW ws then (if l.length = 128 ∧ r.length = 128 then (if inM M l && inM M r then 0 else 6) else 4) else 1 from rfl)
  have HLg := Lib.hid (fun i => (show (P2 l r i).1 = l.getD i 0 from rfl)); have HRg := Lib.hid (fun i => (show (P2 l r i).2 = r.getD i 0 from rfl))
  have HIl := Lib.hid hl; have HIr := Lib.hid hr
  have HOl := Lib.hid (fun i (h : i < l.length) => (show l[i]? = some (l.getD i 0) by rw [List.getD_eq_getElem?_getD, List.getElem?_eq_getElem h]; rfl)); have HOr := Lib.hid (fun i (h : i < r.length) => (show r[i]? = some (r.getD i 0) by rw [List.getD_eq_getElem?_getD, List.getElem?_eq_getElem h]; rfl))
  obtain ⟨la, lc, rfl⟩ := hl.form
  obtain ⟨ra, rc, rfl⟩ := hr.form
  obtain ⟨wa, wc, rfl⟩ := hw.form
  have U0 := Lib.hid u0; have B0 := Lib.hid b0
  generalize P2 l r = p at *
  generalize chE l r ws M = E at *
  generalize isW ws = z0 at *
  generalize inM M l = z1 at *
  generalize inM M r = z2 at *
  generalize ws.length = N at *
  obtain ⟨L, hL⟩ : ∃ L, l.length = L := ⟨_, rfl⟩
  obtain ⟨R, hR⟩ : ∃ R, r.length = R := ⟨_, rfl⟩
  rw [hL] at HB1 HE HIl HOl ⊢
  rw [hR] at HB2 HE HIr HOr ⊢
  clear hl hr hw hW u0 b0 hM hL hR
  cases z0 with
  | false =>
    rw [if_neg (by decide)] at HE
    rw [HE.out]
    go_enter Try.func49, Try.ntmps49
    go_wp2_with fail
    rw [← HW.out]
    refine HA.out.mono ?_
    rintro e w1 ⟨rfl, rfl⟩
    have g := cell_of_block0 B0.out
    have g1 := cell_of_block1 B0.out
    have f := free_of_block B0.out 0
    have f1 := free_of_block B0.out 1
    go_wp2_with fail
    refine bodyPost_ret (ret_chan rfl _ _ w.heap.size _ _ rfl (heap_cell2 B0.out)) rfl (ChRes.no (by decide) (upd_cell2 U0.out (Nat.le_refl _) _ _))
  | true =>
    rw [if_pos rfl] at HE
    by_cases h1 : L = 128
    · by_cases h2 : R = 128
      · rw [if_pos ⟨h1, h2⟩] at HE
        subst h1; subst h2
        cases z1 with
        | false =>
          rw [Bool.false_and, if_neg (by decide)] at HE
          rw [HE.out]
          go_enter Try.func49, Try.ntmps49
          go_wp2_with fail
          rw [← HW.out]
          refine HA.out.mono ?_
          rintro e w1 ⟨rfl, rfl⟩
          go_wp2_with fail
          refine (HB1.out _ U0.out).mono ?_
          rintro e w2 ⟨rfl, u2⟩
          have U2 := Lib.hid (U0.out.then u2); have B2 := Lib.hid (u2.heap B0.out (noB _))
          clear u2
          have g := cell_of_block0 B2.out
          have g1 := cell_of_block1 B2.out
          have f := free_of_block B2.out 0
          have f1 := free_of_block B2.out 1
          go_wp2_with fail
          refine bodyPost_ret (ret_chan rfl _ _ w.heap.size _ _ rfl (heap_cell2 B2.out)) rfl (ChRes.no (by decide) (upd_cell2 U2.out (Nat.le_refl _) _ _))
        | true =>
          cases z2 with
          | false =>
            rw [Bool.and_false, if_neg (by decide)] at HE
            rw [HE.out]
            go_enter Try.func49, Try.ntmps49
            go_wp2_with fail
            rw [← HW.out]
            refine HA.out.mono ?_
            rintro e w1 ⟨rfl, rfl⟩
            go_wp2_with fail
            refine (HB1.out _ U0.out).mono ?_
            rintro e w2 ⟨rfl, u2⟩
            have U2 := Lib.hid (U0.out.then u2); have B2 := Lib.hid (u2.heap B0.out (noB _))
            clear u2
            go_wp2_with fail
            refine (HB2.out _ U2.out).mono ?_
            rintro e w3 ⟨rfl, u3⟩
            have U3 := Lib.hid (U2.out.then u3); have B3 := Lib.hid (u3.heap B2.out (noB _))
            clear u3
            have g := cell_of_block0 B3.out
            have g1 := cell_of_block1 B3.out
            have f := free_of_block B3.out 0
            have f1 := free_of_block B3.out 1
            go_wp2_with fail
            refine bodyPost_ret (ret_chan rfl _ _ w.heap.size _ _ rfl (heap_cell2 B3.out)) rfl (ChRes.no (by decide) (upd_cell2 U3.out (Nat.le_refl _) _ _))
          | true =>
            rw [if_pos (by decide)] at HE
            rw [HE.out]
            go_enter Try.func49, Try.ntmps49
            go_wp2_with fail
            rw [← HW.out]
            refine HA.out.mono ?_
            rintro e w1 ⟨rfl, rfl⟩
            go_wp2_with fail
            refine (HB1.out _ U0.out).mono ?_
            rintro e w2 ⟨rfl, u2⟩
            have U2 := Lib.hid (U0.out.then u2); have B2 := Lib.hid (u2.heap B0.out (noB _))
            clear u2
            go_wp2_with fail
            refine (HB2.out _ U2.out).mono ?_
            rintro e w3 ⟨rfl, u3⟩
            have U3 := Lib.hid (U2.out.then u3); have B3 := Lib.hid (u3.heap B2.out (noB _))
            clear u3
            go_wp2_with fail
            have hG : (w3.alloc (.cells #[.slice none 0 0, .slice wa N wc] 51)).heap[w3.heap.size]? = some (.cells #[.slice none 0 0, .slice wa N wc] 51 (0, 0)) := heap_alloc_new w3 _
            have uG : Upd NoB w3 (w3.alloc (.cells #[.slice none 0 0, .slice wa N wc] 51)) := (Upd.refl _ _).alloc _
            have HGl := Lib.hid (lt_of_block hG)
            have HGd := Lib.hid (show w.heap.size ≠ w3.heap.size by have := lt_of_block B3.out; omega)
            have HGs := Lib.hid (show w.heap.size ≤ w3.heap.size from U3.out.size)
            have B4 := Lib.hid (uG.heap B3.out (noB _))
            have U4 := Lib.hid (U3.out.then uG)
            have HG := Lib.hid hG
            clear hG uG
            generalize w3.alloc (.cells #[.slice none 0 0, .slice wa N wc] 51) = W4 at *
            generalize w3.heap.size = G at *
            obtain ⟨i0, hi, hz0, hz1, hz2⟩ := info_parts Try.infoPair
            go_loopw [11, 40] (fun x i wr => ∃ (k : Nat) (v : Value), k ≤ 128 ∧ i = .int .i64 k ∧ wr.heap[G]? = some (.cells #[v, .slice wa N wc] 51 (0, 0)) ∧ wr.ownsRow W4.heap.size 66 2 v k (prC p k) ∧ Upd (fun j => j = G) W4 wr) (fun _ i _ => 128 - (intOf i).toNat)
            case atStart => exact ⟨0, _, Nat.zero_le _, rfl, HG.out, World.ownsRow_nil _ _ _ _, Upd.refl _ _⟩
            case round =>
              obtain ⟨k, v, hk, rfl, hb, hrow, hu⟩ := hrel
              obtain ⟨va, vc, rfl⟩ := row_form hrow
              by_cases hlt : k < 128
              · have huw : Upd NoB w wr := ⟨hu.os.trans U4.out.os, hu.tape.trans U4.out.tape, hu.output.trans U4.out.output, Nat.le_trans U4.out.size hu.size, fun q hq _ => (hu.block q (Nat.lt_of_lt_of_le hq U4.out.size) (by have := HGs.out; omega)).trans (U4.out.block q hq (noB q))⟩
                obtain ⟨bl, ol, rfl, c0⟩ := (HIl.out.later huw).cellAt (HOl.out k hlt)
                obtain ⟨br, or, rfl, c1⟩ := (HIr.out.later huw).cellAt (HOr.out k hlt)
                rw [← HLg.out] at c0
                rw [← HRg.out] at c1
                have HSt := Lib.hid (fun (o : Obj) (w6 : World) (hg : (wr.drew.alloc o).grownBy w6 (Value.slice va k vc).ownBlock) => ch_step hu HGl.out hb hrow hg)
                have hPr := prC_succ p k
                generalize (p k).1 = x at *
                generalize (p k).2 = y at *
                have HPr := Lib.hid hPr
                have d0 := cell_of_block0 (show wr.drew.heap[G]? = _ from hb)
                have dw0 := cell_of_block0 hb
                have da0 := cell_of_block0 (((Upd.refl NoB wr).alloc (.cells #[.int .i64 x, .int .i64 y] 66)).heap hb (noB _))
                have c0a := ((Upd.refl NoB wr).alloc (.cells #[.int .i64 x, .int .i64 y] 66)).cell c0 (noB _)
                have c1a := ((Upd.refl NoB wr).alloc (.cells #[.int .i64 x, .int .i64 y] 66)).cell c1 (noB _)
                have k0 : wr.drew.cell? ⟨bl, ol + k, none⟩ = some (.int .i64 x) := c0
                have k1 : wr.drew.cell? ⟨br, or + k, none⟩ = some (.int .i64 y) := c1
                have HO := Lib.hid hrow; have HB := Lib.hid hb; have HU := Lib.hid hu
                have C3 := Lib.hid (show k + 1 ≤ maxLen by unfold maxLen; omega)
                have C4 := Lib.hid (show (k + 1) * 16 ≤ 140737488355328 by omega)
                have hbs := hu.size
                clear hb hrow hu huw hPr
                go_wp2_with fail
                go_region_law (first | (refine step_append_lies _ (by rfl) _ _ _ (by rfl) W4.heap.size 66 i0 (.agg #[.int .i64 0, .int .i64 0]) 2 16 Try.underlying49 hi hz0 hz1 hz2 (by rfl) (by decide) _ k (prC p k) (by rfl) (by exact ((Upd.refl NoB wr).drew.alloc _).row HO.out (fun q _ => noB q)) ⟨wr.heap.size, 0, none⟩ 1 1 [.int .i64 x, .int .i64 y] (by rfl) (by rfl) (by exact World.news_of_block (heap_alloc_new wr.drew _)) (by intro q hq; rcases List.mem_cons.1 hq with rfl | hq; rfl; rw [List.mem_singleton] at hq; subst hq; rfl) (by decide) C3.out C4.out (by exact Nat.le_trans hbs ((Upd.refl NoB wr).drew.alloc _).size) _ (by rfl) ?_; intro g6 c6 w6 hown6 hg6 hat6 hlt6; have HX := Lib.hid (HSt.out _ w6 hg6); have HR6 := Lib.hid hown6; have m0 := cell_of_block0 HX.out.1; have mf := free_of_block HX.out.1 0; clear hown6 hg6 hat6 hlt6))
                all_goals
                  go_wp2_with fail
                  go_roundw
                  case rel => exact ⟨k + 1, .slice (some ⟨g6, 0, none⟩) (k + 1) c6, by omega, by go_num, block_set HX.out.1 _, by rw [HPr.out]; exact ((Upd.refl (fun j => j = G) w6).setCell (p := ⟨G, 0, none⟩) _ (fun _ => rfl)).row HR6.out (fun j hj e => by have := (HR6.out.lt j hj).1; have := HGl.out; omega), HX.out.2.setCell (p := ⟨G, 0, none⟩) _ (fun _ => rfl)⟩
                  case measure => simp [intOf]; omega
              · obtain rfl : k = 128 := by omega
                have hb0 := hu.heap B4.out HGd.out
                have HB := Lib.hid hb; have HB0 := Lib.hid hb0; have HO := Lib.hid hrow; have HU := Lib.hid hu
                have d0 := cell_of_block0 hb
                have d1 := cell_of_block1 hb
                have g0 := cell_of_block0 hb0
                have g1 := cell_of_block1 hb0
                have f0 := free_of_block hb0 0
                have f1 := free_of_block hb0 1
                clear hb hb0 hrow hu hlt
                go_wp2_with fail
                obtain ⟨gg, gc, e⟩ := row_slice HO.out (by decide)
                cases e
                refine bodyPost_ret (ret_chan rfl _ _ w.heap.size _ _ rfl (heap_cell2 HB0.out)) rfl ⟨?_, ?_⟩
                · have uf : Upd NoB w wr := U4.out.trans (HU.out.mono (T := fun j => w.heap.size ≤ j) (fun j _ e => by have := HGs.out; omega)) (fun j hj e => by omega)
                  exact upd_cell2 uf (Nat.le_refl _) _ _
                · rw [if_pos rfl]
                  have hg4 := HO.out.lt gg rfl
                  have hs4 := U4.out.size
                  have hp4 := prsA_of HO.out
                  refine ⟨gg, vc, rfl, row_cap HO.out, fun t ht => ?_, by omega⟩
                  have hne : w.heap.size ≠ gg := by have := lt_of_block B4.out; omega
                  have us : Upd (fun j => j = w.heap.size) wr ((wr.setCell ⟨w.heap.size, 0, none⟩ (.slice (some ⟨gg, 0, none⟩) 128 vc)).setCell ⟨w.heap.size, 1, none⟩ (.slice wa N wc)) := ((Upd.refl (fun j => j = w.heap.size) wr).setCell (p := ⟨w.heap.size, 0, none⟩) _ (fun _ => rfl)).setCell (p := ⟨w.heap.size, 1, none⟩) _ (fun _ => rfl)
                  exact (hp4.upd us (fun e => hne e.symm)) t ht
      · rw [if_neg (fun h => h2 h.2)] at HE
        subst h1
        have t2 : ((R : Int) != 128) = true := bne_iff_ne.2 (by omega)
        rw [HE.out]
        clear h2
        go_enter Try.func49, Try.ntmps49
        go_wp2_with fail
        rw [← HW.out]
        refine HA.out.mono ?_
        rintro e w1 ⟨rfl, rfl⟩
        have g := cell_of_block0 B0.out
        have g1 := cell_of_block1 B0.out
        have f := free_of_block B0.out 0
        have f1 := free_of_block B0.out 1
        go_wp2_with fail
        refine bodyPost_ret (ret_chan rfl _ _ w.heap.size _ _ rfl (heap_cell2 B0.out)) rfl (ChRes.no (by decide) (upd_cell2 U0.out (Nat.le_refl _) _ _))
    · rw [if_neg (fun h => h1 h.1)] at HE
      have t1 : ((L : Int) != 128) = true := bne_iff_ne.2 (by omega)
      rw [HE.out]
      clear h1
      go_enter Try.func49, Try.ntmps49
      go_wp2_with fail
      rw [← HW.out]
      refine HA.out.mono ?_
      rintro e w1 ⟨rfl, rfl⟩
      have g := cell_of_block0 B0.out
      have g1 := cell_of_block1 B0.out
      have f := free_of_block B0.out 0
      have f1 := free_of_block B0.out 1
      go_wp2_with fail
      refine bodyPost_ret (ret_chan rfl _ _ w.heap.size _ _ rfl (heap_cell2 B0.out)) rfl (ChRes.no (by decide) (upd_cell2 U0.out (Nat.le_refl _) _ _))
end Go.Proofs.Ytopjjdfnnjgnlaa
